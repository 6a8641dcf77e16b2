/-
  Plain mathematics of chapter 5: states are gone to from the first one on, the nearest ones first. Package prop's search in plain words: places that are come to, each by a step from an earlier one. Plain mathematics: a machine plays as its program does. Package prop's map of places that a search has made: what is found in it, and how it grows. Rows of bools in memory, and what lies behind them. A machine's table, state by state, as it lies in memory.
-/
import Derived.Test.YtgldbliohpfljaaGreatDoorScTwoAll
import Derived.Test.YtgldbliohpfljaaGreatDoorRfStateMAll
import Derived.Maps.OwnSet
import Derived.Maps.OwnOps
import Derived.Maps.Views
import Derived.DeepKeys4
namespace Go.Proofs.YtgldbliohpfljaaGreatDoor
section
namespace Rc
/-- how a state is come to: in how many scans, from which one, by which input -/
structure Stp where
  far : Int
  frm : Nat
  by_ : Nat
structure Qu where
  steps : List Stp
  met : List Nat
def st0 : Stp := ⟨0, 0, 0⟩
def Qu.at_ (q : Qu) (s : Nat) : Stp := q.steps.getD s st0
def see (f : Nat) (q : Qu) (k s : Nat) : Qu := if (q.at_ s).far < 0 then ⟨q.steps.set s ⟨(q.at_ f).far + 1, f, k⟩, q.met ++ [s]⟩ else q
def seesTo (l : List Nat) (f : Nat) (q : Qu) : Nat → Qu
  | 0 => q
  | k + 1 => see f (seesTo l f q k) k (l.getD k 0)
def rounds (next : Nat → List Nat) (q : Qu) : Nat → Qu
  | 0 => q
  | k + 1 => match (rounds next q k).met[k]? with
    | some f => seesTo (next f) f (rounds next q k) (next f).length
    | none => rounds next q k
def begin (S : Nat) : Qu := ⟨(List.replicate S ⟨-1, 0, 0⟩).set 0 ⟨0, 0, 0⟩, [0]⟩
def walk (next : Nat → List Nat) (S : Nat) : Qu := rounds next (begin S) S
/-- what stands while states are gone to: the first k of those met are done, of the next one the first b inputs -/
structure Ok (next : Nat → List Nat) (S : Nat) (q : Qu) (k b : Nat) : Prop where
  len : q.steps.length = S
  nd : q.met.Nodup
  lt : ∀ s, s ∈ q.met → s < S
  vis : ∀ s, s ∈ q.met → 0 ≤ (q.at_ s).far
  nev : ∀ s, s < S → s ∉ q.met → q.at_ s = ⟨-1, 0, 0⟩
  hd : q.met[0]? = some 0
  zero : (q.at_ 0).far = 0
  par : ∀ s, s ∈ q.met → s ≠ 0 → (q.at_ s).frm ∈ q.met ∧ (q.at_ s).far = (q.at_ (q.at_ s).frm).far + 1 ∧ (next (q.at_ s).frm)[(q.at_ s).by_]? = some s
  mono : ∀ (i j s t : Nat), i ≤ j → q.met[i]? = some s → q.met[j]? = some t → (q.at_ s).far ≤ (q.at_ t).far
  up : ∀ (i s : Nat), q.met[i]? = some s → (q.at_ s).far ≤ i
  near : ∀ (f s : Nat), q.met[k]? = some f → s ∈ q.met → (q.at_ s).far ≤ (q.at_ f).far + 1
  done : ∀ (j f u : Nat), j < k → q.met[j]? = some f → u ∈ next f → u ∈ q.met ∧ (q.at_ u).far ≤ (q.at_ f).far + 1
  part : ∀ (f i u : Nat), q.met[k]? = some f → i < b → (next f)[i]? = some u → u ∈ q.met ∧ (q.at_ u).far ≤ (q.at_ f).far + 1
theorem at_set (q : Qu) (s t : Nat) (x : Stp) (m : List Nat) (hs : s < q.steps.length) : (Qu.mk (q.steps.set s x) m).at_ t = if t = s then x else q.at_ t := by
  unfold Qu.at_
  by_cases h : t = s
  · subst h; rw [if_pos rfl, List.getD_eq_getElem?_getD, List.getElem?_set_self hs]; rfl
  · rw [if_neg h, List.getD_eq_getElem?_getD, List.getElem?_set_ne (fun e => h e.symm), List.getD_eq_getElem?_getD]
theorem see_ok {next : Nat → List Nat} {S : Nat} {q : Qu} {k b f s : Nat} (h : Ok next S q k b) (hf : q.met[k]? = some f) (hs : s < S) (hb : (next f)[b]? = some s) : Ok next S (see f q b s) k (b + 1) ∧ (see f q b s).met[k]? = some f := by
  unfold see
  have hfm : f ∈ q.met := List.mem_of_getElem? hf
  have hkl : k < q.met.length := (List.getElem?_eq_some_iff.1 hf).1
  by_cases hv : (q.at_ s).far < 0
  · rw [if_pos hv]
    have hsm : s ∉ q.met := fun hm => by have := h.vis s hm; omega
    have hsl : s < q.steps.length := by rw [h.len]; exact hs
    have hat := fun t => at_set q s t ⟨(q.at_ f).far + 1, f, b⟩ (q.met ++ [s]) hsl
    have hold : ∀ t, t ∈ q.met → (Qu.mk (q.steps.set s ⟨(q.at_ f).far + 1, f, b⟩) (q.met ++ [s])).at_ t = q.at_ t := fun t ht => by
      rw [hat, if_neg]; intro e; subst e; exact hsm ht
    have hnew : (Qu.mk (q.steps.set s ⟨(q.at_ f).far + 1, f, b⟩) (q.met ++ [s])).at_ s = ⟨(q.at_ f).far + 1, f, b⟩ := by rw [hat, if_pos rfl]
    have hget : ∀ (i t : Nat), (q.met ++ [s])[i]? = some t → (i < q.met.length ∧ q.met[i]? = some t ∧ t ∈ q.met) ∨ (i = q.met.length ∧ t = s) := fun i t ht => by
      by_cases hi : i < q.met.length
      · rw [List.getElem?_append_left hi] at ht
        exact .inl ⟨hi, ht, List.mem_of_getElem? ht⟩
      · rw [List.getElem?_append_right (by omega)] at ht
        have hl : i - q.met.length < [s].length := (List.getElem?_eq_some_iff.1 ht).1
        have hi2 : i = q.met.length := by simp at hl; omega
        subst hi2
        simp at ht
        exact .inr ⟨rfl, ht.symm⟩
    have hf2 : (q.met ++ [s])[k]? = some f := by rw [List.getElem?_append_left hkl]; exact hf
    have hfu := h.up k f hf
    refine ⟨⟨by simp [h.len], ?_, ?_, ?_, ?_, ?_, ?_, ?_, ?_, ?_, ?_, ?_, ?_⟩, hf2⟩
    · rw [List.nodup_append]
      exact ⟨h.nd, by simp, fun a ha c hc => by simp at hc; subst hc; intro e; subst e; exact hsm ha⟩
    · intro t ht
      rcases List.mem_append.1 ht with ht | ht
      · exact h.lt t ht
      · simp at ht; subst ht; exact hs
    · intro t ht
      rcases List.mem_append.1 ht with ht | ht
      · rw [hold t ht]; exact h.vis t ht
      · simp at ht; subst ht; rw [hnew]; have := h.vis f hfm; simp only; omega
    · intro t ht hnm
      have h1 : t ∉ q.met := fun hm => hnm (List.mem_append.2 (.inl hm))
      have h2 : t ≠ s := fun e => hnm (List.mem_append.2 (.inr (by simp [e])))
      rw [hat, if_neg h2]; exact h.nev t ht h1
    · rw [List.getElem?_append_left (by omega)]; exact h.hd
    · rw [hold 0 (List.mem_of_getElem? h.hd)]; exact h.zero
    · intro t ht hne
      rcases List.mem_append.1 ht with ht | ht
      · obtain ⟨p1, p2, p3⟩ := h.par t ht hne
        rw [hold t ht, hold _ p1]
        exact ⟨List.mem_append.2 (.inl p1), p2, p3⟩
      · simp at ht; subst ht
        rw [hnew]; simp only
        rw [hold f hfm]
        exact ⟨List.mem_append.2 (.inl hfm), rfl, hb⟩
    · intro i j a c hij ha hc
      rcases hget i a ha with ⟨i1, i2, i3⟩ | ⟨i1, rfl⟩
      · rcases hget j c hc with ⟨j1, j2, j3⟩ | ⟨j1, rfl⟩
        · rw [hold a i3, hold c j3]; exact h.mono i j a c hij i2 j2
        · rw [hold a i3, hnew]; exact h.near f a hf i3
      · rcases hget j c hc with ⟨j1, j2, j3⟩ | ⟨j1, rfl⟩
        · omega
        · exact Int.le_refl _
    · intro i a ha
      rcases hget i a ha with ⟨i1, i2, i3⟩ | ⟨i1, rfl⟩
      · rw [hold a i3]; exact h.up i a i2
      · rw [hnew, i1]; simp only; omega
    · intro g a hg ha
      rw [hf2] at hg
      cases hg
      rw [hold f hfm]
      rcases List.mem_append.1 ha with ha | ha
      · rw [hold a ha]; exact h.near f a hf ha
      · simp at ha; subst ha; rw [hnew]; exact Int.le_refl _
    · intro j g u hj hg hu
      have hjl : j < q.met.length := by omega
      rw [List.getElem?_append_left hjl] at hg
      obtain ⟨d1, d2⟩ := h.done j g u hj hg hu
      rw [hold u d1, hold g (List.mem_of_getElem? hg)]
      exact ⟨List.mem_append.2 (.inl d1), d2⟩
    · intro g i u hg hi hu
      rw [hf2] at hg
      cases hg
      by_cases hib : i < b
      · obtain ⟨d1, d2⟩ := h.part f i u hf hib hu
        rw [hold u d1, hold f hfm]
        exact ⟨List.mem_append.2 (.inl d1), d2⟩
      · have : i = b := by omega
        subst this
        rw [hb] at hu
        cases hu
        rw [hnew, hold f hfm]
        exact ⟨List.mem_append.2 (.inr (by simp)), Int.le_refl _⟩
  · rw [if_neg hv]
    have hsm : s ∈ q.met := by
      refine Classical.byContradiction fun hm => hv ?_
      rw [h.nev s hs hm]; decide
    refine ⟨{ h with part := ?_ }, hf⟩
    intro g i u hg hi hu
    by_cases hib : i < b
    · exact h.part g i u hg hib hu
    · have : i = b := by omega
      subst this
      rw [hf] at hg
      cases hg
      rw [hb] at hu
      cases hu
      exact ⟨hsm, h.near f s hf hsm⟩
theorem seesTo_ok {next : Nat → List Nat} {S : Nat} {q : Qu} {k f : Nat} (h : Ok next S q k 0) (hf : q.met[k]? = some f) (hn : ∀ s, s ∈ next f → s < S) : ∀ b, b ≤ (next f).length → Ok next S (seesTo (next f) f q b) k b ∧ (seesTo (next f) f q b).met[k]? = some f
  | 0, _ => ⟨h, hf⟩
  | b + 1, hb => by
    obtain ⟨h1, h2⟩ := seesTo_ok h hf hn b (by omega)
    have hbl : b < (next f).length := by omega
    have e : (next f).getD b 0 = (next f)[b] := by simp [hbl]
    show Ok next S (see f (seesTo (next f) f q b) b ((next f).getD b 0)) k (b + 1) ∧ (see f (seesTo (next f) f q b) b ((next f).getD b 0)).met[k]? = some f
    rw [e]
    refine see_ok h1 h2 (hn _ (List.getElem_mem hbl)) (List.getElem?_eq_getElem hbl)
/-- one that is met next lies no nearer -/
theorem next_ok {next : Nat → List Nat} {S : Nat} {q : Qu} {k f : Nat} (h : Ok next S q k (next f).length) (hf : q.met[k]? = some f) : Ok next S q (k + 1) 0 := by
  refine { h with near := ?_, done := ?_, part := fun _ _ _ _ hi _ => absurd hi (by omega) }
  · intro g s hg hs
    have h1 := h.near f s hf hs
    have h2 := h.mono k (k + 1) f g (by omega) hf hg
    omega
  · intro j g u hj hg hu
    by_cases hjk : j < k
    · exact h.done j g u hjk hg hu
    · have : j = k := by omega
      subst this
      rw [hf] at hg
      cases hg
      obtain ⟨i, hi, rfl⟩ := List.getElem_of_mem hu
      exact h.part f i _ hf hi (List.getElem?_eq_getElem hi)
theorem begin_ok (next : Nat → List Nat) (S : Nat) (hS : 1 ≤ S) : Ok next S (begin S) 0 0 := by
  have h0 : (begin S).at_ 0 = ⟨0, 0, 0⟩ := by
    unfold begin Qu.at_
    rw [List.getD_eq_getElem?_getD, List.getElem?_set_self (by simp; omega)]; rfl
  have hm : ∀ s, s ∈ (begin S).met → s = 0 := fun s hs => by simpa [begin] using hs
  have hg : ∀ (i s : Nat), (begin S).met[i]? = some s → i = 0 ∧ s = 0 := fun i s hi => by
    cases i with
    | zero => simp [begin] at hi; exact ⟨rfl, hi.symm⟩
    | succ i => simp [begin] at hi
  refine ⟨by simp [begin], by simp [begin], ?_, ?_, ?_, rfl, by rw [h0], ?_, ?_, ?_, ?_, ?_, ?_⟩
  · intro s hs; rw [hm s hs]; omega
  · intro s hs; rw [hm s hs, h0]; decide
  · intro s hs hn
    have hne : s ≠ 0 := fun e => hn (by simp [begin, e])
    unfold begin Qu.at_
    rw [List.getD_eq_getElem?_getD, List.getElem?_set_ne (fun e => hne e.symm), List.getElem?_replicate, if_pos hs]; rfl
  · intro s hs hne; exact absurd (hm s hs) hne
  · intro i j s t _ hi hj; rw [(hg i s hi).2, (hg j t hj).2]; exact Int.le_refl _
  · intro i s hi; rw [(hg i s hi).2, (hg i s hi).1, h0]; decide
  · intro f s hf hs; rw [hm s hs, (hg _ f hf).2, h0]; decide
  · intro j f u hj; omega
  · intro f i u _ hi; omega
theorem Ok.many {next : Nat → List Nat} {S : Nat} {q : Qu} {k b : Nat} (h : Ok next S q k b) : q.met.length ≤ S := by
  have h1 : q.met ⊆ List.range S := fun s hs => List.mem_range.2 (h.lt s hs)
  have := h.nd.length_le_of_subset h1
  simpa using this
theorem rounds_ok {next : Nat → List Nat} {S : Nat} {q : Qu} (h : Ok next S q 0 0) (hn : ∀ f s, f < S → s ∈ next f → s < S) : ∀ k, Ok next S (rounds next q k) k 0
  | 0 => h
  | k + 1 => by
    have ih := rounds_ok h hn k
    cases hm : (rounds next q k).met[k]? with
    | some f =>
      have e : rounds next q (k + 1) = seesTo (next f) f (rounds next q k) (next f).length := by rw [rounds, hm]
      rw [e]
      obtain ⟨h1, h2⟩ := seesTo_ok ih hm (fun s hs => hn f s (ih.lt f (List.mem_of_getElem? hm)) hs) (next f).length (Nat.le_refl _)
      exact next_ok h1 h2
    | none =>
      have e : rounds next q (k + 1) = rounds next q k := by rw [rounds, hm]
      rw [e]
      have hl : (rounds next q k).met.length ≤ k := List.getElem?_eq_none_iff.1 hm
      refine { ih with near := ?_, done := ?_, part := fun _ _ _ _ hi _ => absurd hi (by omega) }
      · intro f s hf; have := (List.getElem?_eq_some_iff.1 hf).1; omega
      · intro j f u hj hf hu
        have := (List.getElem?_eq_some_iff.1 hf).1
        exact ih.done j f u (by omega) hf hu
theorem rounds_stay {next : Nat → List Nat} {q : Qu} (k : Nat) (h : (rounds next q k).met.length ≤ k) : ∀ j, rounds next q (k + j) = rounds next q k
  | 0 => rfl
  | j + 1 => by
    have ih := rounds_stay k h j
    have hm : (rounds next q (k + j)).met[k + j]? = none := by rw [ih]; exact List.getElem?_eq_none_iff.2 (by omega)
    show rounds next q (k + j + 1) = _
    rw [rounds, hm]; exact ih
/-- all is gone to -/
structure Far (next : Nat → List Nat) (S : Nat) (q : Qu) : Prop where
  len : q.steps.length = S
  low : ∀ s, s < S → -1 ≤ (q.at_ s).far ∧ (q.at_ s).far < S ∧ ((q.at_ s).far < 0 → (q.at_ s).far = -1)
  zero : (q.at_ 0).far = 0
  one : ∀ s, s < S → (q.at_ s).far = 0 → s = 0
  par : ∀ s, s < S → 0 < (q.at_ s).far → (q.at_ s).frm < S ∧ (q.at_ (q.at_ s).frm).far = (q.at_ s).far - 1 ∧ (next (q.at_ s).frm)[(q.at_ s).by_]? = some s
  near : ∀ t u, t < S → 0 ≤ (q.at_ t).far → u ∈ next t → 0 ≤ (q.at_ u).far ∧ (q.at_ u).far ≤ (q.at_ t).far + 1
theorem walk_far (next : Nat → List Nat) (S : Nat) (hS : 1 ≤ S) (hn : ∀ f s, f < S → s ∈ next f → s < S) : Far next S (walk next S) := by
  have h : Ok next S (walk next S) S 0 := rounds_ok (begin_ok next S hS) hn S
  have hm := h.many
  have hin : ∀ s, s < S → 0 ≤ ((walk next S).at_ s).far → s ∈ (walk next S).met := fun s hs h0 => by
    refine Classical.byContradiction fun hx => ?_
    rw [h.nev s hs hx] at h0
    exact absurd h0 (by decide)
  have hlow : ∀ s, s ∈ (walk next S).met → 0 ≤ ((walk next S).at_ s).far ∧ ((walk next S).at_ s).far < S := fun s hs => by
    obtain ⟨i, hi, rfl⟩ := List.getElem_of_mem hs
    have := h.up i _ (List.getElem?_eq_getElem hi)
    exact ⟨h.vis _ hs, by omega⟩
  refine ⟨h.len, ?_, h.zero, ?_, ?_, ?_⟩
  · intro s hs
    by_cases hx : s ∈ (walk next S).met
    · have := hlow s hx; omega
    · rw [h.nev s hs hx]; refine ⟨by decide, by simp only; omega, fun _ => rfl⟩
  · intro s hs h0
    refine Classical.byContradiction fun hne => ?_
    obtain ⟨p1, p2, _⟩ := h.par s (hin s hs (by omega)) hne
    have := h.vis _ p1
    omega
  · intro s hs h0
    have hne : s ≠ 0 := fun e => by subst e; rw [h.zero] at h0; omega
    obtain ⟨p1, p2, p3⟩ := h.par s (hin s hs (by omega)) hne
    exact ⟨h.lt _ p1, by omega, p3⟩
  · intro t u ht h0 hu
    obtain ⟨j, hj, e⟩ := List.getElem_of_mem (hin t ht h0)
    obtain ⟨d1, d2⟩ := h.done j t u (by omega) (by rw [List.getElem?_eq_getElem hj, e]) hu
    exact ⟨h.vis u d1, d2⟩
/-- the inputs of the way to a state, from the last one back -/
def pathOf (q : Qu) : Nat → Nat → List Nat
  | 0, _ => []
  | n + 1, s => pathOf q n (q.at_ s).frm ++ [(q.at_ s).by_]
theorem pathOf_len (q : Qu) : ∀ n s, (pathOf q n s).length = n
  | 0, _ => rfl
  | n + 1, s => by simp [pathOf, pathOf_len q n]
/-- where inputs lead to -/
def go (next : Nat → List Nat) : Nat → List Nat → Nat
  | s, [] => s
  | s, i :: l => go next ((next s).getD i 0) l
theorem go_snoc (next : Nat → List Nat) : ∀ (s : Nat) (l : List Nat) (i : Nat), go next s (l ++ [i]) = (next (go next s l)).getD i 0
  | _, [], _ => rfl
  | s, a :: l, i => by show go next _ (l ++ [i]) = _; rw [go_snoc]; rfl
/-- a path leads to its state -/
theorem path_goes {next : Nat → List Nat} {S : Nat} {q : Qu} (h : Far next S q) : ∀ (n s : Nat), s < S → (q.at_ s).far = n → go next 0 (pathOf q n s) = s ∧ (∀ j, j ≤ n → go next 0 ((pathOf q n s).take j) < S ∧ (q.at_ (go next 0 ((pathOf q n s).take j))).far = j) ∧ ∀ j (i : Nat), (pathOf q n s)[j]? = some i → i < (next (go next 0 ((pathOf q n s).take j))).length
  | 0, s, hs, hf => by
    have := h.one s hs hf
    subst this
    refine ⟨rfl, fun j hj => ?_, fun j i hi => by simp [pathOf] at hi⟩
    have : j = 0 := by omega
    subst this
    exact ⟨hs, h.zero⟩
  | n + 1, s, hs, hf => by
    obtain ⟨p1, p2, p3⟩ := h.par s hs (by omega)
    obtain ⟨g1, g2, g3⟩ := path_goes h n (q.at_ s).frm p1 (by omega)
    have hl := pathOf_len q n (q.at_ s).frm
    have e1 : go next 0 (pathOf q (n + 1) s) = s := by
      show go next 0 (pathOf q n (q.at_ s).frm ++ [(q.at_ s).by_]) = s
      rw [go_snoc, g1, List.getD_eq_getElem?_getD, p3]; rfl
    refine ⟨e1, fun j hj => ?_, fun j i hi => ?_⟩
    · by_cases hjn : j ≤ n
      · have e : (pathOf q (n + 1) s).take j = (pathOf q n (q.at_ s).frm).take j := by
          show (pathOf q n (q.at_ s).frm ++ [(q.at_ s).by_]).take j = _
          rw [List.take_append_of_le_length (by omega)]
        rw [e]; exact g2 j hjn
      · have : j = n + 1 := by omega
        subst this
        rw [List.take_of_length_le (by rw [pathOf_len]; exact Nat.le_refl _), e1]
        exact ⟨hs, hf⟩
    · have hjl : j < n + 1 := by have := (List.getElem?_eq_some_iff.1 hi).1; rw [pathOf_len] at this; exact this
      have e : (pathOf q (n + 1) s).take j = (pathOf q n (q.at_ s).frm).take j := by
        show (pathOf q n (q.at_ s).frm ++ [(q.at_ s).by_]).take j = _
        rw [List.take_append_of_le_length (by omega)]
      rw [e]
      by_cases hjn : j < n
      · refine g3 j i ?_
        have h2 : (pathOf q n (q.at_ s).frm ++ [(q.at_ s).by_])[j]? = some i := hi
        rw [List.getElem?_append_left (by omega)] at h2; exact h2
      · have : j = n := by omega
        subst this
        have h2 : (pathOf q j (q.at_ s).frm ++ [(q.at_ s).by_])[j]? = some i := hi
        rw [List.getElem?_append_right (by omega), hl, Nat.sub_self] at h2
        simp at h2
        subst h2
        rw [List.take_of_length_le (by omega), g1]
        exact (List.getElem?_eq_some_iff.1 p3).1
end Rc
end
section
namespace Pr
def step (next : Nat → List Nat) (wt : Nat × Nat → Nat → Nat) (p : Nat × Nat) (i : Nat) : Nat × Nat := ((next p.1).getD i 0, wt p i)
/-- one plays inputs -/
def go (next : Nat → List Nat) (wt : Nat × Nat → Nat → Nat) : Nat × Nat → List Nat → Nat × Nat
  | p, [] => p
  | p, i :: l => go next wt (step next wt p i) l
/-- each input is one, and none waits beyond -/
def Fine (next : Nat → List Nat) (wt : Nat × Nat → Nat → Nat) (most : Nat) : Nat × Nat → List Nat → Prop
  | _, [] => True
  | p, i :: l => i < (next p.1).length ∧ wt p i ≤ most ∧ Fine next wt most (step next wt p i) l
def InR (next : Nat → List Nat) : Nat → List Nat → Prop
  | _, [] => True
  | s, i :: l => i < (next s).length ∧ InR next ((next s).getD i 0) l
structure Met (next : Nat → List Nat) (wt : Nat × Nat → Nat → Nat) (S most : Nat) (met : List (Nat × Nat)) (src : List ((Nat × Nat) × Nat)) : Prop where
  len : src.length = met.length
  zero : met[0]? = some (0, 0)
  nodup : met.Nodup
  low : ∀ p, p ∈ met → p.1 < S ∧ p.2 ≤ most
  back : ∀ (j : Nat) p f i, 0 < j → met[j]? = some p → src[j]? = some (f, i) → ∃ k, k < j ∧ met[k]? = some f ∧ i < (next f.1).length ∧ wt f i ≤ most ∧ p = step next wt f i
/-- the first k are looked at -/
def Shut (next : Nat → List Nat) (wt : Nat × Nat → Nat → Nat) (most : Nat) (met : List (Nat × Nat)) (k : Nat) : Prop := ∀ (j : Nat) p, j < k → met[j]? = some p → ∀ i, i < (next p.1).length → wt p i ≤ most ∧ step next wt p i ∈ met
/-- of one the first n inputs are looked at -/
def ShutIn (next : Nat → List Nat) (wt : Nat × Nat → Nat → Nat) (most : Nat) (met : List (Nat × Nat)) (p : Nat × Nat) (n : Nat) : Prop := ∀ i, i < n → wt p i ≤ most ∧ step next wt p i ∈ met
theorem Met.start (next : Nat → List Nat) (wt : Nat × Nat → Nat → Nat) (S most : Nat) (hS : 1 ≤ S) (src : List ((Nat × Nat) × Nat)) (hs : src.length = 1) : Met next wt S most [(0, 0)] src :=
  ⟨by simp [hs], rfl, by simp, fun p hp => by simp at hp; subst hp; exact ⟨hS, Nat.zero_le _⟩, fun j p f i hj hp => by
    rw [List.getElem?_eq_none (by simp; omega)] at hp; cases hp⟩
theorem Met.put {next : Nat → List Nat} {wt : Nat × Nat → Nat → Nat} {S most : Nat} {met : List (Nat × Nat)} {src : List ((Nat × Nat) × Nat)} (h : Met next wt S most met src) {k i : Nat} {p : Nat × Nat} (hk : met[k]? = some p) (hi : i < (next p.1).length) (hw : wt p i ≤ most) (hx : ∀ s, s ∈ next p.1 → s < S) (hn : step next wt p i ∉ met) : Met next wt S most (met ++ [step next wt p i]) (src ++ [(p, i)]) := by
  have hkl : k < met.length := (List.getElem?_eq_some_iff.1 hk).1
  refine ⟨by simp [h.len], by rw [List.getElem?_append_left (by omega)]; exact h.zero, ?_, ?_, ?_⟩
  · rw [List.nodup_append]
    refine ⟨h.nodup, by simp, fun a ha b hb => ?_⟩
    simp at hb
    subst hb
    exact fun e => hn (e ▸ ha)
  · intro q hq
    rcases List.mem_append.1 hq with hq | hq
    · exact h.low q hq
    · simp at hq
      subst hq
      refine ⟨hx _ ?_, hw⟩
      show (next p.1).getD i 0 ∈ _
      rw [List.getD_eq_getElem?_getD, List.getElem?_eq_getElem hi]
      exact List.getElem_mem hi
  · intro j q f n hj hq hs
    by_cases hjl : j < met.length
    · rw [List.getElem?_append_left hjl] at hq
      rw [List.getElem?_append_left (by rw [h.len]; exact hjl)] at hs
      obtain ⟨k', h1, h2, h3⟩ := h.back j q f n hj hq hs
      exact ⟨k', h1, by rw [List.getElem?_append_left (by omega)]; exact h2, h3⟩
    · have hje : j = met.length := by
        have := (List.getElem?_eq_some_iff.1 hq).1
        simp at this
        omega
      subst hje
      rw [List.getElem?_append_right (Nat.le_refl _)] at hq
      rw [List.getElem?_append_right (by rw [h.len]; exact Nat.le_refl _), h.len] at hs
      simp at hq hs
      obtain ⟨rfl, rfl⟩ := hs
      exact ⟨k, hkl, by rw [List.getElem?_append_left hkl]; exact hk, hi, hw, hq.symm⟩
theorem Shut.put {next : Nat → List Nat} {wt : Nat × Nat → Nat → Nat} {most : Nat} {met : List (Nat × Nat)} {k : Nat} (h : Shut next wt most met k) (hk : k ≤ met.length) (x : Nat × Nat) : Shut next wt most (met ++ [x]) k := fun j p hj hp i hi => by
  rw [List.getElem?_append_left (by omega)] at hp
  obtain ⟨h1, h2⟩ := h j p hj hp i hi
  exact ⟨h1, List.mem_append_left _ h2⟩
theorem ShutIn.put {next : Nat → List Nat} {wt : Nat × Nat → Nat → Nat} {most : Nat} {met : List (Nat × Nat)} {p : Nat × Nat} {n : Nat} (h : ShutIn next wt most met p n) (hw : wt p n ≤ most) : ShutIn next wt most (met ++ [step next wt p n]) p (n + 1) := fun i hi => by
  by_cases e : i = n
  · subst e; exact ⟨hw, by simp⟩
  · obtain ⟨h1, h2⟩ := h i (by omega)
    exact ⟨h1, List.mem_append_left _ h2⟩
theorem ShutIn.pass {next : Nat → List Nat} {wt : Nat × Nat → Nat → Nat} {most : Nat} {met : List (Nat × Nat)} {p : Nat × Nat} {n : Nat} (h : ShutIn next wt most met p n) (hw : wt p n ≤ most) (hm : step next wt p n ∈ met) : ShutIn next wt most met p (n + 1) := fun i hi => by
  by_cases e : i = n
  · subst e; exact ⟨hw, hm⟩
  · exact h i (by omega)
theorem Shut.next {next : Nat → List Nat} {wt : Nat × Nat → Nat → Nat} {most : Nat} {met : List (Nat × Nat)} {k : Nat} {p : Nat × Nat} (h : Shut next wt most met k) (hp : met[k]? = some p) (hi : ShutIn next wt most met p (next p.1).length) : Shut next wt most met (k + 1) := fun j q hj hq i hil => by
  by_cases e : j = k
  · subst e
    rw [hp] at hq
    cases hq
    exact hi i hil
  · exact h j q (by omega) hq i hil
theorem few_of_nodup : ∀ (n : Nat) (l : List Nat), l.Nodup → (∀ x, x ∈ l → x < n) → l.length ≤ n
  | 0, [], _, _ => Nat.le_refl _
  | 0, x :: _, _, h => absurd (h x (by simp)) (by omega)
  | n + 1, l, hd, h => by
    have h1 := few_of_nodup n (l.erase n) (hd.erase n) (fun x hx => by
      have h2 := (hd.mem_erase_iff).1 hx
      have h3 := h x h2.2
      have := h2.1
      omega)
    rw [List.length_erase] at h1
    split at h1 <;> omega
theorem Met.few {next : Nat → List Nat} {wt : Nat × Nat → Nat → Nat} {S most : Nat} {met : List (Nat × Nat)} {src : List ((Nat × Nat) × Nat)} (h : Met next wt S most met src) : met.length ≤ S * (most + 1) := by
  have h1 := few_of_nodup (S * (most + 1)) (met.map fun p => p.1 * (most + 1) + p.2) ?_ ?_
  · simpa using h1
  · rw [List.Nodup, List.pairwise_map]
    refine h.nodup.imp_of_mem ?_
    intro a b ha hb hab e
    apply hab
    have la := (h.low a ha).2
    have lb := (h.low b hb).2
    have e1 : a.1 = b.1 := by
      have h2 : (a.1 * (most + 1) + a.2) / (most + 1) = a.1 := by rw [Nat.mul_comm, Nat.mul_add_div (by omega), Nat.div_eq_of_lt (by omega)]; rfl
      have h3 : (b.1 * (most + 1) + b.2) / (most + 1) = b.1 := by rw [Nat.mul_comm, Nat.mul_add_div (by omega), Nat.div_eq_of_lt (by omega)]; rfl
      rw [e, h3] at h2
      exact h2.symm
    rw [e1] at e
    exact Prod.ext e1 (by omega)
  · intro x hx
    obtain ⟨p, hp, rfl⟩ := List.mem_map.1 hx
    obtain ⟨h1, h2⟩ := h.low p hp
    have h3 : (p.1 + 1) * (most + 1) ≤ S * (most + 1) := Nat.mul_le_mul_right _ h1
    rw [Nat.add_mul] at h3
    omega
/-- what is shut is fine, whatever is played -/
theorem fine_of_shut {next : Nat → List Nat} {wt : Nat × Nat → Nat → Nat} {most : Nat} {met : List (Nat × Nat)} (h : Shut next wt most met met.length) : ∀ (l : List Nat) (p : Nat × Nat), p ∈ met → InR next p.1 l → Fine next wt most p l
  | [], _, _, _ => trivial
  | i :: l, p, hp, hr => by
    obtain ⟨j, hj, e⟩ := List.getElem_of_mem hp
    obtain ⟨h1, h2⟩ := h j p hj (by rw [List.getElem?_eq_getElem hj, e]) i hr.1
    exact ⟨hr.1, h1, fine_of_shut h l _ h2 hr.2⟩
theorem Fine.inr {next : Nat → List Nat} {wt : Nat × Nat → Nat → Nat} {most : Nat} : ∀ (l : List Nat) (p : Nat × Nat), Fine next wt most p l → InR next p.1 l
  | [], _, _ => trivial
  | _ :: l, _, h => ⟨h.1, Fine.inr l _ h.2.2⟩
theorem go_append (next : Nat → List Nat) (wt : Nat × Nat → Nat → Nat) : ∀ (l m : List Nat) (p : Nat × Nat), go next wt p (l ++ m) = go next wt (go next wt p l) m
  | [], _, _ => rfl
  | _ :: l, m, _ => go_append next wt l m _
theorem fine_append {next : Nat → List Nat} {wt : Nat × Nat → Nat → Nat} {most : Nat} : ∀ (l m : List Nat) (p : Nat × Nat), Fine next wt most p (l ++ m) ↔ Fine next wt most p l ∧ Fine next wt most (go next wt p l) m
  | [], m, p => by simp [Fine, go]
  | i :: l, m, p => by
    show (_ ∧ _ ∧ Fine next wt most (step next wt p i) (l ++ m)) ↔ ((_ ∧ _ ∧ Fine next wt most (step next wt p i) l) ∧ Fine next wt most (go next wt (step next wt p i) l) m)
    rw [fine_append l m]
    simp only [and_assoc]
/-- the inputs, the last one first, by which one that is met was come to -/
def Tr (met : List (Nat × Nat)) (src : List ((Nat × Nat) × Nat)) : Nat → List Nat → Prop
  | j, [] => j = 0
  | j, i :: r => 0 < j ∧ ∃ k f, k < j ∧ met[k]? = some f ∧ src[j]? = some (f, i) ∧ Tr met src k r
/-- on the way back from one that is met -/
structure Way (next : Nat → List Nat) (wt : Nat × Nat → Nat → Nat) (most : Nat) (met : List (Nat × Nat)) (src : List ((Nat × Nat) × Nat)) (J : Nat) (at_ : Nat × Nat) (j : Nat) (p : Nat × Nat) (r : List Nat) : Prop where
  here : met[j]? = some p
  few : j + r.length ≤ J
  fine : Fine next wt most p r.reverse
  comes : go next wt p r.reverse = at_
  tr : ∀ q, Tr met src j q → Tr met src J (r ++ q)
theorem Way.start {next : Nat → List Nat} {wt : Nat × Nat → Nat → Nat} {most : Nat} {met : List (Nat × Nat)} {src : List ((Nat × Nat) × Nat)} {J : Nat} {p : Nat × Nat} (h : met[J]? = some p) : Way next wt most met src J p J p [] := ⟨h, Nat.le_refl _, trivial, rfl, fun _ h => h⟩
theorem Way.back {next : Nat → List Nat} {wt : Nat × Nat → Nat → Nat} {S most : Nat} {met : List (Nat × Nat)} {src : List ((Nat × Nat) × Nat)} {J j i : Nat} {at_ p f : Nat × Nat} {r : List Nat} (hm : Met next wt S most met src) (h : Way next wt most met src J at_ j p r) (hj : 0 < j) (hs : src[j]? = some (f, i)) : ∃ k, Way next wt most met src J at_ k f (r ++ [i]) := by
  obtain ⟨k, h1, h2, h3, h4, h5⟩ := hm.back j p f i hj h.here hs
  refine ⟨k, h2, by have := h.few; simp; omega, ?_, ?_, ?_⟩
  · rw [List.reverse_append]
    exact ⟨h3, h4, h5 ▸ h.fine⟩
  · rw [List.reverse_append]
    show go next wt (step next wt f i) r.reverse = at_
    rw [← h5]
    exact h.comes
  · intro q hq
    rw [List.append_assoc]
    exact h.tr (i :: q) ⟨hj, k, f, h1, h2, hs, hq⟩
theorem Way.first {next : Nat → List Nat} {wt : Nat × Nat → Nat → Nat} {S most : Nat} {met : List (Nat × Nat)} {src : List ((Nat × Nat) × Nat)} {J j : Nat} {at_ p : Nat × Nat} {r : List Nat} (hm : Met next wt S most met src) (h : Way next wt most met src J at_ j p r) : p = (0, 0) ↔ j = 0 := by
  constructor
  · rintro rfl
    obtain ⟨h1, e1⟩ := List.getElem?_eq_some_iff.1 h.here
    obtain ⟨h2, e2⟩ := List.getElem?_eq_some_iff.1 hm.zero
    refine Classical.byContradiction fun hj => ?_
    exact (List.pairwise_iff_getElem.1 hm.nodup 0 j h2 h1 (by omega)) (e2.trans e1.symm)
  · rintro rfl
    have h1 := h.here
    rw [hm.zero] at h1
    exact (Option.some.inj h1).symm
/-- what the search comes to -/
def Held (next : Nat → List Nat) (wt : Nat × Nat → Nat → Nat) (most : Nat) : Prop := ∀ l, InR next 0 l → Fine next wt most (0, 0) l
def Broke (next : Nat → List Nat) (wt : Nat × Nat → Nat → Nat) (most : Nat) (l : List Nat) : Prop := ∃ m i, l = m ++ [i] ∧ Fine next wt most (0, 0) m ∧ i < (next (go next wt (0, 0) m).1).length ∧ most < wt (go next wt (0, 0) m) i
theorem Held.of {next : Nat → List Nat} {wt : Nat × Nat → Nat → Nat} {S most : Nat} {met : List (Nat × Nat)} {src : List ((Nat × Nat) × Nat)} (hm : Met next wt S most met src) (h : Shut next wt most met met.length) : Held next wt most := fun l hl => fine_of_shut h l (0, 0) (List.mem_of_getElem? hm.zero) hl
/-- not both -/
theorem Broke.not {next : Nat → List Nat} {wt : Nat × Nat → Nat → Nat} {most most' : Nat} {l : List Nat} (h : Broke next wt most' l) (hle : most ≤ most') : ¬ Held next wt most := fun hh => by
  obtain ⟨m, i, rfl, h1, h2, h3⟩ := h
  have hr : InR next 0 (m ++ [i]) := by
    have h4 : Fine next wt (wt (go next wt (0, 0) m) i + most') (0, 0) (m ++ [i]) := by
      rw [fine_append]
      refine ⟨?_, h2, by omega, trivial⟩
      have mono : ∀ (l : List Nat) (p : Nat × Nat) (a b : Nat), a ≤ b → Fine next wt a p l → Fine next wt b p l := by
        intro l
        induction l with
        | nil => intros; trivial
        | cons x l ih => intro p a b hab hf; exact ⟨hf.1, Nat.le_trans hf.2.1 hab, ih _ a b hab hf.2.2⟩
      exact mono m _ _ _ (by omega) h1
    exact h4.inr
  have h5 := hh _ hr
  rw [fine_append] at h5
  have := h5.2.2.1
  omega
end Pr
end
section
namespace Mc
theorem number_zero : ∀ (l : List (Nat × Bool)) (n : Nat), number l (List.replicate n false) (List.replicate n 0) = 0
  | [], _ => rfl
  | x :: r, 0 => by
    have ih := number_zero r 0
    show number r [] [] * x.1 + told x false 0 = 0
    have h0 : number r [] [] = 0 := ih
    rw [h0, Nat.zero_mul]; unfold told; split <;> simp
  | x :: r, n + 1 => by
    have ih := number_zero r n
    show number r (List.replicate n false) (List.replicate n 0) * x.1 + told x false 0 = 0
    rw [ih, Nat.zero_mul]; unfold told; split <;> simp
theorem number_start (p : Ld.Prg) : number (parts p) (Sc.start p).is (Sc.start p).ct = 0 := number_zero _ _
/-- a scan out of a state's number is a scan out of the state -/
theorem after1_eq (p : Ld.Prg) (hck : Ld.check p = none) (s : Sc.St) (hb : Sc.Bd p s) (x : Int) (q i : Nat) (hq : q = (Ld.kindL p.names 1).length) (hi : (i : Int) = x % 2 ^ q) : after1 p q (number (parts p) s.is s.ct) i = Sc.step p s (bitsTo x q) := by
  unfold after1
  rw [hi, bitsTo_mod]
  exact (alike_step p hck s _ (bitsTo x q) (alike_number p hck s hb) hb.li (by rw [bitsTo_len]; exact hq)).symm
theorem mod_mod (x : Int) (q : Nat) (hq : q ≤ 60) : x % 18446744073709551616 % (2 ^ q : Nat) = x % 2 ^ q := by
  have h : ((2 ^ q : Nat) : Int) ∣ 18446744073709551616 := by
    refine ⟨((2 ^ (64 - q) : Nat) : Int), ?_⟩
    rw [← Int.natCast_mul, ← Nat.pow_add, show q + (64 - q) = 64 by omega]
    decide
  rw [Int.emod_emod_of_dvd _ h]
  simp
theorem number_after (p : Ld.Prg) (s : Sc.St) (hb : Sc.Bd p s) : number (parts p) s.is s.ct < total (parts p) :=
  number_lt (parts p) s.is s.ct (parts_ok p) (by rw [hb.li, parts_len]) (by rw [hb.lc, parts_len]) (ok_bd p s hb)
end Mc
end
section
open Go.RowKit Go.Maps
def plV (p : Nat × Nat) : Value := .agg #[.int .i64 (p.1 : Int), .int .i64 (p.2 : Int)]
def stpV (x : (Nat × Nat) × Nat) : Value := .agg #[.int .i64 (x.1.1 : Int), .int .i64 (x.1.2 : Int), .int .i64 (x.2 : Int)]
theorem lawP : Keyed Tryz.prog 113 := Keyed.of_law (deep_law_laid (m := 9) (by kernel_rfl) (by decide) (of_decide_eq_true (by kernel_rfl)) (by kernel_rfl) (by kernel_rfl))
theorem zeroSt (w : World) : (zeroValue 184).run Tryz.prog w = .ok (stpV ((0, 0), 0)) w := by kernel_rfl
def plK (p : Nat × Nat) : Lit := .string (keyBytes [.int .i64 (p.1 : Int), .int .i64 (p.2 : Int)])
def Small (p : Nat × Nat) : Prop := p.1 ≤ 100000 ∧ p.2 ≤ 100000
theorem lits_int (m : Nat) (x : Int) (h : (Lit.int .i64 x).wf = true) : Tryz.prog.keyLits (m + 1) 3 [.int .i64 x] = some [.int .i64 x] := by
  unfold Program.keyLits
  simp only [Tryz.underlying3]
  rw [h]
  rfl
theorem key_pl (p : Nat × Nat) (h : Small p) : keyOf Tryz.prog 113 (plV p) = some (plK p) := by
  have w1 : (Lit.int .i64 (p.1 : Int)).wf = true := WalkArith.wf_i64 (by have := h.1; omega)
  have w2 : (Lit.int .i64 (p.2 : Int)).wf = true := WalkArith.wf_i64 (by have := h.2; omega)
  obtain ⟨m, hm⟩ : ∃ m, Tryz.prog.types.size = m + 1 := ⟨Tryz.prog.types.size - 1, by kernel_rfl⟩
  have c1 : Tryz.prog.cellsOf 3 = 1 := by kernel_rfl
  have c2 : Tryz.prog.cellsOf 113 = 2 := by kernel_rfl
  have kt : Tryz.prog.keyType 113 = true := by kernel_rfl
  unfold keyOf
  simp only [Tryz.underlying113]
  rw [kt]
  have hf : (plV p).formed Tryz.prog 113 = true := by
    unfold plV Value.formed
    simp only [Tryz.underlying113, c2]
    rfl
  rw [hf, hm]
  have hl : Tryz.prog.keyLits (m + 1 + 1) 113 (plV p).cells.toList = some [.int .i64 (p.1 : Int), .int .i64 (p.2 : Int)] := by
    have e1 := lits_int m _ w1
    have e2 := lits_int m _ w2
    unfold Program.keyLits
    simp only [Tryz.underlying113]
    rw [if_pos (by rw [c2]; exact ⟨rfl, by kernel_rfl⟩)]
    simp [plV, Value.cells, c1, e1, e2]
  rw [hl]
  rfl
theorem plK_inj {p q : Nat × Nat} (hp : Small p) (hq : Small q) (h : plK p = plK q) : p = q := by
  have h1 := lawP.inj (key_pl p hp) ((key_pl q hq).trans (congrArg some h.symm))
  have h1 := Value.agg.inj h1
  have e1 := congrArg (fun a : Array Value => a[0]?) h1
  have e2 := congrArg (fun a : Array Value => a[1]?) h1
  simp at e1 e2
  exact Prod.ext (by omega) (by omega)
/-- how an element reads: as itself -/
def heldR (v : Value) : Option (DataW Value × List MemPlace) := some (.held v, [])
/-- at each place what f tells -/
def CMap (W : World) (b n : Nat) (f : Nat × Nat → Option ((Nat × Nat) × Nat)) : Prop := ∃ D : DataW Value, W.ownsMap Tryz.prog 113 heldR b n D ∧ ∀ p, Small p → D.atKey (plK p) .nil = (match f p with | some x => .held (stpV x) | none => .nil)
theorem CMap.made (W : World) : CMap (W.alloc (.map #[] 0)) W.heap.size 0 (fun _ => none) := ⟨_, World.ownsMap_made _ _ _ _, fun _ _ => rfl⟩
theorem CMap.lt {W : World} {b n : Nat} {f : Nat × Nat → Option ((Nat × Nat) × Nat)} (h : CMap W b n f) : b < W.heap.size := by obtain ⟨_, h, _⟩ := h; exact h.lt
theorem CMap.kept {W W' : World} {b n : Nat} {f : Nat × Nat → Option ((Nat × Nat) × Nat)} (h : CMap W b n f) (hb : W'.heap[b]? = W.heap[b]?) : CMap W' b n f := by
  obtain ⟨D, ⟨es, clock, h1, h2⟩, h3⟩ := h
  exact ⟨D, ⟨es, clock, hb.trans h1, h2⟩, h3⟩
def lookV (c : Bool) (x : Option ((Nat × Nat) × Nat)) : Value :=
  if c then .tuple #[stpV (x.getD ((0, 0), 0)), .bool x.isSome] else stpV (x.getD ((0, 0), 0))
theorem CMap.look {W : World} {b n : Nat} {f : Nat × Nat → Option ((Nat × Nat) × Nat)} (h : CMap W b n f) (c : Bool) (p : Nat × Nat) (hp : Small p) : (Instr.lookup 185 (.map (some b)) (plV p) c).run Tryz.prog W = .ok (lookV c (f p)) W := by
  obtain ⟨D, ⟨es, clock, hb, F, _, rfl⟩, h3⟩ := h
  have h4 := h3 p hp
  rcases Maps.fit_look c lawP Tryz.underlying185 (zeroSt W) hb F (key_pl p hp) with ⟨hrun, _, hat⟩ | ⟨e0, y, _, _, hrun, hRv, hat, _⟩
  · rw [hat .nil] at h4
    cases hf : f p with
    | some x => rw [hf] at h4; cases h4
    | none =>
      rw [hrun]
      cases c <;> rfl
  · rw [hat .nil] at h4
    obtain rfl : y = (.held e0.val, []) := (Option.some.inj hRv).symm
    cases hf : f p with
    | none => rw [hf] at h4; cases h4
    | some x =>
      rw [hf] at h4
      have h5 : e0.val = stpV x := DataW.held.inj h4
      rw [hrun, h5]
      cases c <;> rfl
theorem CMap.put {W : World} {b n : Nat} {f : Nat × Nat → Option ((Nat × Nat) × Nat)} (h : CMap W b n f) (hn : n ≤ 1000000) (p : Nat × Nat) (x : (Nat × Nat) × Nat) (hp : Small p) : ∃ W', (Instr.mapUpdate 185 (.map (some b)) (plV p) (stpV x)).run Tryz.prog W = .ok () W' ∧ CMap W' b (n + 1) (fun q => if q = p then some x else f q) ∧ W.grownBy W' (some b) := by
  obtain ⟨D, ho, h3⟩ := h
  obtain ⟨W', hrun, ho', hg⟩ := ho.update lawP Tryz.underlying185 (by unfold maxLen; omega) (key_pl p hp) (show heldR (stpV x) = some (.held (stpV x), []) from rfl)
  refine ⟨W', hrun, ⟨_, ho', fun q hq => ?_⟩, hg⟩
  by_cases e : q = p
  · subst e
    rw [atKey_put_same ho.isMap (lawP.key (key_pl q hp))]
    dsimp only
    rw [if_pos rfl]
  · rw [atKey_put_other (fun h => e (plK_inj hq hp h)), h3 q hq]
    dsimp only
    rw [if_neg e]
end
section
open Go.RowKit
/-- a row of bools, and what lies behind them -/
def BRow (W : World) (g : Nat) (l : List Bool) (rest : List Value) : Prop := RowIs W g 4 (l.map boolV ++ rest)
theorem BRow.below {W W' : World} {g : Nat} {l : List Bool} {rest : List Value} (h : BRow W g l rest) (hb : Below W.heap.size W W') : BRow W' g l rest := RowIs.below h hb
theorem BRow.cell {W : World} {g : Nat} {l : List Bool} {rest : List Value} (h : BRow W g l rest) (k : Nat) (b : Bool) (hb : l[k]? = some b) : W.cell? ⟨g, k, none⟩ = some (.bool b) :=
  RowIs.cell h k _ (by rw [List.getElem?_append_left (by rw [List.length_map]; exact (List.getElem?_eq_some_iff.1 hb).1), List.getElem?_map, hb]; rfl)
theorem BRow.set {W : World} {g : Nat} {l : List Bool} {rest : List Value} (h : BRow W g l rest) (k : Nat) (b : Bool) (hk : k < l.length) : BRow (W.setCell ⟨g, k, none⟩ (.bool b)) g (l.set k b) rest := by
  have h1 := RowIs.set h k (.bool b)
  rw [List.set_append_left _ _ (by rw [List.length_map]; exact hk)] at h1
  unfold BRow
  rw [List.map_set]
  exact h1
theorem BRow.bools {W : World} {g cp : Nat} {l : List Bool} {rest : List Value} (h : BRow W g l rest) (hl : l.length ≤ 1000000) : Bools W (.slice (some ⟨g, 0, none⟩) l.length cp) l :=
  ⟨_, _, rfl, hl, fun i b hb => ⟨g, rfl, h.cell i b hb⟩⟩
def lenV : Value → Nat
  | .slice _ n _ => n
  | _ => 0
theorem own_pop {W : World} {q g n cap : Nat} {e : TypeId} {xs : List Value} (h : W.ownsRow q e 1 (.slice (some ⟨g, 0, none⟩) (n + 1) cap) (n + 1) xs) : W.ownsRow q e 1 (.slice (some ⟨g, 0, none⟩) n cap) n (xs.take n) := by
  obtain ⟨h0, h1⟩ := h
  refine ⟨by rw [List.length_take]; omega, ?_⟩
  rcases h1 with ⟨hx, _⟩ | ⟨g', cap', cur, hx, h2, h3, h4, h5, h6, h7⟩
  · cases hx
  · simp only [Value.slice.injEq, Option.some.injEq, Addr.mk.injEq, true_and] at hx
    obtain ⟨⟨rfl, _⟩, rfl⟩ := hx
    refine .inr ⟨g, cap, cur, rfl, h2, h3, by omega, h5, h6, ?_⟩
    rw [← h7, List.take_take]
    congr 1
    omega
theorem grown_trans {A B C : World} {r : Option Nat} (h : A.grownBy B r) (k : B.grownBy C r) : A.grownBy C r :=
  ⟨k.os.trans h.os, k.tape.trans h.tape, k.output.trans h.output, Nat.le_trans h.size k.size, fun b hb hr => (k.block b (Nat.lt_of_lt_of_le hb h.size) hr).trans (h.block b hb hr)⟩
theorem grown_of_below {A B : World} (r : Option Nat) (h : Below A.heap.size A B) : A.grownBy B r := ⟨h.os, h.tape, h.output, h.size, fun b hb _ => h.block b hb⟩
end
section
open Go.RowKit
/-- where a state leads to, input by input -/
def Mc.nexts (p : Ld.Prg) (s : Nat) : List Nat := (List.range (2 ^ (Ld.kindL p.names 1).length)).map fun i => Mc.number (Mc.parts p) (Mc.after1 p (Ld.kindL p.names 1).length s i).is (Mc.after1 p (Ld.kindL p.names 1).length s i).ct
theorem Mc.nexts_len (p : Ld.Prg) (s : Nat) : (Mc.nexts p s).length = 2 ^ (Ld.kindL p.names 1).length := by simp [Mc.nexts]
theorem Mc.nexts_row (p : Ld.Prg) (s : Nat) : Mc.nextRow p (Ld.kindL p.names 1).length (2 ^ (Ld.kindL p.names 1).length) s = (Mc.nexts p s).map intV := by simp [Mc.nexts, Mc.nextRow, intV]
theorem Mc.nexts_lt (p : Ld.Prg) (hck : Ld.check p = none) (s x : Nat) (h : x ∈ Mc.nexts p s) : x < Mc.total (Mc.parts p) := by
  unfold Mc.nexts at h
  obtain ⟨i, _, rfl⟩ := List.mem_map.1 h
  exact Mc.number_after p _ (Sc.step_bd p hck _ _ (Mc.state_bd p hck s) (bitsTo_len _ _)).1
/-- a machine's table: from each state, by each input -/
def NextAt (W : World) (bm S I : Nat) (next : Nat → List Nat) (gN : Nat) (uN : List Nat) : Prop := W.cell? ⟨bm, 4, none⟩ = some (.slice (some ⟨gN, 0, none⟩) S S) ∧ uN.length = S ∧ ∀ (s b : Nat), uN[s]? = some b → W.cell? ⟨gN, s, none⟩ = some (.slice (some ⟨b, 0, none⟩) I I) ∧ ∀ (i x : Nat), (next s)[i]? = some x → W.cell? ⟨b, i, none⟩ = some (.int .i64 (x : Int))
theorem NextAt.below {W W' : World} {bm S I gN : Nat} {next : Nat → List Nat} {uN : List Nat} (h : NextAt W bm S I next gN uN) (hb : Below W.heap.size W W') : NextAt W' bm S I next gN uN :=
  have key : ∀ (p : Addr) v, W.cell? p = some v → W'.cell? p = some v := fun _ _ hv => (hb.cell (World.block_lt_of_cell? _ _ hv)).trans hv
  ⟨key _ _ h.1, h.2.1, fun s b hs => ⟨key _ _ (h.2.2 s b hs).1, fun i x hx => key _ _ ((h.2.2 s b hs).2 i x hx)⟩⟩
/-- a slice of one that the call has built -/
theorem own_one (W : World) (q : Nat) (e : TypeId) (v : Value) (hq : q ≤ W.heap.size) : (W.alloc (.cells #[v] e)).ownsRow q e 1 (.slice (some ⟨W.heap.size, 0, none⟩) 1 1) 1 [v] :=
  ⟨by simp, .inr ⟨W.heap.size, 1, #[v], rfl, hq, heap_alloc_new W _, Nat.le_refl _, by decide, by simp, by simp⟩⟩
end
end Go.Proofs.YtgldbliohpfljaaGreatDoor
