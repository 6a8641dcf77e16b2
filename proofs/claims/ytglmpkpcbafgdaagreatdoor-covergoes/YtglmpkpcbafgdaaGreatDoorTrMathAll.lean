/-
  Plain mathematics of chapter 5: states are gone to from the first one on, the nearest ones first. Plain mathematics of tours: ways that are gone, leg by leg; what one counts along a tour.
-/
import Derived.Test.YtglmpkpcbafgdaaGreatDoorMcMathAll
namespace Go.Proofs.YtglmpkpcbafgdaaGreatDoor
section
namespace Rc
/-- how a state is come to: in how many scans, from which one, by which input -/
structure Stp where
  far : Int
  frm : Nat
  by_ : Nat
structure Qu where
  steps : List Stp
  met : List Nat
def st0 : Stp := ⟨0, 0, 0⟩
def Qu.at_ (q : Qu) (s : Nat) : Stp := q.steps.getD s st0
def see (f : Nat) (q : Qu) (k s : Nat) : Qu := if (q.at_ s).far < 0 then ⟨q.steps.set s ⟨(q.at_ f).far + 1, f, k⟩, q.met ++ [s]⟩ else q
def seesTo (l : List Nat) (f : Nat) (q : Qu) : Nat → Qu
  | 0 => q
  | k + 1 => see f (seesTo l f q k) k (l.getD k 0)
def rounds (next : Nat → List Nat) (q : Qu) : Nat → Qu
  | 0 => q
  | k + 1 => match (rounds next q k).met[k]? with
    | some f => seesTo (next f) f (rounds next q k) (next f).length
    | none => rounds next q k
def begin (S : Nat) : Qu := ⟨(List.replicate S ⟨-1, 0, 0⟩).set 0 ⟨0, 0, 0⟩, [0]⟩
def walk (next : Nat → List Nat) (S : Nat) : Qu := rounds next (begin S) S
/-- what stands while states are gone to: the first k of those met are done, of the next one the first b inputs -/
structure Ok (next : Nat → List Nat) (S : Nat) (q : Qu) (k b : Nat) : Prop where
  len : q.steps.length = S
  nd : q.met.Nodup
  lt : ∀ s, s ∈ q.met → s < S
  vis : ∀ s, s ∈ q.met → 0 ≤ (q.at_ s).far
  nev : ∀ s, s < S → s ∉ q.met → q.at_ s = ⟨-1, 0, 0⟩
  hd : q.met[0]? = some 0
  zero : (q.at_ 0).far = 0
  par : ∀ s, s ∈ q.met → s ≠ 0 → (q.at_ s).frm ∈ q.met ∧ (q.at_ s).far = (q.at_ (q.at_ s).frm).far + 1 ∧ (next (q.at_ s).frm)[(q.at_ s).by_]? = some s
  mono : ∀ (i j s t : Nat), i ≤ j → q.met[i]? = some s → q.met[j]? = some t → (q.at_ s).far ≤ (q.at_ t).far
  up : ∀ (i s : Nat), q.met[i]? = some s → (q.at_ s).far ≤ i
  near : ∀ (f s : Nat), q.met[k]? = some f → s ∈ q.met → (q.at_ s).far ≤ (q.at_ f).far + 1
  done : ∀ (j f u : Nat), j < k → q.met[j]? = some f → u ∈ next f → u ∈ q.met ∧ (q.at_ u).far ≤ (q.at_ f).far + 1
  part : ∀ (f i u : Nat), q.met[k]? = some f → i < b → (next f)[i]? = some u → u ∈ q.met ∧ (q.at_ u).far ≤ (q.at_ f).far + 1
theorem at_set (q : Qu) (s t : Nat) (x : Stp) (m : List Nat) (hs : s < q.steps.length) : (Qu.mk (q.steps.set s x) m).at_ t = if t = s then x else q.at_ t := by
  unfold Qu.at_
  by_cases h : t = s
  · subst h; rw [if_pos rfl, List.getD_eq_getElem?_getD, List.getElem?_set_self hs]; rfl
  · rw [if_neg h, List.getD_eq_getElem?_getD, List.getElem?_set_ne (fun e => h e.symm), List.getD_eq_getElem?_getD]
theorem see_ok {next : Nat → List Nat} {S : Nat} {q : Qu} {k b f s : Nat} (h : Ok next S q k b) (hf : q.met[k]? = some f) (hs : s < S) (hb : (next f)[b]? = some s) : Ok next S (see f q b s) k (b + 1) ∧ (see f q b s).met[k]? = some f := by
  unfold see
  have hfm : f ∈ q.met := List.mem_of_getElem? hf
  have hkl : k < q.met.length := (List.getElem?_eq_some_iff.1 hf).1
  by_cases hv : (q.at_ s).far < 0
  · rw [if_pos hv]
    have hsm : s ∉ q.met := fun hm => by have := h.vis s hm; omega
    have hsl : s < q.steps.length := by rw [h.len]; exact hs
    have hat := fun t => at_set q s t ⟨(q.at_ f).far + 1, f, b⟩ (q.met ++ [s]) hsl
    have hold : ∀ t, t ∈ q.met → (Qu.mk (q.steps.set s ⟨(q.at_ f).far + 1, f, b⟩) (q.met ++ [s])).at_ t = q.at_ t := fun t ht => by
      rw [hat, if_neg]; intro e; subst e; exact hsm ht
    have hnew : (Qu.mk (q.steps.set s ⟨(q.at_ f).far + 1, f, b⟩) (q.met ++ [s])).at_ s = ⟨(q.at_ f).far + 1, f, b⟩ := by rw [hat, if_pos rfl]
    have hget : ∀ (i t : Nat), (q.met ++ [s])[i]? = some t → (i < q.met.length ∧ q.met[i]? = some t ∧ t ∈ q.met) ∨ (i = q.met.length ∧ t = s) := fun i t ht => by
      by_cases hi : i < q.met.length
      · rw [List.getElem?_append_left hi] at ht
        exact .inl ⟨hi, ht, List.mem_of_getElem? ht⟩
      · rw [List.getElem?_append_right (by omega)] at ht
        have hl : i - q.met.length < [s].length := (List.getElem?_eq_some_iff.1 ht).1
        have hi2 : i = q.met.length := by simp at hl; omega
        subst hi2
        simp at ht
        exact .inr ⟨rfl, ht.symm⟩
    have hf2 : (q.met ++ [s])[k]? = some f := by rw [List.getElem?_append_left hkl]; exact hf
    have hfu := h.up k f hf
    refine ⟨⟨by simp [h.len], ?_, ?_, ?_, ?_, ?_, ?_, ?_, ?_, ?_, ?_, ?_, ?_⟩, hf2⟩
    · rw [List.nodup_append]
      exact ⟨h.nd, by simp, fun a ha c hc => by simp at hc; subst hc; intro e; subst e; exact hsm ha⟩
    · intro t ht
      rcases List.mem_append.1 ht with ht | ht
      · exact h.lt t ht
      · simp at ht; subst ht; exact hs
    · intro t ht
      rcases List.mem_append.1 ht with ht | ht
      · rw [hold t ht]; exact h.vis t ht
      · simp at ht; subst ht; rw [hnew]; have := h.vis f hfm; simp only; omega
    · intro t ht hnm
      have h1 : t ∉ q.met := fun hm => hnm (List.mem_append.2 (.inl hm))
      have h2 : t ≠ s := fun e => hnm (List.mem_append.2 (.inr (by simp [e])))
      rw [hat, if_neg h2]; exact h.nev t ht h1
    · rw [List.getElem?_append_left (by omega)]; exact h.hd
    · rw [hold 0 (List.mem_of_getElem? h.hd)]; exact h.zero
    · intro t ht hne
      rcases List.mem_append.1 ht with ht | ht
      · obtain ⟨p1, p2, p3⟩ := h.par t ht hne
        rw [hold t ht, hold _ p1]
        exact ⟨List.mem_append.2 (.inl p1), p2, p3⟩
      · simp at ht; subst ht
        rw [hnew]; simp only
        rw [hold f hfm]
        exact ⟨List.mem_append.2 (.inl hfm), rfl, hb⟩
    · intro i j a c hij ha hc
      rcases hget i a ha with ⟨i1, i2, i3⟩ | ⟨i1, rfl⟩
      · rcases hget j c hc with ⟨j1, j2, j3⟩ | ⟨j1, rfl⟩
        · rw [hold a i3, hold c j3]; exact h.mono i j a c hij i2 j2
        · rw [hold a i3, hnew]; exact h.near f a hf i3
      · rcases hget j c hc with ⟨j1, j2, j3⟩ | ⟨j1, rfl⟩
        · omega
        · exact Int.le_refl _
    · intro i a ha
      rcases hget i a ha with ⟨i1, i2, i3⟩ | ⟨i1, rfl⟩
      · rw [hold a i3]; exact h.up i a i2
      · rw [hnew, i1]; simp only; omega
    · intro g a hg ha
      rw [hf2] at hg
      cases hg
      rw [hold f hfm]
      rcases List.mem_append.1 ha with ha | ha
      · rw [hold a ha]; exact h.near f a hf ha
      · simp at ha; subst ha; rw [hnew]; exact Int.le_refl _
    · intro j g u hj hg hu
      have hjl : j < q.met.length := by omega
      rw [List.getElem?_append_left hjl] at hg
      obtain ⟨d1, d2⟩ := h.done j g u hj hg hu
      rw [hold u d1, hold g (List.mem_of_getElem? hg)]
      exact ⟨List.mem_append.2 (.inl d1), d2⟩
    · intro g i u hg hi hu
      rw [hf2] at hg
      cases hg
      by_cases hib : i < b
      · obtain ⟨d1, d2⟩ := h.part f i u hf hib hu
        rw [hold u d1, hold f hfm]
        exact ⟨List.mem_append.2 (.inl d1), d2⟩
      · have : i = b := by omega
        subst this
        rw [hb] at hu
        cases hu
        rw [hnew, hold f hfm]
        exact ⟨List.mem_append.2 (.inr (by simp)), Int.le_refl _⟩
  · rw [if_neg hv]
    have hsm : s ∈ q.met := by
      refine Classical.byContradiction fun hm => hv ?_
      rw [h.nev s hs hm]; decide
    refine ⟨{ h with part := ?_ }, hf⟩
    intro g i u hg hi hu
    by_cases hib : i < b
    · exact h.part g i u hg hib hu
    · have : i = b := by omega
      subst this
      rw [hf] at hg
      cases hg
      rw [hb] at hu
      cases hu
      exact ⟨hsm, h.near f s hf hsm⟩
theorem seesTo_ok {next : Nat → List Nat} {S : Nat} {q : Qu} {k f : Nat} (h : Ok next S q k 0) (hf : q.met[k]? = some f) (hn : ∀ s, s ∈ next f → s < S) : ∀ b, b ≤ (next f).length → Ok next S (seesTo (next f) f q b) k b ∧ (seesTo (next f) f q b).met[k]? = some f
  | 0, _ => ⟨h, hf⟩
  | b + 1, hb => by
    obtain ⟨h1, h2⟩ := seesTo_ok h hf hn b (by omega)
    have hbl : b < (next f).length := by omega
    have e : (next f).getD b 0 = (next f)[b] := by simp [hbl]
    show Ok next S (see f (seesTo (next f) f q b) b ((next f).getD b 0)) k (b + 1) ∧ (see f (seesTo (next f) f q b) b ((next f).getD b 0)).met[k]? = some f
    rw [e]
    refine see_ok h1 h2 (hn _ (List.getElem_mem hbl)) (List.getElem?_eq_getElem hbl)
/-- one that is met next lies no nearer -/
theorem next_ok {next : Nat → List Nat} {S : Nat} {q : Qu} {k f : Nat} (h : Ok next S q k (next f).length) (hf : q.met[k]? = some f) : Ok next S q (k + 1) 0 := by
  refine { h with near := ?_, done := ?_, part := fun _ _ _ _ hi _ => absurd hi (by omega) }
  · intro g s hg hs
    have h1 := h.near f s hf hs
    have h2 := h.mono k (k + 1) f g (by omega) hf hg
    omega
  · intro j g u hj hg hu
    by_cases hjk : j < k
    · exact h.done j g u hjk hg hu
    · have : j = k := by omega
      subst this
      rw [hf] at hg
      cases hg
      obtain ⟨i, hi, rfl⟩ := List.getElem_of_mem hu
      exact h.part f i _ hf hi (List.getElem?_eq_getElem hi)
theorem begin_ok (next : Nat → List Nat) (S : Nat) (hS : 1 ≤ S) : Ok next S (begin S) 0 0 := by
  have h0 : (begin S).at_ 0 = ⟨0, 0, 0⟩ := by
    unfold begin Qu.at_
    rw [List.getD_eq_getElem?_getD, List.getElem?_set_self (by simp; omega)]; rfl
  have hm : ∀ s, s ∈ (begin S).met → s = 0 := fun s hs => by simpa [begin] using hs
  have hg : ∀ (i s : Nat), (begin S).met[i]? = some s → i = 0 ∧ s = 0 := fun i s hi => by
    cases i with
    | zero => simp [begin] at hi; exact ⟨rfl, hi.symm⟩
    | succ i => simp [begin] at hi
  refine ⟨by simp [begin], by simp [begin], ?_, ?_, ?_, rfl, by rw [h0], ?_, ?_, ?_, ?_, ?_, ?_⟩
  · intro s hs; rw [hm s hs]; omega
  · intro s hs; rw [hm s hs, h0]; decide
  · intro s hs hn
    have hne : s ≠ 0 := fun e => hn (by simp [begin, e])
    unfold begin Qu.at_
    rw [List.getD_eq_getElem?_getD, List.getElem?_set_ne (fun e => hne e.symm), List.getElem?_replicate, if_pos hs]; rfl
  · intro s hs hne; exact absurd (hm s hs) hne
  · intro i j s t _ hi hj; rw [(hg i s hi).2, (hg j t hj).2]; exact Int.le_refl _
  · intro i s hi; rw [(hg i s hi).2, (hg i s hi).1, h0]; decide
  · intro f s hf hs; rw [hm s hs, (hg _ f hf).2, h0]; decide
  · intro j f u hj; omega
  · intro f i u _ hi; omega
theorem Ok.many {next : Nat → List Nat} {S : Nat} {q : Qu} {k b : Nat} (h : Ok next S q k b) : q.met.length ≤ S := by
  have h1 : q.met ⊆ List.range S := fun s hs => List.mem_range.2 (h.lt s hs)
  have := h.nd.length_le_of_subset h1
  simpa using this
theorem rounds_ok {next : Nat → List Nat} {S : Nat} {q : Qu} (h : Ok next S q 0 0) (hn : ∀ f s, f < S → s ∈ next f → s < S) : ∀ k, Ok next S (rounds next q k) k 0
  | 0 => h
  | k + 1 => by
    have ih := rounds_ok h hn k
    cases hm : (rounds next q k).met[k]? with
    | some f =>
      have e : rounds next q (k + 1) = seesTo (next f) f (rounds next q k) (next f).length := by rw [rounds, hm]
      rw [e]
      obtain ⟨h1, h2⟩ := seesTo_ok ih hm (fun s hs => hn f s (ih.lt f (List.mem_of_getElem? hm)) hs) (next f).length (Nat.le_refl _)
      exact next_ok h1 h2
    | none =>
      have e : rounds next q (k + 1) = rounds next q k := by rw [rounds, hm]
      rw [e]
      have hl : (rounds next q k).met.length ≤ k := List.getElem?_eq_none_iff.1 hm
      refine { ih with near := ?_, done := ?_, part := fun _ _ _ _ hi _ => absurd hi (by omega) }
      · intro f s hf; have := (List.getElem?_eq_some_iff.1 hf).1; omega
      · intro j f u hj hf hu
        have := (List.getElem?_eq_some_iff.1 hf).1
        exact ih.done j f u (by omega) hf hu
theorem rounds_stay {next : Nat → List Nat} {q : Qu} (k : Nat) (h : (rounds next q k).met.length ≤ k) : ∀ j, rounds next q (k + j) = rounds next q k
  | 0 => rfl
  | j + 1 => by
    have ih := rounds_stay k h j
    have hm : (rounds next q (k + j)).met[k + j]? = none := by rw [ih]; exact List.getElem?_eq_none_iff.2 (by omega)
    show rounds next q (k + j + 1) = _
    rw [rounds, hm]; exact ih
/-- all is gone to -/
structure Far (next : Nat → List Nat) (S : Nat) (q : Qu) : Prop where
  len : q.steps.length = S
  low : ∀ s, s < S → -1 ≤ (q.at_ s).far ∧ (q.at_ s).far < S ∧ ((q.at_ s).far < 0 → (q.at_ s).far = -1)
  zero : (q.at_ 0).far = 0
  one : ∀ s, s < S → (q.at_ s).far = 0 → s = 0
  par : ∀ s, s < S → 0 < (q.at_ s).far → (q.at_ s).frm < S ∧ (q.at_ (q.at_ s).frm).far = (q.at_ s).far - 1 ∧ (next (q.at_ s).frm)[(q.at_ s).by_]? = some s
  near : ∀ t u, t < S → 0 ≤ (q.at_ t).far → u ∈ next t → 0 ≤ (q.at_ u).far ∧ (q.at_ u).far ≤ (q.at_ t).far + 1
theorem walk_far (next : Nat → List Nat) (S : Nat) (hS : 1 ≤ S) (hn : ∀ f s, f < S → s ∈ next f → s < S) : Far next S (walk next S) := by
  have h : Ok next S (walk next S) S 0 := rounds_ok (begin_ok next S hS) hn S
  have hm := h.many
  have hin : ∀ s, s < S → 0 ≤ ((walk next S).at_ s).far → s ∈ (walk next S).met := fun s hs h0 => by
    refine Classical.byContradiction fun hx => ?_
    rw [h.nev s hs hx] at h0
    exact absurd h0 (by decide)
  have hlow : ∀ s, s ∈ (walk next S).met → 0 ≤ ((walk next S).at_ s).far ∧ ((walk next S).at_ s).far < S := fun s hs => by
    obtain ⟨i, hi, rfl⟩ := List.getElem_of_mem hs
    have := h.up i _ (List.getElem?_eq_getElem hi)
    exact ⟨h.vis _ hs, by omega⟩
  refine ⟨h.len, ?_, h.zero, ?_, ?_, ?_⟩
  · intro s hs
    by_cases hx : s ∈ (walk next S).met
    · have := hlow s hx; omega
    · rw [h.nev s hs hx]; refine ⟨by decide, by simp only; omega, fun _ => rfl⟩
  · intro s hs h0
    refine Classical.byContradiction fun hne => ?_
    obtain ⟨p1, p2, _⟩ := h.par s (hin s hs (by omega)) hne
    have := h.vis _ p1
    omega
  · intro s hs h0
    have hne : s ≠ 0 := fun e => by subst e; rw [h.zero] at h0; omega
    obtain ⟨p1, p2, p3⟩ := h.par s (hin s hs (by omega)) hne
    exact ⟨h.lt _ p1, by omega, p3⟩
  · intro t u ht h0 hu
    obtain ⟨j, hj, e⟩ := List.getElem_of_mem (hin t ht h0)
    obtain ⟨d1, d2⟩ := h.done j t u (by omega) (by rw [List.getElem?_eq_getElem hj, e]) hu
    exact ⟨h.vis u d1, d2⟩
/-- the inputs of the way to a state, from the last one back -/
def pathOf (q : Qu) : Nat → Nat → List Nat
  | 0, _ => []
  | n + 1, s => pathOf q n (q.at_ s).frm ++ [(q.at_ s).by_]
theorem pathOf_len (q : Qu) : ∀ n s, (pathOf q n s).length = n
  | 0, _ => rfl
  | n + 1, s => by simp [pathOf, pathOf_len q n]
/-- where inputs lead to -/
def go (next : Nat → List Nat) : Nat → List Nat → Nat
  | s, [] => s
  | s, i :: l => go next ((next s).getD i 0) l
theorem go_snoc (next : Nat → List Nat) : ∀ (s : Nat) (l : List Nat) (i : Nat), go next s (l ++ [i]) = (next (go next s l)).getD i 0
  | _, [], _ => rfl
  | s, a :: l, i => by show go next _ (l ++ [i]) = _; rw [go_snoc]; rfl
/-- a path leads to its state -/
theorem path_goes {next : Nat → List Nat} {S : Nat} {q : Qu} (h : Far next S q) : ∀ (n s : Nat), s < S → (q.at_ s).far = n → go next 0 (pathOf q n s) = s ∧ (∀ j, j ≤ n → go next 0 ((pathOf q n s).take j) < S ∧ (q.at_ (go next 0 ((pathOf q n s).take j))).far = j) ∧ ∀ j (i : Nat), (pathOf q n s)[j]? = some i → i < (next (go next 0 ((pathOf q n s).take j))).length
  | 0, s, hs, hf => by
    have := h.one s hs hf
    subst this
    refine ⟨rfl, fun j hj => ?_, fun j i hi => by simp [pathOf] at hi⟩
    have : j = 0 := by omega
    subst this
    exact ⟨hs, h.zero⟩
  | n + 1, s, hs, hf => by
    obtain ⟨p1, p2, p3⟩ := h.par s hs (by omega)
    obtain ⟨g1, g2, g3⟩ := path_goes h n (q.at_ s).frm p1 (by omega)
    have hl := pathOf_len q n (q.at_ s).frm
    have e1 : go next 0 (pathOf q (n + 1) s) = s := by
      show go next 0 (pathOf q n (q.at_ s).frm ++ [(q.at_ s).by_]) = s
      rw [go_snoc, g1, List.getD_eq_getElem?_getD, p3]; rfl
    refine ⟨e1, fun j hj => ?_, fun j i hi => ?_⟩
    · by_cases hjn : j ≤ n
      · have e : (pathOf q (n + 1) s).take j = (pathOf q n (q.at_ s).frm).take j := by
          show (pathOf q n (q.at_ s).frm ++ [(q.at_ s).by_]).take j = _
          rw [List.take_append_of_le_length (by omega)]
        rw [e]; exact g2 j hjn
      · have : j = n + 1 := by omega
        subst this
        rw [List.take_of_length_le (by rw [pathOf_len]; exact Nat.le_refl _), e1]
        exact ⟨hs, hf⟩
    · have hjl : j < n + 1 := by have := (List.getElem?_eq_some_iff.1 hi).1; rw [pathOf_len] at this; exact this
      have e : (pathOf q (n + 1) s).take j = (pathOf q n (q.at_ s).frm).take j := by
        show (pathOf q n (q.at_ s).frm ++ [(q.at_ s).by_]).take j = _
        rw [List.take_append_of_le_length (by omega)]
      rw [e]
      by_cases hjn : j < n
      · refine g3 j i ?_
        have h2 : (pathOf q n (q.at_ s).frm ++ [(q.at_ s).by_])[j]? = some i := hi
        rw [List.getElem?_append_left (by omega)] at h2; exact h2
      · have : j = n := by omega
        subst this
        have h2 : (pathOf q j (q.at_ s).frm ++ [(q.at_ s).by_])[j]? = some i := hi
        rw [List.getElem?_append_right (by omega), hl, Nat.sub_self] at h2
        simp at h2
        subst h2
        rw [List.take_of_length_le (by omega), g1]
        exact (List.getElem?_eq_some_iff.1 p3).1
end Rc
end
section
namespace Tr
/-- a leg: along states whose ways are all gone, then by one that is not -/
structure Leg (next : Nat → List Nat) (I S : Nat) (G : List Nat) (a : Nat) (p : List Nat) (i : Nat) : Prop where
  full : ∀ j, j < p.length → G.getD (Rc.go next a (p.take j)) 0 = I
  ok : ∀ (j x : Nat), p[j]? = some x → x < I
  len : p.length < S
  last : i = G.getD (Rc.go next a p) 0
  lt : i < I
/-- what one counts: where one is, ways and states that were met, how many -/
structure Ct where
  s : Nat
  B : List Bool
  R : List Bool
  ways : Nat
  states : Nat
def step (next : Nat → List Nat) (I : Nat) (c : Ct) (i : Nat) : Ct :=
  ⟨(next c.s).getD i 0, c.B.set (c.s * I + i) true, c.R.set ((next c.s).getD i 0) true, if c.B.getD (c.s * I + i) false then c.ways else c.ways + 1, if c.R.getD ((next c.s).getD i 0) false then c.states else c.states + 1⟩
def first (I S : Nat) : Ct := ⟨0, List.replicate (S * I) false, (List.replicate S false).set 0 true, 0, 1⟩
def ct (next : Nat → List Nat) (I S : Nat) (l : List Nat) : Ct := l.foldl (step next I) (first I S)
theorem ct_snoc (next : Nat → List Nat) (I S : Nat) (l : List Nat) (i : Nat) : ct next I S (l ++ [i]) = step next I (ct next I S l) i := by simp [ct]
theorem fold_s (next : Nat → List Nat) (I : Nat) : ∀ (l : List Nat) (c : Ct), (l.foldl (step next I) c).s = Rc.go next c.s l
  | [], _ => rfl
  | i :: l, c => by rw [List.foldl_cons, fold_s next I l]; rfl
theorem pair_inj {I s a i j : Nat} (hi : i < I) (hj : j < I) (h : s * I + i = a * I + j) : s = a ∧ i = j := by
  have h1 : (s * I + i) / I = s := by rw [Nat.add_comm, Nat.add_mul_div_right _ _ (by omega), Nat.div_eq_of_lt hi]; omega
  have h2 : (a * I + j) / I = a := by rw [Nat.add_comm, Nat.add_mul_div_right _ _ (by omega), Nat.div_eq_of_lt hj]; omega
  have h3 : s = a := by rw [← h1, ← h2, h]
  subst h3
  exact ⟨rfl, by omega⟩
theorem pair_lt {I S s i : Nat} (hs : s < S) (hi : i < I) : s * I + i < S * I := by
  have : (s + 1) * I ≤ S * I := Nat.mul_le_mul_right I hs
  rw [Nat.add_mul, Nat.one_mul] at this
  omega
theorem set_getD {α : Type} (l : List α) (i j : Nat) (x d : α) (h : i < l.length) : (l.set i x).getD j d = if j = i then x else l.getD j d := by
  rw [List.getD_eq_getElem?_getD, List.getD_eq_getElem?_getD]
  by_cases e : j = i
  · subst e; rw [if_pos rfl, List.getElem?_set_self h]; rfl
  · rw [if_neg e, List.getElem?_set_ne (fun h => e h.symm)]
theorem sum_set : ∀ (l : List Nat) (i : Nat), i < l.length → (l.set i (l.getD i 0 + 1)).sum = l.sum + 1
  | [], i, h => by simp at h
  | a :: r, 0, _ => by simp; omega
  | a :: r, i + 1, h => by
    have := sum_set r i (by simpa using h)
    simp only [List.getD_cons_succ, List.set_cons_succ, List.sum_cons]
    omega
theorem count_set : ∀ (l : List Bool) (i : Nat), i < l.length → (l.set i true).count true = if l.getD i false then l.count true else l.count true + 1
  | [], i, h => by simp at h
  | a :: r, 0, _ => by cases a <;> simp
  | a :: r, i + 1, h => by
    have := count_set r i (by simpa using h)
    simp only [List.getD_cons_succ, List.set_cons_succ, List.count_cons]
    rw [this]
    split <;> omega
theorem sum_full (I : Nat) : ∀ (G : List Nat) (R : List Bool), G.length = R.length → (∀ s, s < R.length → G.getD s 0 = if R.getD s false then I else 0) → G.sum = R.count true * I
  | [], [], _, _ => by simp
  | [], _ :: _, h, _ => by simp at h
  | _ :: _, [], h, _ => by simp at h
  | g :: G, r :: R, h, h2 => by
    have ih := sum_full I G R (by simpa using h) (fun s hs => by have := h2 (s + 1) (by simpa using hs); simpa using this)
    have h0 := h2 0 (by simp)
    simp only [List.getD_cons_zero] at h0
    rw [List.sum_cons, ih, h0, List.count_cons]
    cases r <;> simp [Nat.add_mul]
    omega
/-- what stands behind each step -/
structure Inv (next : Nat → List Nat) (I S : Nat) (far : Nat → Prop) (G : List Nat) (c : Ct) : Prop where
  lenB : c.B.length = S * I
  lenR : c.R.length = S
  lenG : G.length = S
  at_ : c.s < S
  cur : c.R.getD c.s false = true
  gle : ∀ s, G.getD s 0 ≤ I
  B : ∀ s i, s < S → i < I → c.B.getD (s * I + i) false = decide (i < G.getD s 0)
  ways : c.ways = G.sum
  states : c.states = c.R.count true
  zero : ∀ s, c.R.getD s false = false → G.getD s 0 = 0
  reach : ∀ s, s < S → c.R.getD s false = true → far s
structure Ok (next : Nat → List Nat) (I S : Nat) (far : Nat → Prop) : Prop where
  len : ∀ s, (next s).length = I
  lt : ∀ f s, f < S → s ∈ next f → s < S
  zero : far 0
  near : ∀ t u, t < S → far t → u ∈ next t → far u
theorem Ok.to {next : Nat → List Nat} {I S : Nat} {far : Nat → Prop} (h : Ok next I S far) {s i : Nat} (hs : s < S) (hi : i < I) : (next s).getD i 0 < S ∧ (next s).getD i 0 ∈ next s := by
  have hl : i < (next s).length := by rw [h.len]; exact hi
  have e : (next s).getD i 0 = (next s)[i] := by rw [List.getD_eq_getElem?_getD, List.getElem?_eq_getElem hl]; rfl
  rw [e]
  exact ⟨h.lt s _ hs (List.getElem_mem hl), List.getElem_mem hl⟩
theorem first_inv {next : Nat → List Nat} {I S : Nat} {far : Nat → Prop} (h : Ok next I S far) (hS : 1 ≤ S) : Inv next I S far (List.replicate S 0) (first I S) := by
  have hR : ∀ s, ((List.replicate S false).set 0 true).getD s false = decide (s = 0) := fun s => by
    rw [set_getD _ _ _ _ _ (by simp; omega)]
    by_cases e : s = 0
    · simp [e]
    · rw [if_neg e, List.getD_eq_getElem?_getD, List.getElem?_replicate]
      split <;> simp [e]
  have hG : ∀ s, (List.replicate S 0).getD s 0 = 0 := fun s => by
    rw [List.getD_eq_getElem?_getD, List.getElem?_replicate]
    split <;> rfl
  refine ⟨by simp [first], by simp [first], by simp, hS, by show ((List.replicate S false).set 0 true).getD 0 false = true; rw [hR]; rfl, fun s => by rw [hG]; exact Nat.zero_le _, fun s i hs hi => ?_, by simp [first], ?_, fun s _ => hG s, fun s _ hr => ?_⟩
  · rw [hG]
    show (List.replicate (S * I) false).getD (s * I + i) false = _
    rw [List.getD_eq_getElem?_getD, List.getElem?_replicate]
    split <;> simp
  · show 1 = ((List.replicate S false).set 0 true).count true
    rw [count_set _ _ (by simp; omega)]
    have : (List.replicate S false).getD 0 false = false := by rw [List.getD_eq_getElem?_getD, List.getElem?_replicate]; split <;> rfl
    rw [this]
    simp [List.count_replicate]
  · have h1 : ((List.replicate S false).set 0 true).getD s false = true := hr
    rw [hR] at h1
    rw [of_decide_eq_true h1]
    exact h.zero
theorem set_true {l : List Bool} {i : Nat} (h : l.getD i false = true) : l.set i true = l := by
  apply List.ext_getElem?
  intro j
  rw [List.getD_eq_getElem?_getD] at h
  by_cases e : i = j
  · subst e
    rw [List.getElem?_set]
    cases hl : l[i]? with
    | none => rw [hl] at h; cases h
    | some b =>
      rw [hl] at h
      obtain rfl : b = true := h
      simp [(List.getElem?_eq_some_iff.1 hl).1]
  · rw [List.getElem?_set_ne e]
theorem Inv.full {next : Nat → List Nat} {I S : Nat} {far : Nat → Prop} {G : List Nat} {c : Ct} (ho : Ok next I S far) (h : Inv next I S far G c) (hf : G.getD c.s 0 = I) (i : Nat) (hi : i < I) : Inv next I S far G (step next I c i) := by
  obtain ⟨t1, t2⟩ := ho.to h.at_ hi
  have hb : c.B.getD (c.s * I + i) false = true := by rw [h.B c.s i h.at_ hi, hf]; simp [hi]
  have hR := fun s => set_getD c.R ((next c.s).getD i 0) s true false (by rw [h.lenR]; exact t1)
  refine ⟨by show (c.B.set _ _).length = _; rw [List.length_set]; exact h.lenB, by show (c.R.set _ _).length = _; rw [List.length_set]; exact h.lenR, h.lenG, t1, by show (c.R.set _ _).getD _ _ = true; rw [hR]; exact if_pos rfl, h.gle, ?_, ?_, ?_, ?_, ?_⟩
  · intro s j hs hj
    show (c.B.set _ _).getD _ _ = _
    rw [set_true hb]
    exact h.B s j hs hj
  · show (if c.B.getD (c.s * I + i) false then c.ways else c.ways + 1) = _
    rw [hb]
    exact h.ways
  · show (if c.R.getD _ false then c.states else c.states + 1) = (c.R.set _ true).count true
    rw [count_set _ _ (by rw [h.lenR]; exact t1), h.states]
  · intro s hs
    have hs' : (c.R.set ((next c.s).getD i 0) true).getD s false = false := hs
    rw [hR] at hs'
    split at hs'
    · cases hs'
    · exact h.zero s hs'
  · intro s hs hr
    have hr' : (c.R.set ((next c.s).getD i 0) true).getD s false = true := hr
    rw [hR] at hr'
    by_cases e : s = (next c.s).getD i 0
    · rw [e]; exact ho.near c.s _ h.at_ (h.reach c.s h.at_ h.cur) t2
    · rw [if_neg e] at hr'; exact h.reach s hs hr'
theorem Inv.new {next : Nat → List Nat} {I S : Nat} {far : Nat → Prop} {G : List Nat} {c : Ct} (ho : Ok next I S far) (h : Inv next I S far G c) (i : Nat) (hg : i = G.getD c.s 0) (hi : i < I) : Inv next I S far (G.set c.s (G.getD c.s 0 + 1)) (step next I c i) := by
  obtain ⟨t1, t2⟩ := ho.to h.at_ hi
  have hb : c.B.getD (c.s * I + i) false = false := by rw [h.B c.s i h.at_ hi, ← hg]; simp
  have hlB : c.s * I + i < c.B.length := by rw [h.lenB]; exact pair_lt h.at_ hi
  have hR := fun s => set_getD c.R ((next c.s).getD i 0) s true false (by rw [h.lenR]; exact t1)
  have hG := fun s => set_getD G c.s s (G.getD c.s 0 + 1) 0 (by rw [h.lenG]; exact h.at_)
  refine ⟨by show (c.B.set _ _).length = _; rw [List.length_set]; exact h.lenB, by show (c.R.set _ _).length = _; rw [List.length_set]; exact h.lenR, by rw [List.length_set]; exact h.lenG, t1, by show (c.R.set _ _).getD _ _ = true; rw [hR]; exact if_pos rfl, ?_, ?_, ?_, ?_, ?_, ?_⟩
  · intro s
    rw [hG]
    split
    · omega
    · exact h.gle s
  · intro s j hs hj
    show (c.B.set _ _).getD _ _ = _
    rw [set_getD _ _ _ _ _ hlB, hG]
    by_cases e : s * I + j = c.s * I + i
    · obtain ⟨rfl, rfl⟩ := pair_inj hj hi e
      rw [if_pos rfl, if_pos rfl, ← hg]
      simp
    · rw [if_neg e, h.B s j hs hj]
      by_cases e2 : s = c.s
      · subst e2
        rw [if_pos rfl, ← hg]
        have : j ≠ i := fun e3 => e (by rw [e3])
        refine decide_eq_decide.2 ?_
        omega
      · rw [if_neg e2]
  · show (if c.B.getD (c.s * I + i) false then c.ways else c.ways + 1) = _
    rw [hb, sum_set _ _ (by rw [h.lenG]; exact h.at_), h.ways]
    rfl
  · show (if c.R.getD _ false then c.states else c.states + 1) = (c.R.set _ true).count true
    rw [count_set _ _ (by rw [h.lenR]; exact t1), h.states]
  · intro s hs
    have hs' : (c.R.set ((next c.s).getD i 0) true).getD s false = false := hs
    rw [hR] at hs'
    split at hs'
    · cases hs'
    · rw [hG]
      by_cases e : s = c.s
      · subst e; rw [h.cur] at hs'; cases hs'
      · rw [if_neg e]; exact h.zero s hs'
  · intro s hs hr
    have hr' : (c.R.set ((next c.s).getD i 0) true).getD s false = true := hr
    rw [hR] at hr'
    by_cases e : s = (next c.s).getD i 0
    · rw [e]; exact ho.near c.s _ h.at_ (h.reach c.s h.at_ h.cur) t2
    · rw [if_neg e] at hr'; exact h.reach s hs hr'
/-- along a leg's first steps -/
theorem Inv.along {next : Nat → List Nat} {I S : Nat} {far : Nat → Prop} {G : List Nat} {c : Ct} (ho : Ok next I S far) (h : Inv next I S far G c) {p : List Nat} {i : Nat} (hl : Leg next I S G c.s p i) : ∀ j, j ≤ p.length → Inv next I S far G ((p.take j).foldl (step next I) c)
  | 0, _ => h
  | j + 1, hj => by
    have ih := h.along ho hl j (by omega)
    rw [List.take_succ_eq_append_getElem (by omega), List.foldl_append]
    refine ih.full ho ?_ _ (hl.ok j _ (List.getElem?_eq_getElem (by omega)))
    rw [fold_s]
    exact hl.full j (by omega)
theorem Inv.leg {next : Nat → List Nat} {I S : Nat} {far : Nat → Prop} {G : List Nat} {c : Ct} (ho : Ok next I S far) (h : Inv next I S far G c) {p : List Nat} {i : Nat} (hl : Leg next I S G c.s p i) : Inv next I S far (G.set (Rc.go next c.s p) (i + 1)) ((p ++ [i]).foldl (step next I) c) := by
  have h1 := h.along ho hl p.length (Nat.le_refl _)
  rw [List.take_length] at h1
  have hs : (p.foldl (step next I) c).s = Rc.go next c.s p := fold_s next I p c
  have h2 := h1.new ho i (by rw [hs]; exact hl.last) hl.lt
  rw [hs, ← hl.last] at h2
  rw [List.foldl_append]
  exact h2
/-- a tour: inputs, how often from each state, where one is -/
structure Tour (next : Nat → List Nat) (I S : Nat) (far : Nat → Prop) (G : List Nat) (l : List Nat) (a : Nat) : Prop where
  inv : Inv next I S far G (ct next I S l)
  at_ : (ct next I S l).s = a
  long : l.length ≤ G.sum * S
  ok : ∀ (j x : Nat), l[j]? = some x → x < I
theorem Tour.start {next : Nat → List Nat} {I S : Nat} {far : Nat → Prop} (h : Ok next I S far) (hS : 1 ≤ S) : Tour next I S far (List.replicate S 0) [] 0 :=
  ⟨first_inv h hS, rfl, Nat.zero_le _, fun j x hx => by simp at hx⟩
theorem Tour.next {next : Nat → List Nat} {I S : Nat} {far : Nat → Prop} {G l : List Nat} {a : Nat} (ho : Ok next I S far) (h : Tour next I S far G l a) {p : List Nat} {i : Nat} (hl : Leg next I S G a p i) :
    Tour next I S far (G.set (Rc.go next a p) (i + 1)) (l ++ (p ++ [i])) (Rc.go next a (p ++ [i])) := by
  have hl2 : Leg next I S G (ct next I S l).s p i := by rw [h.at_]; exact hl
  have h1 := h.inv.leg ho hl2
  rw [h.at_] at h1
  have e : ct next I S (l ++ (p ++ [i])) = (p ++ [i]).foldl (step next I) (ct next I S l) := by simp [ct]
  have hgs : Rc.go next a p < G.length := by
    have h2 := (h.inv.along ho hl2 p.length (Nat.le_refl _)).at_
    rw [List.take_length, fold_s, h.at_] at h2
    rw [h.inv.lenG]; exact h2
  have hsum : (G.set (Rc.go next a p) (i + 1)).sum = G.sum + 1 := by
    have := sum_set G (Rc.go next a p) hgs
    rw [← hl.last] at this
    exact this
  refine ⟨by rw [e]; exact h1, by rw [e, fold_s, h.at_], ?_, fun j x hx => ?_⟩
  · rw [hsum, List.length_append, List.length_append, Nat.add_mul, Nat.one_mul]
    have := h.long
    have := hl.len
    simp
    omega
  · by_cases hj : j < l.length
    · rw [List.getElem?_append_left hj] at hx; exact h.ok j x hx
    · rw [List.getElem?_append_right (by omega)] at hx
      by_cases hj2 : j - l.length < p.length
      · rw [List.getElem?_append_left hj2] at hx; exact hl.ok _ x hx
      · rw [List.getElem?_append_right (by omega)] at hx
        have : x = i := by
          have hz : j - l.length - p.length = 0 := by
            have := (List.getElem?_eq_some_iff.1 hx).1
            simp at this; omega
          rw [hz] at hx
          simpa using hx.symm
        rw [this]; exact hl.lt
theorem sum_le (I : Nat) : ∀ G : List Nat, (∀ s, G.getD s 0 ≤ I) → G.sum ≤ G.length * I
  | [], _ => by simp
  | g :: G, h => by
    have ih := sum_le I G (fun s => by have := h (s + 1); simpa using this)
    have h0 := h 0
    simp only [List.getD_cons_zero] at h0
    rw [List.sum_cons, List.length_cons, Nat.add_mul, Nat.one_mul]
    omega
/-- all ways gone: as many as its states have -/
theorem Tour.all {next : Nat → List Nat} {I S : Nat} {far : Nat → Prop} {G l : List Nat} {a : Nat} (h : Tour next I S far G l a) (ha : ∀ s, s < S → far s → G.getD s 0 = I) : (ct next I S l).ways = (ct next I S l).states * I := by
  rw [h.inv.ways, h.inv.states]
  refine sum_full I G _ (by rw [h.inv.lenG, h.inv.lenR]) fun s hs => ?_
  rw [h.inv.lenR] at hs
  cases hr : (ct next I S l).R.getD s false with
  | true => simp; exact ha s hs (h.inv.reach s hs hr)
  | false => simp; exact h.inv.zero s hr
end Tr
end
end Go.Proofs.YtglmpkpcbafgdaaGreatDoor
