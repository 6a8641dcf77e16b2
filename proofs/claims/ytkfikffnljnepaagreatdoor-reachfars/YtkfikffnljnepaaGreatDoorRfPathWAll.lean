/-
  The way by which a state is come to first is the least of the shortest ones, in plain words. The document's Paths, in plain words: level by level, what is told of a state is the way by which it is come to first. The walks of the document's before and Paths.
-/
import Derived.Test.YtkfikffnljnepaaGreatDoorRfFarWAll
import Derived.Test.YtkfikffnljnepaaGreatDoorRlStayAll
import Derived.Test.YtkfikffnljnepaaGreatDoorNaEdgesAll
import Derived.Deep.QuietTactic
import Derived.BigQuiet
namespace Go.Proofs.YtkfikffnljnepaaGreatDoor
section
namespace Rc
/-- is a list ahead of another one of the same length? -/
def bef : List Nat → List Nat → Bool
  | a :: ar, b :: bs => if a = b then bef ar bs else decide (a < b)
  | _, _ => false
theorem bef_irr : ∀ a, bef a a = false
  | [] => rfl
  | _ :: ar => by unfold bef; rw [if_pos rfl]; exact bef_irr ar
theorem bef_snoc : ∀ (p q : List Nat) (i j : Nat), p.length = q.length → bef (p ++ [i]) (q ++ [j]) = (bef p q || (decide (p = q) && decide (i < j)))
  | [], [], i, j, _ => by
    by_cases e : i = j
    · subst e; simp [bef]
    · simp [bef, e]
  | [], _ :: _, _, _, h => by simp at h
  | _ :: _, [], _, _, h => by simp at h
  | a :: p, b :: q, i, j, h => by
    have ih := bef_snoc p q i j (by simpa using h)
    simp only [List.cons_append, bef]
    by_cases e : a = b
    · subst e; rw [if_pos rfl, if_pos rfl, ih]; simp
    · rw [if_neg e, if_neg e]; simp [e]
theorem bef_asym : ∀ (a b : List Nat), bef a b = true → bef b a = false
  | [], _, h => by simp [bef] at h
  | _ :: _, [], h => by simp [bef] at h
  | x :: a, y :: b, h => by
    unfold bef at h ⊢
    by_cases e : x = y
    · subst e; rw [if_pos rfl] at h ⊢; exact bef_asym a b h
    · rw [if_neg e] at h
      rw [if_neg (fun k => e k.symm)]
      simp at h ⊢
      omega
theorem bef_trans : ∀ (a b c : List Nat), bef a b = true → bef b c = true → bef a c = true
  | [], _, _, h, _ => by simp [bef] at h
  | _ :: _, [], _, h, _ => by simp [bef] at h
  | _ :: _, _ :: _, [], _, h => by simp [bef] at h
  | x :: a, y :: b, z :: c, h, k => by
    unfold bef at h k ⊢
    by_cases e : x = y
    · subst e
      rw [if_pos rfl] at h
      by_cases e2 : x = z
      · subst e2; rw [if_pos rfl] at k ⊢; exact bef_trans a b c h k
      · rw [if_neg e2] at k ⊢; exact k
    · rw [if_neg e] at h
      simp at h
      by_cases e2 : y = z
      · subst e2; rw [if_neg e]; simpa using h
      · rw [if_neg e2] at k
        simp at k
        rw [if_neg (by omega)]
        simp
        omega
theorem bef_tri : ∀ (a b : List Nat), a.length = b.length → a = b ∨ bef a b = true ∨ bef b a = true
  | [], [], _ => .inl rfl
  | [], _ :: _, h => by simp at h
  | _ :: _, [], h => by simp at h
  | x :: a, y :: b, h => by
    by_cases e : x = y
    · subst e
      rcases bef_tri a b (by simpa using h) with h1 | h1 | h1
      · exact .inl (by rw [h1])
      · exact .inr (.inl (by unfold bef; rw [if_pos rfl]; exact h1))
      · exact .inr (.inr (by unfold bef; rw [if_pos rfl]; exact h1))
    · rcases Nat.lt_or_gt_of_ne e with h1 | h1
      · exact .inr (.inl (by unfold bef; rw [if_neg e]; simpa using h1))
      · exact .inr (.inr (by unfold bef; rw [if_neg (fun k => e k.symm)]; simpa using h1))
/-- in what order states are met: by the place of the one ahead, then by the input -/
structure Ordd (next : Nat → List Nat) (q : Qu) (k b : Nat) : Prop where
  first : ∀ (j f i u : Nat), q.met[j]? = some f → (j < k ∨ (j = k ∧ i < b)) → (next f)[i]? = some u → u ≠ 0 → ∃ a : Nat, q.met[a]? = some (q.at_ u).frm ∧ (a < j ∨ (a = j ∧ (q.at_ u).by_ ≤ i))
  ord : ∀ (x y s t : Nat), x < y → q.met[x]? = some s → q.met[y]? = some t → s ≠ 0 → t ≠ 0 → ∃ a c : Nat, q.met[a]? = some (q.at_ s).frm ∧ q.met[c]? = some (q.at_ t).frm ∧ (a < c ∨ (a = c ∧ (q.at_ s).by_ < (q.at_ t).by_))
  last : ∀ s, s ∈ q.met → s ≠ 0 → ∃ a : Nat, q.met[a]? = some (q.at_ s).frm ∧ (a < k ∨ (a = k ∧ (q.at_ s).by_ < b))
theorem see_ord {next : Nat → List Nat} {S : Nat} {q : Qu} {k b f s : Nat} (h : Ok next S q k b) (o : Ordd next q k b) (hf : q.met[k]? = some f) (hs : s < S) (hb : (next f)[b]? = some s) : Ordd next (see f q b s) k (b + 1) := by
  have hfm : f ∈ q.met := List.mem_of_getElem? hf
  have hkl : k < q.met.length := (List.getElem?_eq_some_iff.1 hf).1
  have h0m : 0 ∈ q.met := List.mem_of_getElem? h.hd
  have hin : ∀ (j g i u : Nat), q.met[j]? = some g → (j < k ∨ (j = k ∧ i < b)) → (next g)[i]? = some u → u ∈ q.met := fun j g i u hj hp hu => by
    rcases hp with hp | ⟨rfl, hp⟩
    · exact (h.done j g u hp hj (List.mem_of_getElem? hu)).1
    · exact (h.part g i u hj hp hu).1
  unfold see
  by_cases hv : (q.at_ s).far < 0
  · rw [if_pos hv]
    have hsm : s ∉ q.met := fun hm => by have := h.vis s hm; omega
    have hs0 : s ≠ 0 := fun e => hsm (by rw [e]; exact h0m)
    have hsl : s < q.steps.length := by rw [h.len]; exact hs
    have hat := fun t => at_set q s t ⟨(q.at_ f).far + 1, f, b⟩ (q.met ++ [s]) hsl
    have hold : ∀ t, t ∈ q.met → (Qu.mk (q.steps.set s ⟨(q.at_ f).far + 1, f, b⟩) (q.met ++ [s])).at_ t = q.at_ t := fun t ht => by
      rw [hat, if_neg]; intro e; subst e; exact hsm ht
    have hnew : (Qu.mk (q.steps.set s ⟨(q.at_ f).far + 1, f, b⟩) (q.met ++ [s])).at_ s = ⟨(q.at_ f).far + 1, f, b⟩ := by rw [hat, if_pos rfl]
    have hup : ∀ (a t : Nat), q.met[a]? = some t → (q.met ++ [s])[a]? = some t := fun a t ha => by
      rw [List.getElem?_append_left (List.getElem?_eq_some_iff.1 ha).1]; exact ha
    have hget : ∀ (i t : Nat), (q.met ++ [s])[i]? = some t → (i < q.met.length ∧ q.met[i]? = some t ∧ t ∈ q.met) ∨ (i = q.met.length ∧ t = s) := fun i t ht => by
      by_cases hi : i < q.met.length
      · rw [List.getElem?_append_left hi] at ht
        exact .inl ⟨hi, ht, List.mem_of_getElem? ht⟩
      · rw [List.getElem?_append_right (by omega)] at ht
        have hl : i - q.met.length < [s].length := (List.getElem?_eq_some_iff.1 ht).1
        have hi2 : i = q.met.length := by simp at hl; omega
        subst hi2
        simp at ht
        exact .inr ⟨rfl, ht.symm⟩
    refine ⟨?_, ?_, ?_⟩
    · intro j g i u hj hp hu hu0
      rcases hget j g hj with ⟨j1, j2, j3⟩ | ⟨j1, _⟩
      · by_cases hold' : j < k ∨ (j = k ∧ i < b)
        · obtain ⟨a, a1, a2⟩ := o.first j g i u j2 hold' hu hu0
          rw [hold u (hin j g i u j2 hold' hu)]
          exact ⟨a, hup _ _ a1, a2⟩
        · obtain rfl : j = k := by omega
          obtain rfl : i = b := by omega
          rw [hf] at j2
          cases j2
          rw [hb] at hu
          cases hu
          rw [hnew]
          exact ⟨j, hup _ _ hf, .inr ⟨rfl, Nat.le_refl _⟩⟩
      · omega
    · intro x y t u hxy hx hy ht hu
      rcases hget x t hx with ⟨x1, x2, x3⟩ | ⟨x1, _⟩
      · rcases hget y u hy with ⟨y1, y2, y3⟩ | ⟨y1, rfl⟩
        · obtain ⟨a, c, e1, e2, e3⟩ := o.ord x y t u hxy x2 y2 ht hu
          rw [hold t x3, hold u y3]
          exact ⟨a, c, hup _ _ e1, hup _ _ e2, e3⟩
        · obtain ⟨a, e1, e2⟩ := o.last t x3 ht
          rw [hold t x3, hnew]
          exact ⟨a, k, hup _ _ e1, hup _ _ hf, e2⟩
      · rcases hget y u hy with ⟨y1, _, _⟩ | ⟨y1, _⟩ <;> omega
    · intro t ht ht0
      rcases List.mem_append.1 ht with ht | ht
      · obtain ⟨a, e1, e2⟩ := o.last t ht ht0
        rw [hold t ht]
        exact ⟨a, hup _ _ e1, by omega⟩
      · simp at ht
        subst ht
        rw [hnew]
        exact ⟨k, hup _ _ hf, .inr ⟨rfl, Nat.lt_succ_self _⟩⟩
  · rw [if_neg hv]
    have hsm : s ∈ q.met := by
      refine Classical.byContradiction fun hm => hv ?_
      rw [h.nev s hs hm]; decide
    refine ⟨?_, o.ord, ?_⟩
    · intro j g i u hj hp hu hu0
      by_cases hold' : j < k ∨ (j = k ∧ i < b)
      · exact o.first j g i u hj hold' hu hu0
      · obtain rfl : j = k := by omega
        obtain rfl : i = b := by omega
        rw [hf] at hj
        cases hj
        rw [hb] at hu
        cases hu
        obtain ⟨a, e1, e2⟩ := o.last _ hsm hu0
        exact ⟨a, e1, by omega⟩
    · intro t ht ht0
      obtain ⟨a, e1, e2⟩ := o.last t ht ht0
      exact ⟨a, e1, by omega⟩
theorem seesTo_ord {next : Nat → List Nat} {S : Nat} {q : Qu} {k f : Nat} (h : Ok next S q k 0) (o : Ordd next q k 0) (hf : q.met[k]? = some f) (hn : ∀ s, s ∈ next f → s < S) : ∀ b, b ≤ (next f).length → Ordd next (seesTo (next f) f q b) k b
  | 0, _ => o
  | b + 1, hb => by
    obtain ⟨h1, h2⟩ := seesTo_ok h hf hn b (by omega)
    have o1 := seesTo_ord h o hf hn b (by omega)
    have hbl : b < (next f).length := by omega
    have e : (next f).getD b 0 = (next f)[b] := by simp [hbl]
    show Ordd next (see f (seesTo (next f) f q b) b ((next f).getD b 0)) k (b + 1)
    rw [e]
    exact see_ord h1 o1 h2 (hn _ (List.getElem_mem hbl)) (List.getElem?_eq_getElem hbl)
theorem next_ord {next : Nat → List Nat} {q : Qu} {k f : Nat} (o : Ordd next q k (next f).length) (hf : q.met[k]? = some f) : Ordd next q (k + 1) 0 := by
  refine ⟨fun j g i u hj hp hu hu0 => ?_, o.ord, fun t ht ht0 => ?_⟩
  · refine o.first j g i u hj ?_ hu hu0
    by_cases e : j = k
    · subst e
      rw [hf] at hj
      cases hj
      exact .inr ⟨rfl, (List.getElem?_eq_some_iff.1 hu).1⟩
    · exact .inl (by omega)
  · obtain ⟨a, e1, e2⟩ := o.last t ht ht0
    exact ⟨a, e1, by omega⟩
theorem begin_ord (next : Nat → List Nat) (S : Nat) : Ordd next (begin S) 0 0 := by
  have hm : ∀ s, s ∈ (begin S).met → s = 0 := fun s hs => by simpa [begin] using hs
  refine ⟨fun j f i u _ hp => by omega, fun x y s t _ hx _ hs => absurd (hm s (List.mem_of_getElem? hx)) hs, fun s hs h0 => absurd (hm s hs) h0⟩
theorem rounds_ord {next : Nat → List Nat} {S : Nat} {q : Qu} (h : Ok next S q 0 0) (o : Ordd next q 0 0) (hn : ∀ f s, f < S → s ∈ next f → s < S) : ∀ k, Ordd next (rounds next q k) k 0
  | 0 => o
  | k + 1 => by
    have ih := rounds_ok h hn k
    have io := rounds_ord h o hn k
    cases hm : (rounds next q k).met[k]? with
    | some f =>
      have e : rounds next q (k + 1) = seesTo (next f) f (rounds next q k) (next f).length := by rw [rounds, hm]
      rw [e]
      have hnf : ∀ s, s ∈ next f → s < S := fun s hs => hn f s (ih.lt f (List.mem_of_getElem? hm)) hs
      exact next_ord (seesTo_ord ih io hm hnf (next f).length (Nat.le_refl _)) (seesTo_ok ih hm hnf (next f).length (Nat.le_refl _)).2
    | none =>
      have e : rounds next q (k + 1) = rounds next q k := by rw [rounds, hm]
      rw [e]
      have hl : (rounds next q k).met.length ≤ k := List.getElem?_eq_none_iff.1 hm
      refine ⟨fun j f i u hj hp hu hu0 => io.first j f i u hj (.inl (by have := (List.getElem?_eq_some_iff.1 hj).1; omega)) hu hu0, io.ord, fun t ht ht0 => ?_⟩
      obtain ⟨a, e1, e2⟩ := io.last t ht ht0
      exact ⟨a, e1, by omega⟩
theorem walk_ord (next : Nat → List Nat) (S : Nat) (hS : 1 ≤ S) (hn : ∀ f s, f < S → s ∈ next f → s < S) : Ordd next (walk next S) S 0 := rounds_ord (begin_ok next S hS) (begin_ord next S) hn S
theorem nodup_same {l : List Nat} (h : l.Nodup) {x y t : Nat} (hx : l[x]? = some t) (hy : l[y]? = some t) : x = y := by
  obtain ⟨h1, h2⟩ := List.getElem?_eq_some_iff.1 hx
  obtain ⟨h3, h4⟩ := List.getElem?_eq_some_iff.1 hy
  exact (List.getElem_inj h).1 (h2.trans h4.symm)
/-- of one level, who is met earlier has the earlier way -/
theorem path_ord {next : Nat → List Nat} {S : Nat} {q : Qu} (h : Ok next S q S 0) (o : Ordd next q S 0) : ∀ (n x y s t : Nat), x < y → q.met[x]? = some s → q.met[y]? = some t → (q.at_ s).far = n → (q.at_ t).far = n → bef (pathOf q n s) (pathOf q n t) = true
  | 0, x, y, s, t, hxy, hx, hy, hs, ht => by
    have z : ∀ u, u ∈ q.met → (q.at_ u).far = 0 → u = 0 := fun u hu h0 => by
      refine Classical.byContradiction fun hne => ?_
      obtain ⟨p1, p2, _⟩ := h.par u hu hne
      have := h.vis _ p1
      omega
    have e1 := z s (List.mem_of_getElem? hx) hs
    have e2 := z t (List.mem_of_getElem? hy) ht
    rw [e1] at hx
    rw [e2] at hy
    have := nodup_same h.nd hx hy
    omega
  | n + 1, x, y, s, t, hxy, hx, hy, hs, ht => by
    have s0 : s ≠ 0 := fun e => by subst e; rw [h.zero] at hs; omega
    have t0 : t ≠ 0 := fun e => by subst e; rw [h.zero] at ht; omega
    obtain ⟨a, c, e1, e2, e3⟩ := o.ord x y s t hxy hx hy s0 t0
    obtain ⟨p1, p2, _⟩ := h.par s (List.mem_of_getElem? hx) s0
    obtain ⟨r1, r2, _⟩ := h.par t (List.mem_of_getElem? hy) t0
    show bef (pathOf q n (q.at_ s).frm ++ [(q.at_ s).by_]) (pathOf q n (q.at_ t).frm ++ [(q.at_ t).by_]) = true
    rw [bef_snoc _ _ _ _ (by rw [pathOf_len, pathOf_len])]
    rcases e3 with e3 | ⟨rfl, e3⟩
    · rw [path_ord h o n a c _ _ e3 e1 e2 (by omega) (by omega)]
      rfl
    · rw [e1] at e2
      rw [Option.some.inj e2]
      simp [e3]
/-- the way told is the least -/
theorem path_least (next : Nat → List Nat) (S : Nat) (hS : 1 ≤ S) (hn : ∀ f s, f < S → s ∈ next f → s < S) (n s i t : Nat) (hs : s < S) (ht : t < S) (hfs : ((walk next S).at_ s).far = n) (hft : ((walk next S).at_ t).far = (n : Int) + 1) (hi : (next s)[i]? = some t) :
    pathOf (walk next S) (n + 1) t = pathOf (walk next S) n s ++ [i] ∨ bef (pathOf (walk next S) (n + 1) t) (pathOf (walk next S) n s ++ [i]) = true := by
  have h : Ok next S (walk next S) S 0 := rounds_ok (begin_ok next S hS) hn S
  have o := walk_ord next S hS hn
  have hin : ∀ s, s < S → 0 ≤ ((walk next S).at_ s).far → s ∈ (walk next S).met := fun s hs h0 => by
    refine Classical.byContradiction fun hx => ?_
    rw [h.nev s hs hx] at h0
    exact absurd h0 (by decide)
  have t0 : t ≠ 0 := fun e => by subst e; rw [h.zero] at hft; omega
  obtain ⟨j, hj, ej⟩ := List.getElem_of_mem (hin s hs (by omega))
  have hjs : (walk next S).met[j]? = some s := by rw [List.getElem?_eq_getElem hj, ej]
  have hm := h.many
  obtain ⟨a, e1, e2⟩ := o.first j s i t hjs (.inl (by omega)) hi t0
  obtain ⟨p1, p2, _⟩ := h.par t (hin t ht (by omega)) t0
  have e : pathOf (walk next S) (n + 1) t = pathOf (walk next S) n ((walk next S).at_ t).frm ++ [((walk next S).at_ t).by_] := rfl
  rw [e, bef_snoc _ _ _ _ (by rw [pathOf_len, pathOf_len])]
  rcases e2 with e2 | ⟨rfl, e2⟩
  · right
    rw [path_ord h o n a j _ _ e2 e1 hjs (by omega) hfs]
    rfl
  · rw [e1] at hjs
    have e3 := Option.some.inj hjs
    rw [e3]
    by_cases e4 : ((walk next S).at_ t).by_ = i
    · left; rw [e4]
    · right
      have : ((walk next S).at_ t).by_ < i := by omega
      simp [this]
end Rc
end
section
namespace Rf
open Rc
/-- a way of d + 1 inputs to state t, of those looked at: ahead of state s, and of it by inputs ahead of i -/
def Cand (next : Nat → List Nat) (S d s i t : Nat) (c : List Nat) : Prop := ∃ s' i' : Nat, (s' < s ∨ (s' = s ∧ i' < i)) ∧ s' < S ∧ ((walk next S).at_ s').far = (d : Int) ∧ (next s')[i']? = some t ∧ c = pathOf (walk next S) d s' ++ [i']
theorem Cand.length {next : Nat → List Nat} {S d s i t : Nat} {c : List Nat} (h : Cand next S d s i t c) : c.length = d + 1 := by
  obtain ⟨_, _, _, _, _, _, rfl⟩ := h
  rw [List.length_append, pathOf_len]
  rfl
structure PInv (next : Nat → List Nat) (S : Nat) (out : List (Option (List Nat))) (d s i : Nat) : Prop where
  len : out.length = S
  near : ∀ t, t < S → ∀ n : Nat, ((walk next S).at_ t).far = (n : Int) → n ≤ d → out.getD t none = some (pathOf (walk next S) n t)
  none_ : ∀ t, t < S → ((walk next S).at_ t).far < 0 ∨ (d : Int) + 1 < ((walk next S).at_ t).far → out.getD t none = none
  part : ∀ t, t < S → ((walk next S).at_ t).far = (d : Int) + 1 → (out.getD t none = none ∧ ∀ c, ¬ Cand next S d s i t c) ∨ ∃ p, out.getD t none = some p ∧ Cand next S d s i t p ∧ ∀ c, Cand next S d s i t c → c = p ∨ bef p c = true
theorem getD_setO (l : List (Option (List Nat))) (n : Nat) (v : Option (List Nat)) (j : Nat) : (l.set n v).getD j none = if j = n ∧ n < l.length then v else l.getD j none := by
  rw [List.getD_eq_getElem?_getD, List.getD_eq_getElem?_getD, List.getElem?_set]
  by_cases h : n = j
  · subst h
    by_cases h2 : n < l.length
    · simp [h2]
    · simp [h2]
  · rw [if_neg h, if_neg (fun e => h e.1.symm)]
theorem PInv.start (next : Nat → List Nat) (S : Nat) (hS : 1 ≤ S) (hn : ∀ f s, f < S → s ∈ next f → s < S) : PInv next S ((List.replicate S none).set 0 (some [])) 0 0 0 := by
  have hw := walk_far next S hS hn
  have hg : ∀ j, ((List.replicate S (none : Option (List Nat))).set 0 (some [])).getD j none = if j = 0 then some [] else none := fun j => by
    rw [getD_setO]
    by_cases e : j = 0
    · rw [if_pos ⟨e, by simp; omega⟩, if_pos e]
    · rw [if_neg (fun h => e h.1), if_neg e, List.getD_eq_getElem?_getD, List.getElem?_replicate]
      split <;> rfl
  refine ⟨by simp, fun t ht n h0 hn0 => ?_, fun t ht h0 => ?_, fun t ht h0 => .inl ⟨?_, fun c hc => ?_⟩⟩
  · obtain rfl : n = 0 := by omega
    have := hw.one t ht (by simpa using h0)
    subst this
    rw [hg, if_pos rfl]
    rfl
  · rw [hg, if_neg (fun e => by subst e; rw [hw.zero] at h0; omega)]
  · rw [hg, if_neg (fun e => by subst e; rw [hw.zero] at h0; omega)]
  · obtain ⟨s', i', h, _⟩ := hc
    omega
/-- a way that is none of this level's next ones is passed by -/
theorem PInv.pass {next : Nat → List Nat} {S : Nat} {out : List (Option (List Nat))} {d s i t : Nat} (h : PInv next S out d s i) (hi : (next s)[i]? = some t) (hf : ¬ ((walk next S).at_ t).far = (d : Int) + 1) : PInv next S out d s (i + 1) := by
  refine ⟨h.len, h.near, h.none_, fun u hu hfu => ?_⟩
  have key : ∀ c, Cand next S d s (i + 1) u c → Cand next S d s i u c := fun c ⟨s', i', h1, h2, h3, h4, h5⟩ => by
    refine ⟨s', i', ?_, h2, h3, h4, h5⟩
    rcases h1 with h1 | ⟨rfl, h1⟩
    · exact .inl h1
    · by_cases e : i' = i
      · subst e
        rw [hi] at h4
        cases h4
        exact absurd hfu hf
      · exact .inr ⟨rfl, by omega⟩
  have mk : ∀ c, Cand next S d s i u c → Cand next S d s (i + 1) u c := fun c ⟨s', i', h1, h2, h3, h4, h5⟩ => ⟨s', i', by omega, h2, h3, h4, h5⟩
  rcases h.part u hu hfu with ⟨h1, h2⟩ | ⟨p, h1, h2, h3⟩
  · exact .inl ⟨h1, fun c hc => h2 c (key c hc)⟩
  · exact .inr ⟨p, h1, mk p h2, fun c hc => h3 c (key c hc)⟩
theorem cand_new {next : Nat → List Nat} {S d s i t u : Nat} {c : List Nat} (hi : (next s)[i]? = some t) (hc : Cand next S d s (i + 1) u c) : Cand next S d s i u c ∨ (u = t ∧ c = pathOf (walk next S) d s ++ [i]) := by
  obtain ⟨s', i', h1, h2, h3, h4, h5⟩ := hc
  rcases h1 with h1 | ⟨rfl, h1⟩
  · exact .inl ⟨s', i', .inl h1, h2, h3, h4, h5⟩
  · by_cases e : i' = i
    · subst e
      rw [hi] at h4
      cases h4
      exact .inr ⟨rfl, h5⟩
    · exact .inl ⟨s', i', .inr ⟨rfl, by omega⟩, h2, h3, h4, h5⟩
theorem cand_old {next : Nat → List Nat} {S d s i u : Nat} {c : List Nat} (hc : Cand next S d s i u c) : Cand next S d s (i + 1) u c := by
  obtain ⟨s', i', h1, h2, h3, h4, h5⟩ := hc
  exact ⟨s', i', by omega, h2, h3, h4, h5⟩
/-- a way that is the first one, or is ahead of the one that was told -/
theorem PInv.put {next : Nat → List Nat} {S : Nat} {out : List (Option (List Nat))} {d s i t : Nat} (h : PInv next S out d s i) (hs : s < S) (hd : ((walk next S).at_ s).far = (d : Int)) (ht : t < S) (hi : (next s)[i]? = some t) (hf : ((walk next S).at_ t).far = (d : Int) + 1)
    (hx : out.getD t none = none ∨ ∃ x, out.getD t none = some x ∧ bef (pathOf (walk next S) d s ++ [i]) x = true) : PInv next S (out.set t (some (pathOf (walk next S) d s ++ [i]))) d s (i + 1) := by
  have hg : ∀ j, (out.set t (some (pathOf (walk next S) d s ++ [i]))).getD j none = if j = t then some (pathOf (walk next S) d s ++ [i]) else out.getD j none := fun j => by
    rw [getD_setO]
    have := h.len
    by_cases e : j = t
    · rw [if_pos ⟨e, by omega⟩, if_pos e]
    · rw [if_neg (fun k => e k.1), if_neg e]
  refine ⟨by simp [h.len], fun u hu n hn hnd => ?_, fun u hu h0 => ?_, fun u hu hfu => ?_⟩
  · rw [hg, if_neg (fun e => by subst e; omega)]
    exact h.near u hu n hn hnd
  · rw [hg, if_neg (fun e => by subst e; omega)]
    exact h.none_ u hu h0
  · by_cases e : u = t
    · subst e
      refine .inr ⟨pathOf (walk next S) d s ++ [i], by rw [hg, if_pos rfl], ⟨s, i, .inr ⟨rfl, by omega⟩, hs, hd, hi, rfl⟩, fun c hc => ?_⟩
      rcases cand_new hi hc with hc | ⟨_, rfl⟩
      · rcases h.part u hu hfu with ⟨h1, h2⟩ | ⟨p, h1, h2, h3⟩
        · exact absurd hc (h2 c)
        · rcases hx with hx | ⟨x, hx, hb⟩
          · rw [hx] at h1; cases h1
          · rw [hx] at h1
            cases h1
            rcases h3 c hc with rfl | h4
            · exact .inr hb
            · exact .inr (bef_trans _ _ _ hb h4)
      · exact .inl rfl
    · rw [hg, if_neg e]
      rcases h.part u hu hfu with ⟨h1, h2⟩ | ⟨p, h1, h2, h3⟩
      · exact .inl ⟨h1, fun c hc => by
          rcases cand_new hi hc with hc | ⟨e2, _⟩
          · exact h2 c hc
          · exact e e2⟩
      · exact .inr ⟨p, h1, cand_old h2, fun c hc => by
          rcases cand_new hi hc with hc | ⟨e2, _⟩
          · exact h3 c hc
          · exact absurd e2 e⟩
/-- a way that is not ahead of the one that was told -/
theorem PInv.keep {next : Nat → List Nat} {S : Nat} {out : List (Option (List Nat))} {d s i t : Nat} {x : List Nat} (h : PInv next S out d s i) (hi : (next s)[i]? = some t) (hx : out.getD t none = some x) (hb : bef (pathOf (walk next S) d s ++ [i]) x = false) : PInv next S out d s (i + 1) := by
  refine ⟨h.len, h.near, h.none_, fun u hu hfu => ?_⟩
  by_cases e : u = t
  · subst e
    rcases h.part u hu hfu with ⟨h1, h2⟩ | ⟨p, h1, h2, h3⟩
    · rw [hx] at h1; cases h1
    · rw [hx] at h1
      cases h1
      refine .inr ⟨x, hx, cand_old h2, fun c hc => ?_⟩
      rcases cand_new hi hc with hc | ⟨_, rfl⟩
      · exact h3 c hc
      · rcases bef_tri (pathOf (walk next S) d s ++ [i]) x (by rw [h2.length, List.length_append, pathOf_len]; rfl) with h4 | h4 | h4
        · exact .inl h4
        · rw [hb] at h4; cases h4
        · exact .inr h4
  · rcases h.part u hu hfu with ⟨h1, h2⟩ | ⟨p, h1, h2, h3⟩
    · exact .inl ⟨h1, fun c hc => by
        rcases cand_new hi hc with hc | ⟨e2, _⟩
        · exact h2 c hc
        · exact e e2⟩
    · exact .inr ⟨p, h1, cand_old h2, fun c hc => by
        rcases cand_new hi hc with hc | ⟨e2, _⟩
        · exact h3 c hc
        · exact absurd e2 e⟩
/-- the next state -/
theorem PInv.next {next : Nat → List Nat} {S : Nat} {out : List (Option (List Nat))} {d s i : Nat} (h : PInv next S out d s i) (hi : ((walk next S).at_ s).far = (d : Int) → (next s).length ≤ i) : PInv next S out d (s + 1) 0 := by
  have key : ∀ u c, Cand next S d (s + 1) 0 u c → Cand next S d s i u c := fun u c ⟨s', i', h1, h2, h3, h4, h5⟩ => by
    refine ⟨s', i', ?_, h2, h3, h4, h5⟩
    by_cases e : s' = s
    · subst e
      have := (List.getElem?_eq_some_iff.1 h4).1
      exact .inr ⟨rfl, by have := hi h3; omega⟩
    · exact .inl (by omega)
  have mk : ∀ u c, Cand next S d s i u c → Cand next S d (s + 1) 0 u c := fun u c ⟨s', i', h1, h2, h3, h4, h5⟩ => ⟨s', i', .inl (by omega), h2, h3, h4, h5⟩
  refine ⟨h.len, h.near, h.none_, fun u hu hfu => ?_⟩
  rcases h.part u hu hfu with ⟨h1, h2⟩ | ⟨p, h1, h2, h3⟩
  · exact .inl ⟨h1, fun c hc => h2 c (key u c hc)⟩
  · exact .inr ⟨p, h1, mk u p h2, fun c hc => h3 c (key u c hc)⟩
/-- the next level -/
theorem PInv.deeper {next : Nat → List Nat} {S : Nat} {out : List (Option (List Nat))} {d : Nat} (hS : 1 ≤ S) (hn : ∀ f s, f < S → s ∈ next f → s < S) (h : PInv next S out d S 0) : PInv next S out (d + 1) 0 0 := by
  have hw := walk_far next S hS hn
  refine ⟨h.len, fun t ht n hf hnd => ?_, fun t ht h0 => h.none_ t ht (by omega), fun t ht hf => .inl ⟨h.none_ t ht (by omega), fun c ⟨s', i', h1, _⟩ => by omega⟩⟩
  by_cases e : n ≤ d
  · exact h.near t ht n hf e
  · obtain rfl : n = d + 1 := by omega
    have hf1 : ((walk next S).at_ t).far = (d : Int) + 1 := by rw [hf]; simp
    obtain ⟨p1, p2, p3⟩ := hw.par t ht (by omega)
    have hP : Cand next S d S 0 t (pathOf (walk next S) (d + 1) t) := ⟨_, _, .inl p1, p1, by omega, p3, rfl⟩
    rcases h.part t ht hf1 with ⟨_, h2⟩ | ⟨p, h1, h2, h3⟩
    · exact absurd hP (h2 _)
    · obtain ⟨s', i', _, s2, s3, s4, rfl⟩ := id h2
      have e1 := path_least next S hS hn d s' i' t s2 ht s3 hf1 s4
      rcases e1 with e1 | e1
      · rw [h1, e1]
      · rcases h3 _ hP with e2 | e2
        · rw [h1, e2]
        · rw [bef_asym _ _ e1] at e2
          cases e2
end Rf
end
section
namespace Rf
open Go.RowKit Go.Deep
theorem addr_add0 (g j : Nat) : (⟨g, 0, none⟩ : Addr).add j = ⟨g, j, none⟩ := by unfold Addr.add; split <;> simp_all
theorem asI_len (l : List Nat) : (asI l).length = l.length := by simp [asI]
theorem asI_at (l : List Nat) (k : Nat) (h : k < l.length) : (asI l)[k]? = some ((l[k] : Nat) : Int) := by simp [asI, h]
set_option maxHeartbeats 4000000 in
set_option maxRecDepth 100000 in
theorem before_any (p q : List Nat) (u v : Value) (w : World) (hu : Ints w u (asI p)) (hv : Ints w v (asI q)) (hl : p.length = q.length) (hn : p.length ≤ 1000000) :
    Calls Tryz.prog 25 #[u, v] w fun e w' => e = .returned (.bool (Rc.bef p q)) ∧ Below w.heap.size w w' := by
  have HU := hide hu
  have HV := hide hv
  obtain ⟨n, hnn⟩ : ∃ n, n = p.length := ⟨_, rfl⟩
  have HN := hide hnn
  have HQ : Hid (n = q.length) := hnn.trans hl
  obtain ⟨ua, uc, hue⟩ := hu.slice
  obtain ⟨va, vc, hve⟩ := hv.slice
  rw [asI_len, ← hnn] at hue
  rw [asI_len, ← hl, ← hnn] at hve
  subst hue
  subst hve
  rw [← hnn] at hn
  clear hu hv hl hnn
  go_enter Tryz.func25, Tryz.ntmps25
  go_wp2_with fail
  go_loopw [8] (fun i wr => ∃ k : Nat, k ≤ n ∧ i = .int .i64 (k : Int) ∧ Hid (Rc.bef (p.drop k) (q.drop k) = Rc.bef p q) ∧ Hid (Below w.heap.size w wr)) (fun i _ => n - (intOf i).toNat)
  case atStart => exact ⟨0, Nat.zero_le _, rfl, rfl, Below.refl _ _⟩
  case round =>
    obtain ⟨k, hk, rfl, HBF, HB⟩ := hrel
    by_cases hlt : k < n
    · have hkp : k < p.length := by rw [← HN.out]; exact hlt
      have hkq : k < q.length := by rw [← HQ.out]; exact hlt
      obtain ⟨g1, o1, hua, c1⟩ := (HU.out.below HB.out).cell k _ (asI_at p k hkp)
      obtain ⟨g2, o2, hva, c2⟩ := (HV.out.below HB.out).cell k _ (asI_at q k hkq)
      subst hua
      subst hva
      have HST : Hid ((if p[k] = q[k] then Rc.bef (p.drop (k + 1)) (q.drop (k + 1)) else Decidable.decide (p[k] < q[k])) = Rc.bef p q) := by
        show _ = _
        rw [← HBF.out, List.drop_eq_getElem_cons hkp, List.drop_eq_getElem_cons hkq]
        rfl
      have hki : (k : Int) < (n : Int) := by omega
      generalize p[k] = x at *
      generalize q[k] = y at *
      clear hkp hkq
      by_cases hxy : x = y
      · subst hxy
        have HNX : Hid (Rc.bef (p.drop (k + 1)) (q.drop (k + 1)) = Rc.bef p q) := by have h := HST.out; rw [if_pos rfl] at h; exact h
        go_wp2_with fail
        go_quiet (fail)
        go_wp2_with fail
        go_roundw
        case rel => exact ⟨k + 1, by omega, by go_num, HNX.out, HB.out.trans ⟨rfl, rfl, rfl, Nat.le_refl _, fun _ _ => rfl⟩⟩
        case measure => simp [intOf]; omega
      · have HRE : Hid (Decidable.decide (x < y) = Rc.bef p q) := by have h := HST.out; rw [if_neg hxy] at h; exact h
        have hb1 : ((x : Int) != (y : Int)) = true := by simp; omega
        have hb2 : ¬ (x : Int) = (y : Int) := by omega
        go_wp2_with fail
        go_quiet (fail)
        go_wp2_with fail
        go_quiet (fail)
        go_wp2_with fail
        go_ret
        exact ⟨by rw [← HRE.out]; simp, (HB.out.trans ⟨rfl, rfl, rfl, Nat.le_refl _, fun _ _ => rfl⟩).trans ⟨rfl, rfl, rfl, Nat.le_refl _, fun _ _ => rfl⟩⟩
    · obtain rfl : k = n := by omega
      have HRE : Hid (Rc.bef p q = false) := by
        have h := HBF.out
        rw [List.drop_of_length_le (by rw [← HN.out]; exact Nat.le_refl _)] at h
        show _ = _
        rw [← h]
        rfl
      have hki : ¬ (k : Int) < (k : Int) := by omega
      go_wp2_with fail
      go_ret
      exact ⟨by rw [HRE.out]; rfl, HB.out⟩
theorem eqNilN_none (w : World) (n c : Nat) : (binOp BinOp.eql 26 (.slice none n c) (.slice none 0 0)).run Tryz.prog w = .ok (.bool true) w := by kernel_rfl
theorem eqNilN_some (w : World) (a : Addr) (n c : Nat) : (binOp BinOp.eql 26 (.slice (some a) n c) (.slice none 0 0)).run Tryz.prog w = .ok (.bool false) w := by kernel_rfl
/-- numbers are appended -/
theorem app_ints {W : World} (base : Nat) (ty : TypeId) (v : Value) (ps gs : List Nat) (hown : W.ownsRow base 3 1 v ps.length (ps.map intV)) (a c : Nat) (hc : ∀ (k x : Nat), gs[k]? = some x → W.cell? ⟨a, k, none⟩ = some (.int .i64 (x : Int))) (hb : base ≤ W.heap.size) (hx : ps.length ≤ 1000000) (hy : gs.length ≤ 1000000) :
    ∃ v' W', (Builtin.append_ #[26, 26] ty #[v, .slice (some ⟨a, 0, none⟩) gs.length c]).run Tryz.prog W = .ok v' W' ∧ W'.ownsRow base 3 1 v' (ps.length + gs.length) ((ps ++ gs).map intV) ∧ W.grownBy W' v.ownBlock := by
  obtain ⟨i0, hi0, hz0, hz1, hz2⟩ := info_parts Tryz.infoInt
  by_cases h0 : gs = []
  · subst h0
    exact ⟨v, W, append_zero base _ ty _ i0 1 Tryz.underlying26 hi0 v _ _ hown (some ⟨a, 0, none⟩) c, by simpa using hown, ⟨rfl, rfl, rfl, Nat.le_refl _, fun _ _ _ => rfl⟩⟩
  · obtain ⟨v', W', h1, h2, h3, _⟩ := run_append_own_at (P := Tryz.prog) W base 26 ty 3 i0 _ 1 8 Tryz.underlying26 hi0 hz0 hz1 hz2 rfl (by decide) v ps.length (ps.map intV) hown ⟨a, 0, none⟩ gs.length c (gs.map intV) (by simp) (fun j u hu => by
        rw [List.getElem?_map] at hu
        cases hj : gs[j]? with
        | none => rw [hj] at hu; cases hu
        | some y =>
          rw [hj] at hu
          simp only [Option.map_some, Option.some.injEq] at hu
          subst hu
          have := hc j y hj
          rw [addr_add0]
          exact this) (fun u hu => by
        obtain ⟨b, _, rfl⟩ := List.mem_map.1 hu
        rfl) (by unfold maxLen; omega) (by omega) hb
    exact ⟨v', W', h1, by rw [List.map_append]; exact h2, h3⟩
/-- of each state nothing, or a row of small numbers -/
structure OutAt (W : World) (gO : Nat) (us : List Value) (out : List (Option (List Nat))) : Prop where
  row : RowIs W gO 26 us
  len : us.length = out.length
  no : ∀ t, t < out.length → out.getD t none = none → us[t]? = some (.slice none 0 0)
  yes : ∀ t p, out.getD t none = some p → ∃ a c, us[t]? = some (.slice (some ⟨a, 0, none⟩) p.length c) ∧ gO < a ∧ p.length ≤ c ∧ ∀ (k x : Nat), p[k]? = some x → x ≤ 64 ∧ W.cell? ⟨a, k, none⟩ = some (.int .i64 (x : Int))
theorem OutAt.below {W W' : World} {gO : Nat} {us : List Value} {out : List (Option (List Nat))} (h : OutAt W gO us out) (hb : Below W.heap.size W W') : OutAt W' gO us out :=
  ⟨h.row.below hb, h.len, h.no, fun t p hp => by
    obtain ⟨a, c, h1, h2, h3, h4⟩ := h.yes t p hp
    exact ⟨a, c, h1, h2, h3, fun k x hx => ⟨(h4 k x hx).1, (hb.cell (World.block_lt_of_cell? _ _ (h4 k x hx).2)).trans (h4 k x hx).2⟩⟩⟩
theorem set_elsewhere (W : World) (g i a k : Nat) (v : Value) (hne : g ≠ a) : (W.setCell ⟨g, i, none⟩ v).cell? ⟨a, k, none⟩ = W.cell? ⟨a, k, none⟩ := by
  unfold World.cell?
  have e : (W.setCell ⟨g, i, none⟩ v).heap[a]? = W.heap[a]? := by simp [World.setCell, Array.getElem?_modify, hne]
  rw [e]
theorem OutAt.put {W : World} {gO : Nat} {us : List Value} {out : List (Option (List Nat))} (h : OutAt W gO us out) (t : Nat) (ht : t < out.length) (p : List Nat) (a c : Nat) (ha : gO < a) (hc : p.length ≤ c) (hp : ∀ (k x : Nat), p[k]? = some x → x ≤ 64 ∧ W.cell? ⟨a, k, none⟩ = some (.int .i64 (x : Int))) :
    OutAt (W.setCell ⟨gO, t, none⟩ (.slice (some ⟨a, 0, none⟩) p.length c)) gO (us.set t (.slice (some ⟨a, 0, none⟩) p.length c)) (out.set t (some p)) := by
  have htu : t < us.length := by rw [h.len]; exact ht
  refine ⟨RowIs.set h.row t _, by simp [h.len], fun s hs hn => ?_, fun s q hq => ?_⟩
  · rw [getD_setO] at hn
    by_cases e : s = t
    · rw [if_pos ⟨e, ht⟩] at hn; cases hn
    · rw [if_neg (fun k => e k.1)] at hn
      rw [List.getElem?_set_ne (fun k => e k.symm)]
      exact h.no s (by simpa using hs) hn
  · rw [getD_setO] at hq
    by_cases e : s = t
    · subst e
      rw [if_pos ⟨rfl, ht⟩] at hq
      cases hq
      refine ⟨a, c, by rw [List.getElem?_set_self htu], ha, hc, fun k x hx => ⟨(hp k x hx).1, ?_⟩⟩
      rw [set_elsewhere _ _ _ _ _ _ (by omega)]
      exact (hp k x hx).2
    · rw [if_neg (fun k => e k.1)] at hq
      obtain ⟨a', c', h1, h2, h3, h4⟩ := h.yes s q hq
      refine ⟨a', c', by rw [List.getElem?_set_ne (fun k => e k.symm)]; exact h1, h2, h3, fun k x hx => ⟨(h4 k x hx).1, ?_⟩⟩
      rw [set_elsewhere _ _ _ _ _ _ (by omega)]
      exact (h4 k x hx).2
theorem ints_row2 {W : World} {a c : Nat} {p : List Nat} (hc : p.length ≤ c) (h : ∀ (k x : Nat), p[k]? = some x → x ≤ 64 ∧ W.cell? ⟨a, k, none⟩ = some (.int .i64 (x : Int))) : Ints W (.slice (some ⟨a, 0, none⟩) p.length c) (asI p) := by
  refine .inr ⟨a, 0, c, by rw [asI_len], by rw [asI_len]; exact hc, fun k y hy => ?_⟩
  unfold asI at hy
  rw [List.getElem?_map] at hy
  cases hk : p[k]? with
  | none => rw [hk] at hy; cases hy
  | some x =>
    rw [hk] at hy
    simp only [Option.map_some, Option.some.injEq] at hy
    subst hy
    obtain ⟨h1, h2⟩ := h k x hk
    exact ⟨by rw [Nat.zero_add]; exact h2, by unfold I64; omega⟩
/-- what the document's Paths comes to -/
def PathsD (w : World) (S : Nat) (next : Nat → List Nat) (e : Ending) (w' : World) : Prop := ∃ (g : Nat) (us : List Value) (out : List (Option (List Nat))), e = .returned (.slice (some ⟨g, 0, none⟩) S S) ∧ OutAt w' g us out ∧ PInv next S out S 0 0 ∧ Below w.heap.size w w'
end Rf
end
end Go.Proofs.YtkfikffnljnepaaGreatDoor
