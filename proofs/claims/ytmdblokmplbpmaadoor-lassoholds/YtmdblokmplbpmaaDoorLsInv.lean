/-
  A law for regions that draw their order: what holds whichever operations have come up is shown operation by operation, not order by order.
-/
import Derived.Test.YtmdblokmplbpmaaDoorLsBase
namespace Go.Proofs.YtmdblokmplbpmaaDoor
namespace Ls
open Go.RowKit
theorem getD_set (l : Array Bool) (i j : Nat) (d : Bool) (hi : i < l.size) : (l.setIfInBounds i true).getD j d = if j = i then true else l.getD j d := by
  rw [Array.getD_eq_getD_getElem?, Array.getD_eq_getD_getElem?, Array.getElem?_setIfInBounds]
  by_cases h : i = j
  · subst h; simp [hi]
  · rw [if_neg h, if_neg (fun e => h e.symm)]
section
variable {P : Program} {ops : Array Oper} {Q : Exit → Act → World → Prop} {md : Region.Mode} {S : World → Prop}
/-- those that have not come up -/
def still (n : Nat) (l : Array Bool) : List Nat := (List.range n).filter fun j => !l.getD j true
theorem still_less (n : Nat) (l : Array Bool) (i : Nat) (hn : i < n) (hi : i < l.size) (h : l.getD i true = false) : (still n (l.setIfInBounds i true)).length < (still n l).length := by
  have e : still n (l.setIfInBounds i true) = (still n l).filter fun j => decide (j ≠ i) := by
    unfold still
    rw [List.filter_filter]
    apply List.filter_congr
    intro j _
    rw [getD_set l i j true hi]
    by_cases hj : j = i
    · simp [hj]
    · simp [hj]
  rw [e]
  refine List.length_filter_lt_length_iff_exists.2 ⟨i, ?_, by simp⟩
  unfold still
  exact List.mem_filter.2 ⟨List.mem_range.2 hn, by rw [h]; rfl⟩
/-- where edges lead back alone, and nothing may come up, all have come up -/
theorem all_listed (hfw : ∀ (j : Nat) o, ops[j]? = some o → ∀ e ∈ o.after, e.on < j) {l : Array Bool} (hl : l.size = ops.size) (hr : Region.ready md ops l = []) : ∀ j, j < ops.size → l.getD j false = true := by
  intro j
  induction j using Nat.strongRecOn with
  | ind j ih =>
    intro hj
    cases hc : l.getD j false with
    | true => rfl
    | false =>
      have hjl : j < l.size := by omega
      have ht : l.getD j true = false := by
        rw [Array.getD_eq_getD_getElem?, Array.getElem?_eq_getElem hjl] at hc ⊢
        exact hc
      have hm : j ∈ Region.ready md ops l := mem_ready.2 ⟨ht, ops[j], Array.getElem?_eq_getElem hj, fun e he _ => ih e.on (hfw j _ (Array.getElem?_eq_getElem hj) e he) (by have := hfw j _ (Array.getElem?_eq_getElem hj) e he; omega)⟩
      rw [hr] at hm
      cases hm
/-- WHAT HOLDS WHICHEVER HAVE COME UP -/
theorem wpAnyH_inv (I : Array Bool → Act → World → Prop) (hfw : ∀ (j : Nat) o, ops[j]? = some o → ∀ e ∈ o.after, e.on < j) (hz : ∀ l a w, I l a w → l.size = ops.size) (hS : ∀ l a w, I l a w → S w)
    (hd : ∀ l a w, I l a w → (∀ j, j < ops.size → l.getD j false = true) → Q .normal a w)
    (hs : ∀ l a w i, I l a w → i < ops.size → l.getD i false = false → i ∈ Region.ready md ops l → wpOp P ops Q i (fun a' w' => I (l.setIfInBounds i true) a' w') a w) :
    ∀ (fuel : Nat) (l : Array Bool) (a : Act) (w : World), (still ops.size l).length ≤ fuel → I l a w → wpAnyH P md ops Q S fuel l a w := by
  intro fuel
  induction fuel with
  | zero =>
    intro l a w hf hI
    have hr : Region.ready md ops l = [] := by
      cases hr : Region.ready md ops l with
      | nil => rfl
      | cons i r =>
        have hi : i ∈ Region.ready md ops l := by rw [hr]; simp
        obtain ⟨h1, o, ho, _⟩ := mem_ready.1 hi
        have : i ∈ still ops.size l := List.mem_filter.2 ⟨List.mem_range.2 (Array.getElem?_eq_some_iff.1 ho).1, by rw [h1]; rfl⟩
        rw [List.length_eq_zero_iff.1 (by omega : (still ops.size l).length = 0)] at this
        cases this
    exact ⟨hr, hd l a w hI (all_listed hfw (hz l a w hI) hr)⟩
  | succ fuel ih =>
    intro l a w hf hI
    refine ⟨fun hr => hd l a w hI (all_listed hfw (hz l a w hI) hr), fun i hi => ?_⟩
    obtain ⟨h1, o, ho, _⟩ := mem_ready.1 hi
    have hio := (Array.getElem?_eq_some_iff.1 ho).1
    have hil : i < l.size := by rw [hz l a w hI]; exact hio
    have h2 : l.getD i false = false := by
      rw [Array.getD_eq_getD_getElem?, Array.getElem?_eq_getElem hil] at h1 ⊢
      exact h1
    refine wpOp_mono (fun a' w' h => ⟨hS _ _ _ h, ih _ a' w' ?_ h⟩) (hs l a w i hI hio h2 hi)
    have := still_less ops.size l i hio hil h1
    omega
theorem fwd_of (h : ((List.range ops.size).all fun j => match ops[j]? with | some o => o.after.all fun e => decide (e.on < j) | none => true) = true) : ∀ (j : Nat) o, ops[j]? = some o → ∀ e ∈ o.after, e.on < j := by
  intro j o ho e he
  have := List.all_eq_true.1 h j (List.mem_range.2 (Array.getElem?_eq_some_iff.1 ho).1)
  rw [ho] at this
  have h2 := (Array.all_eq_true_iff_forall_mem.1 this) e he
  exact of_decide_eq_true h2
theorem ready_dep {l : Array Bool} {i : Nat} {o : Oper} (h : i ∈ Region.ready md ops l) (ho : ops[i]? = some o) {e : _} (he : e ∈ o.after) (hb : Region.binds md e = true) : l.getD e.on false = true := by
  obtain ⟨_, o', ho', hall⟩ := mem_ready.1 h
  rw [ho] at ho'
  cases ho'
  exact hall e he hb
end
end Ls
end Go.Proofs.YtmdblokmplbpmaaDoor
