/-
  A law for regions that draw their order: loads are taken first where what they read holds behind each operation till one operation comes up that waits for them (a store into what they read).
-/
import Derived.Test.YtdeijfkahhgojaaDoorBkBase
namespace Go.Proofs.YtdeijfkahhgojaaDoor
namespace Bk
open Go.RowKit
section
variable {P : Program} {md : Region.Mode} {ops : Array Oper} {Q : Exit → Act → World → Prop} {S : World → Prop} {st : Nat}
/-- in whatever order they come, S holds behind each, till number st comes up -/
def AnyU (P : Program) (md : Region.Mode) (ops : Array Oper) (Q : Exit → Act → World → Prop) (S : World → Prop) (st : Nat) : Nat → Array Bool → Act → World → Prop
  | 0, l, a, w => Region.ready md ops l = [] ∧ Q .normal a w
  | f + 1, l, a, w => (Region.ready md ops l = [] → Q .normal a w) ∧ ∀ i ∈ Region.ready md ops l, wpOp P ops Q i (fun a' w' => if i = st then wpAny P md ops Q f (l.setIfInBounds i true) a' w' else S w' ∧ AnyU P md ops Q S st f (l.setIfInBounds i true) a' w') a w
theorem AnyU.any : ∀ (f : Nat) (l : Array Bool) (a : Act) (w : World), AnyU P md ops Q S st f l a w → wpAny P md ops Q f l a w
  | 0, _, _, _, h => h
  | f + 1, l, a, w, h => ⟨h.1, fun i hi => wpOp_mono (fun a' w' h' => by
      by_cases e : i = st
      · rw [if_pos e] at h'; exact h'
      · rw [if_neg e] at h'; exact AnyU.any f _ a' w' h'.2) (h.2 i hi)⟩
theorem unlisted {l : Array Bool} {i : Nat} (h : i ∈ Region.ready md ops l) (h2 : l.getD i false = true) : False := by
  have h1 := (mem_ready.1 h).1
  rcases Nat.lt_or_ge i l.size with h' | h'
  · simp [h'] at h1 h2; rw [h1] at h2; cases h2
  · simp [Array.getElem?_eq_none h'] at h1
/-- what has come up had what it waits for behind it -/
def Closed (md : Region.Mode) (ops : Array Oper) (l : Array Bool) : Prop := ∀ j o, ops[j]? = some o → l.getD j false = true → ∀ e ∈ o.after, Region.binds md e = true → l.getD e.on false = true
def closedB (md : Region.Mode) (ops : Array Oper) (l : Array Bool) : Bool := (List.range ops.size).all fun j => match ops[j]? with
  | some o => !l.getD j false || o.after.all fun e => !Region.binds md e || l.getD e.on false
  | none => true
theorem closed_of {l : Array Bool} (h : closedB md ops l = true) : Closed md ops l := by
  intro j o ho hj e he hb
  have h1 := List.all_eq_true.1 h j (List.mem_range.2 (Array.getElem?_eq_some_iff.1 ho).1)
  rw [ho] at h1
  simp only [hj, Bool.not_true, Bool.false_or] at h1
  have h2 := (Array.all_eq_true_iff_forall_mem.1 h1) e he
  rw [hb] at h2
  simpa using h2
theorem getD_up (l : Array Bool) (i j : Nat) (h : l.getD j false = true) : (l.setIfInBounds i true).getD j false = true := by
  rw [Array.getD_eq_getD_getElem?] at h ⊢
  rw [Array.getElem?_setIfInBounds]
  split
  · rename_i hij
    subst hij
    split
    · rfl
    · rename_i hl
      rw [Array.getElem?_eq_none (by omega)] at h
      exact h
  · exact h
theorem Closed.next {l : Array Bool} (h : Closed md ops l) {i : Nat} (hi : i ∈ Region.ready md ops l) : Closed md ops (l.setIfInBounds i true) := by
  intro j o ho hj e he hb
  refine getD_up l i _ ?_
  by_cases hji : j = i
  · subst hji
    obtain ⟨_, o', ho', hall⟩ := mem_ready.1 hi
    rw [ho] at ho'
    cases ho'
    exact hall e he hb
  · refine h j o ho ?_ e he hb
    rw [getD_set_ne false (Ne.symm hji)] at hj
    exact hj
/-- it may be taken first -/
theorem AnyU.first {i : Nat} {oi : Oper} {v : Value} (hi : ops[i]? = some oi) (hsel : ∀ (j : Nat) (o : Oper) cs b, ops[j]? = some o → o.op ≠ .select cs b) (hQ : ∀ c a w, ¬ Q (.panic c) a w) (hne : i ≠ st) (hdep : ∀ l, Closed md ops l → st ∈ Region.ready md ops l → l.getD i false = true) :
    ∀ (f : Nat) (l : Array Bool) (a : Act) (w : World), Closed md ops l → (∀ j oj, ops[j]? = some oj → j ≠ i → l.getD j true = false → (∀ e ∈ oj.after, Region.binds md e = true → e.on ≠ i) → oi.apart ops oj = true) →
      i ∈ Region.ready md ops l → YieldsIf P ops S oi v a → S w → AnyU P md ops Q S st f (l.setIfInBounds i true) (a.put oi.dst v) w → AnyU P md ops Q S st (f + 1) l a w := by
  intro f
  induction f with
  | zero =>
    intro l a w _ _ hr hy hS H
    refine ⟨fun h => (by rw [h] at hr; cases hr), fun j hj => ?_⟩
    by_cases hji : j = i
    · subst hji
      exact hy.wpOp hi hS (by rw [if_neg hne]; exact ⟨hS, H⟩)
    · have := ready_mono hj hji
      rw [H.1] at this
      cases this
  | succ f ih =>
    intro l a w hcl hfree hr hy hS H
    refine ⟨fun h => (by rw [h] at hr; cases hr), fun j hj => ?_⟩
    by_cases hji : j = i
    · subst hji
      exact hy.wpOp hi hS (by rw [if_neg hne]; exact ⟨hS, H⟩)
    · have hjs : j ≠ st := fun e => by subst e; exact unlisted hr (hdep l hcl hj)
      have h1 := H.2 j (ready_mono hj hji)
      obtain ⟨hjun, oj, hoj, hall⟩ := mem_ready.1 hj
      have hnot : ∀ e ∈ oj.after, Region.binds md e = true → e.on ≠ i := fun e he hb heq => unlisted hr (heq ▸ hall e he hb)
      have h2 := wpOp_putIf hoj (hfree j oj hoj hji hjun hnot) (fun cs b => hsel i oi cs b hi) (fun cs b => hsel j oj cs b hoj) (fun c a w h => (hQ c _ _ h).elim) hy h1
      refine wpOp_mono (fun a' w' h3 => ?_) h2
      rw [if_neg hjs] at h3 ⊢
      refine ⟨h3.2.1, ih (l.setIfInBounds j true) a' w' (hcl.next hj) (fun k ok hk hki hun hno => hfree k ok hk hki ?_ hno) (ready_mono hr (Ne.symm hji)) h3.1 h3.2.1 ?_⟩
      · by_cases hjk : j = k
        · subst hjk; exact hjun
        · rw [getD_set_ne true hjk] at hun; exact hun
      · rw [Array.setIfInBounds_comm _ _ hji]
        exact h3.2.2
theorem takeU (i d : Nat) (v : Value) {oi : Oper} {f : Nat} {l : Array Bool} {tm : Array Value} {df : _} {w : World} (hi : ops[i]? = some oi) (hd : oi.dst = some d) (hs : Region.noSelect ops = true) (hf : Region.free md ops l i = true) (hr : (Region.ready md ops l).contains i = true) (hQ : ∀ c a w, ¬ Q (.panic c) a w) (hne : i ≠ st) (hcl : closedB md ops l = true) (hdep : ∀ l, Closed md ops l → st ∈ Region.ready md ops l → l.getD i false = true) (hS : S w) (hy : YieldsIf P ops S oi v ⟨tm, df⟩) (h : AnyU P md ops Q S st f (l.setIfInBounds i true) ⟨tm.setIfInBounds d v, df⟩ w) : AnyU P md ops Q S st (f + 1) l ⟨tm, df⟩ w := by
  refine AnyU.first hi (Region.noSelect_spec hs) hQ hne hdep f l _ w (closed_of hcl) (Region.free_spec hi hf) (by simpa using hr) hy hS ?_
  rw [hd]
  exact h
theorem readyU {rs : List Nat} {f : Nat} {l : Array Bool} {a : Act} {w : World} (hr : Region.ready md ops l = rs) (hne : rs ≠ []) (h : ∀ i ∈ rs, wpOp P ops Q i (fun a' w' => if i = st then wpAny P md ops Q f (l.setIfInBounds i true) a' w' else S w' ∧ AnyU P md ops Q S st f (l.setIfInBounds i true) a' w') a w) : AnyU P md ops Q S st (f + 1) l a w :=
  ⟨fun h0 => absurd (hr ▸ h0) hne, hr ▸ h⟩
theorem readyA {rs : List Nat} {f : Nat} {l : Array Bool} {a : Act} {w : World} (hr : Region.ready md ops l = rs) (hne : rs ≠ []) (h : ∀ i ∈ rs, wpOp P ops Q i (wpAny P md ops Q f (l.setIfInBounds i true)) a w) : wpAny P md ops Q (f + 1) l a w :=
  ⟨fun h0 => absurd (hr ▸ h0) hne, hr ▸ h⟩
/-- number st waits for number i: by its own edges -/
theorem waits {i : Nat} {o : Oper} (ho : ops[st]? = some o) (h : (o.after.any fun e => Region.binds md e && decide (e.on = i)) = true) : ∀ l, Closed md ops l → st ∈ Region.ready md ops l → l.getD i false = true := by
  intro l _ hl
  obtain ⟨_, o', ho', hall⟩ := mem_ready.1 hl
  rw [ho] at ho'
  cases ho'
  obtain ⟨k, hk, he⟩ := Array.any_eq_true.1 h
  simp only [Bool.and_eq_true, decide_eq_true_eq] at he
  have := hall _ (Array.getElem_mem hk) he.1
  rw [he.2] at this
  exact this
theorem waits2 {k i : Nat} {o : Oper} (hk : ∀ l, Closed md ops l → st ∈ Region.ready md ops l → l.getD k false = true) (ho : ops[k]? = some o) (h : (o.after.any fun e => Region.binds md e && decide (e.on = i)) = true) : ∀ l, Closed md ops l → st ∈ Region.ready md ops l → l.getD i false = true := by
  intro l hcl hl
  obtain ⟨n, hn, he⟩ := Array.any_eq_true.1 h
  simp only [Bool.and_eq_true, decide_eq_true_eq] at he
  have := hcl k o ho (hk l hcl hl) _ (Array.getElem_mem hn) he.1
  rw [he.2] at this
  exact this
end
end Bk
end Go.Proofs.YtdeijfkahhgojaaDoor
