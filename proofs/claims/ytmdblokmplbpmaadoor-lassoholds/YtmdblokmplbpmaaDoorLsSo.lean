/-
  The walks of package lasso's next, not, anytime, and of what they make.
-/
import Derived.Test.YtmdblokmplbpmaaDoorLsTimes
namespace Go.Proofs.YtmdblokmplbpmaaDoor
namespace Ls
open Go.RowKit
set_option maxHeartbeats 2000000 in
set_option maxRecDepth 100000 in
theorem next_any (n r t : Nat) (hn : n ≤ 60) (ht : t < n) (a : Option Addr) (c : Nat) (w : World) :
    Calls Tryd.prog 45 #[.agg #[.slice a n c, .int .i64 (r : Int)], .int .i64 (t : Int)] w fun e w' => e = .returned (.int .i64 (next n r t : Int)) ∧ Below w.heap.size w w' := by
  by_cases h : t + 1 < n
  · have HN : Hid (next n r t = t + 1) := by show _ = _; unfold next; rw [if_pos h]
    have hi : (t : Int) + 1 < (n : Int) := by omega
    go_enter Tryd.func45, Tryd.ntmps45
    go_wp2_with fail
    go_ret
    exact ⟨by rw [HN.out]; rfl, newB _ _⟩
  · have HN : Hid (next n r t = r) := by show _ = _; unfold next; rw [if_neg h]
    have hi : ¬ (t : Int) + 1 < (n : Int) := by omega
    go_enter Tryd.func45, Tryd.ntmps45
    go_wp2_with fail
    go_ret
    exact ⟨by rw [HN.out]; rfl, newB _ _⟩
theorem anytime_so (ok : Nat → Prop) (n : Nat) (w : World) : IsSo ok w (.func (.func 47) #[] #[]) n (fun _ => true) := by
  refine ⟨_, _, rfl, .inl rfl, fun _ _ => by kernel_rfl, fun t W _ _ => ?_⟩
  show Calls Tryd.prog 47 #[.int .i64 (t : Int)] W _
  go_enter Tryd.func47, Tryd.ntmps47
  go_wp2_with fail
  go_ret
  exact ⟨rfl, Below.refl _ _⟩
set_option maxHeartbeats 2000000 in
set_option maxRecDepth 100000 in
theorem not1_any (ok : Nat → Prop) (n t : Nat) (ht : t < n) (p : Nat → Bool) (b : Nat) (f : Value) (w : World) (c0 : w.cell? ⟨b, 0, none⟩ = some f) (hf : IsSo ok w f n p) :
    Calls Tryd.prog 58 #[.int .i64 (t : Int), .pointer (some ⟨b, 0, none⟩)] w fun e w' => e = .returned (.bool (!p t)) ∧ Below w.heap.size w w' := by
  obtain ⟨K, cs, rfl, hcs, hent, hcall⟩ := hf
  have hent' : ∀ (args : Array Value) (w : World), (callFunc K args).run Tryd.prog w = .ok (.enter K args) w := hent
  have HC := hide (hcall t w (Stay.refl _ _) ht)
  clear hcall hent
  generalize p t = y at *
  rcases hcs with rfl | ⟨c, rfl⟩ | ⟨c, d, rfl⟩
  all_goals
    go_enter Tryd.func58, Tryd.ntmps58
    go_wp2_with fail
    refine HC.out.mono ?_
    rintro e w1 ⟨rfl, hb1⟩
    have HB1 := hide hb1
    clear hb1 HC
    go_wp2_with fail
    go_ret
    exact ⟨rfl, HB1.out⟩
set_option maxHeartbeats 2000000 in
set_option maxRecDepth 100000 in
theorem not_any (ok : Nat → Prop) (n : Nat) (p : Nat → Bool) (f : Value) (w : World) (hf : IsSo ok w f n p) (hok : ∀ b, w.heap.size ≤ b → ok b) :
    Calls Tryd.prog 41 #[f] w fun e w' => ∃ v, e = .returned v ∧ IsSo ok w' v n (fun t => !p t) ∧ Below w.heap.size w w' := by
  have hmf : ∀ (fn : Fn) (first cap : Array Value) (w : World), (Instr.makeFunc fn first cap).run Tryd.prog w = .ok (.func fn first cap) w := fun _ _ _ _ => rfl
  have HF := hide hf
  obtain ⟨K, cs, rfl, hcs, _, _⟩ := hf
  obtain ⟨wA, hwA⟩ : ∃ wA, wA = w.alloc (.cells #[.func (.func K) #[] cs] 70) := ⟨_, rfl⟩
  have HBA : Hid (Below w.heap.size w wA) := by rw [hwA]; exact newB _ _
  have HC0 : Hid (wA.cell? ⟨w.heap.size, 0, none⟩ = some (.func (.func K) #[] cs)) := by rw [hwA]; show _ = _; rw [Lib.cell_of_heap (heap_alloc_new w _)]; rfl
  have HR : Hid (IsSo ok wA (.func (.func 58) #[] #[.pointer (some ⟨w.heap.size, 0, none⟩)]) n (fun t => !p t)) := ⟨_, _, rfl, .inr (.inl ⟨_, rfl⟩), fun _ _ => by kernel_rfl, fun t W hW ht => not1_any ok n t ht p w.heap.size _ W (hW.cell (hok _ (Nat.le_refl _)) HC0.out) ((HF.out.below HBA.out).stay hW)⟩
  have HWA := hide hwA
  clear hwA
  rcases hcs with rfl | ⟨c, rfl⟩ | ⟨c, d, rfl⟩
  all_goals
    go_enter Tryd.func41, Tryd.ntmps41
    go_wp2_with fail
    rw [← HWA.out]
    go_ret
    exact ⟨_, rfl, HR.out, HBA.out⟩
/-- a row of bools, told by a function -/
def BRow (w : World) (g n : Nat) (f : Nat → Bool) : Prop := RowIs w g 4 ((List.range n).map fun i => Value.bool (f i))
theorem BRow.below {w w' : World} {g n : Nat} {f : Nat → Bool} (h : BRow w g n f) (hb : Below w.heap.size w w') : BRow w' g n f := RowIs.below h hb
theorem BRow.cell {w : World} {g n : Nat} {f : Nat → Bool} (h : BRow w g n f) (i : Nat) (hi : i < n) : w.cell? ⟨g, i, none⟩ = some (.bool (f i)) := RowIs.cell h i _ (by simp [hi])
theorem BRow.congr {w : World} {g n : Nat} {f f' : Nat → Bool} (h : BRow w g n f) (hf : ∀ i, i < n → f i = f' i) : BRow w g n f' := by
  have : ((List.range n).map fun i => Value.bool (f i)) = ((List.range n).map fun i => Value.bool (f' i)) := List.map_congr_left fun i hi => by rw [hf i (List.mem_range.1 hi)]
  unfold BRow at *
  rw [← this]; exact h
theorem BRow.set {w : World} {g n : Nat} {f : Nat → Bool} (h : BRow w g n f) (i : Nat) (v : Bool) : BRow (w.setCell ⟨g, i, none⟩ (.bool v)) g n (fun j => if j = i then v else f j) := by
  have := RowIs.set h i (.bool v)
  unfold BRow
  have e : ((List.range n).map fun i => Value.bool (f i)).set i (.bool v) = (List.range n).map fun j => Value.bool (if j = i then v else f j) := by
    apply List.ext_getElem
    · simp
    · intro j h1 h2
      rw [List.getElem_set]
      by_cases hj : i = j
      · subst hj; simp
      · rw [if_neg hj]
        have : ¬ j = i := fun e => hj e.symm
        simp [this]
  rw [← e]; exact this
set_option maxHeartbeats 2000000 in
set_option maxRecDepth 100000 in
theorem until1_any (n t : Nat) (ht : t < n) (f : Nat → Bool) (b g : Nat) (w : World) (c0 : w.cell? ⟨b, 0, none⟩ = some (.slice (some ⟨g, 0, none⟩) n n)) (hr : BRow w g n f) :
    Calls Tryd.prog 59 #[.int .i64 (t : Int), .pointer (some ⟨b, 0, none⟩)] w fun e w' => e = .returned (.bool (f t)) ∧ Below w.heap.size w w' := by
  have c1 := hr.cell t ht
  have hti : (t : Int) < (n : Int) := by omega
  generalize f t = y at *
  clear hr
  go_enter Tryd.func59, Tryd.ntmps59
  go_wp2_with fail
  go_ret
  exact ⟨rfl, Below.refl _ _⟩
end Ls
end Go.Proofs.YtmdblokmplbpmaaDoor
