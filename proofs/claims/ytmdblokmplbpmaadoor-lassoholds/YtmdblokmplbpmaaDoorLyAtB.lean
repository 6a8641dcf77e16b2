/-
  The walks of the closure in the document's At, and of what At does ahead of its kinds.
-/
import Derived.Test.YtmdblokmplbpmaaDoorLyFold
import Derived.Test.YtmdblokmplbpmaaDoorLyRows
import Derived.Test.YtmdblokmplbpmaaDoorLyForm
namespace Go.Proofs.YtmdblokmplbpmaaDoor
namespace Ls
open Go.RowKit
set_option maxHeartbeats 4000000 in
set_option maxRecDepth 100000 in
theorem foldw_any (r m i c1 c2 : Nat) (ra : Option Addr) (rc : Nat) (w : World) (hm : 0 < m) (hr : r + m ≤ 60) (hi : i ≤ 1000) (h1 : w.cell? ⟨c1, 0, none⟩ = some (.int .i64 (r : Int))) (h2 : w.cell? ⟨c2, 1, none⟩ = some (.slice ra m rc)) :
    Calls Tryd.prog 26 #[.int .i64 (i : Int), .pointer (some ⟨c1, 0, none⟩), .pointer (some ⟨c2, 0, none⟩)] w fun e w' => e = .returned (.int .i64 (fold (r + m) r i : Int)) ∧ Below w.heap.size w w' := by
  have HDN : Hid (∀ n, Below w.heap.size w (w.drewN n)) := fun n => ⟨rfl, rfl, rfl, Nat.le_refl _, fun _ _ => rfl⟩
  by_cases hlt : i < r + m
  · have hl : (i : Int) < (r : Int) + (m : Int) := by omega
    have HF : Hid ((fold (r + m) r i : Int) = (i : Int)) := by show _ = _; rw [fold_small hlt]
    go_enter Tryd.func26, Tryd.ntmps26
    go_wp2_with fail
    go_ret
    exact ⟨by rw [HF.out]; rfl, Below.refl _ _⟩
  · have hl : ¬ (i : Int) < (r : Int) + (m : Int) := by omega
    have HF : Hid ((fold (r + m) r i : Int) = (r : Int) + ((i : Int) - (r : Int)) % (m : Int)) := by
      show _ = _
      unfold fold
      rw [if_neg hlt, show r + m - r = m by omega, Int.natCast_add, Int.natCast_emod, Int.natCast_sub (by omega)]
    have h3 : (r : Int) ≤ (i : Int) := by omega
    have h4 : (0 : Int) < (m : Int) := by omega
    have h5 : (i : Int) ≤ 1000 := by omega
    have h6 : (r : Int) ≤ 60 := by omega
    have h7 : (m : Int) ≤ 60 := by omega
    have h8 : ¬ (m : Int) = 0 := by omega
    have h9 : ((m : Int) == 0) = false := by simp; omega
    have h10 : 0 ≤ ((i : Int) - (r : Int)) % (m : Int) := Int.emod_nonneg _ (by omega)
    have h11 : ((i : Int) - (r : Int)) % (m : Int) < (m : Int) := Int.emod_lt_of_pos _ (by omega)
    have h12 : 0 ≤ (i : Int) - (r : Int) := by omega
    go_enter Tryd.func26, Tryd.ntmps26
    go_wp2_with fail
    go_quiet (fail)
    go_wp2_with fail
    go_ret
    exact ⟨by rw [HF.out]; rfl, HDN.out _⟩
/-- a formula, at each time, in the document's own words -/
def RAtOK (x : Fm) : Prop := wf x = true → ∀ (A R : List (List (List UInt8))) (av rv v : Value) (w : World) (t : Nat), Rows w av A → Rows w rv R → 0 < R.length → A.length + R.length ≤ 60 → (∀ r, r ∈ A ++ R → ¬ [] ∈ r) → IsF (fun _ => True) w x v → t < A.length + R.length →
  Calls Tryd.prog 12 #[v, .agg #[av, rv], .int .i64 (t : Int)] w fun e w' => e = .returned (.bool (sem (A ++ R) A.length x t)) ∧ Below w.heap.size w w'
/-- what stands behind At's first steps -/
structure AtS (A R : List (List (List UInt8))) (av rv : Value) (w wB : World) : Prop where
  B : Below w.heap.size w wB
  n : wB.cell? ⟨w.heap.size + 1, 0, none⟩ = some (.int .i64 (A.length : Int))
  a : wB.cell? ⟨w.heap.size, 0, none⟩ = some av
  r : wB.cell? ⟨w.heap.size, 1, none⟩ = some rv
theorem AtS.below {A R : List (List (List UInt8))} {av rv : Value} {w wB W : World} (h : AtS A R av rv w wB) (hb : Below wB.heap.size wB W) : AtS A R av rv w W := ⟨then_ h.B hb, kept hb h.n, kept hb h.a, kept hb h.r⟩
theorem AtS.first (A R : List (List (List UInt8))) (av rv : Value) (w : World) : AtS A R av rv w ((w.alloc (.cells #[av, rv] 29)).alloc (.cells #[.int .i64 (A.length : Int)] 3)) := by
  obtain ⟨w1, hw1⟩ : ∃ w1, w1 = w.alloc (.cells #[av, rv] 29) := ⟨_, rfl⟩
  have r1 : RowIs w1 w.heap.size 29 [av, rv] := by rw [hw1]; exact RowIs.new _ _ _
  have s1 : w1.heap.size = w.heap.size + 1 := by rw [hw1]; simp
  have b1 : Below w.heap.size w w1 := by rw [hw1]; exact newB _ _
  rw [← hw1]
  have b2 := newB w1 (.cells #[.int .i64 (A.length : Int)] 3)
  have r2 := RowIs.new w1 3 [.int .i64 (A.length : Int)]
  rw [s1] at r2
  exact ⟨then_ b1 b2, r2.cell 0 _ rfl, (r1.below b2).cell 0 _ rfl, (r1.below b2).cell 1 _ rfl⟩
theorem AtS.fold {A R : List (List (List UInt8))} {av rv : Value} {w wB : World} (h : AtS A R av rv w wB) (hR : Rows w rv R) (h0 : 0 < R.length) (h60 : A.length + R.length ≤ 60) (i : Nat) (hi : i ≤ 1000) (W : World) (hW : Below wB.heap.size wB W) :
    Calls Tryd.prog 26 #[.int .i64 (i : Int), .pointer (some ⟨w.heap.size + 1, 0, none⟩), .pointer (some ⟨w.heap.size, 0, none⟩)] W fun e w' => e = .returned (.int .i64 (Ls.fold (A.length + R.length) A.length i : Int)) ∧ Below W.heap.size W w' := by
  obtain ⟨ra, rc, rfl⟩ := hR.slice
  exact foldw_any A.length R.length i _ _ ra rc W h0 h60 hi (kept hW h.n) (kept hW h.r)
theorem len_app (A R : List (List (List UInt8))) : (A ++ R).length = A.length + R.length := List.length_append
end Ls
end Go.Proofs.YtmdblokmplbpmaaDoor
