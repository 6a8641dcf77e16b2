/-
  The walks of package route's named, is, isNot, all, some and free: names with a number behind, and lists of them.
-/
import Derived.Test.YtjnmeacblefkgaaDoorRoCheckW
namespace Go.Proofs.YtjnmeacblefkgaaDoor
namespace Ro
open Go.RowKit
theorem Tryd.infoExpr : (Tryd.prog.info? 50).map (fun i => (i.zero, i.size, i.bytes)) = some (some .nilIface, 1, 16) := by kernel_rfl
/-- a letter and a number -/
def nmB (c : UInt8) (i : Nat) : List UInt8 := [c, UInt8.ofNat (48 + i)]
set_option maxHeartbeats 2000000 in
theorem small_any (n : Nat) (hn : n < 4) (w : World) : Calls Tryd.prog 46 #[.int .i64 (n : Int)] w fun e w' => e = .returned (.string ⟨#[UInt8.ofNat (48 + n)]⟩) ∧ w' = w := by
  have h4 : n = 0 ∨ n = 1 ∨ n = 2 ∨ n = 3 := by omega
  rcases h4 with rfl | rfl | rfl | rfl
  all_goals
    go_enter Tryd.func46, Tryd.ntmps46
    go_wp2_with fail
    go_ret
    exact ⟨rfl, rfl⟩
set_option maxHeartbeats 2000000 in
theorem format_any (n : Nat) (hn : n < 4) (w : World) : Calls Tryd.prog 45 #[.int .i64 (n : Int), .int .i64 10] w fun e w' => e = .returned (.string ⟨#[UInt8.ofNat (48 + n)]⟩) ∧ w' = w := by
  have HS := hide (small_any n hn w)
  have h0 : (0 : Int) ≤ (n : Int) := by omega
  have h1 : (n : Int) < 100 := by omega
  generalize UInt8.ofNat (48 + n) = d at *
  go_enter Tryd.func45, Tryd.ntmps45
  go_wp2_with fail
  refine HS.out.mono ?_
  rintro e w1 ⟨rfl, hw⟩
  obtain rfl := hw.symm
  go_wp2_with fail
  go_ret
  exact ⟨rfl, rfl⟩
set_option maxHeartbeats 2000000 in
theorem itoa0_any (n : Nat) (hn : n < 4) (w : World) : Calls Tryd.prog 42 #[.int .i64 (n : Int)] w fun e w' => e = .returned (.string ⟨#[UInt8.ofNat (48 + n)]⟩) ∧ w' = w := by
  have HS := hide (format_any n hn w)
  generalize UInt8.ofNat (48 + n) = d at *
  go_enter Tryd.func42, Tryd.ntmps42
  go_wp2_with fail
  refine HS.out.mono ?_
  rintro e w1 ⟨rfl, hw⟩
  obtain rfl := hw.symm
  go_wp2_with fail
  go_ret
  exact ⟨rfl, rfl⟩
set_option maxHeartbeats 2000000 in
theorem itoa_any (n : Nat) (hn : n < 4) (w : World) : Calls Tryd.prog 38 #[.int .i64 (n : Int)] w fun e w' => e = .returned (.string ⟨#[UInt8.ofNat (48 + n)]⟩) ∧ w' = w := by
  have HS := hide (itoa0_any n hn w)
  generalize UInt8.ofNat (48 + n) = d at *
  go_enter Tryd.func38, Tryd.ntmps38
  go_wp2_with fail
  refine HS.out.mono ?_
  rintro e w1 ⟨rfl, hw⟩
  obtain rfl := hw.symm
  go_wp2_with fail
  go_ret
  exact ⟨rfl, rfl⟩
theorem two_bytes (c d : UInt8) : (⟨#[c]⟩ : ByteArray) ++ ⟨#[d]⟩ = ⟨#[c, d]⟩ := by apply ByteArray.ext; simp
def nmV (c : UInt8) (i : Nat) : Value := .string ⟨(nmB c i).toArray⟩
set_option maxHeartbeats 2000000 in
theorem named_any (c : UInt8) (n : Nat) (hn : n < 4) (w : World) : Calls Tryd.prog 27 #[.string ⟨#[c]⟩, .int .i64 (n : Int)] w fun e w' => e = .returned (nmV c n) ∧ w' = w := by
  have HS := hide (itoa_any n hn w)
  have HV : Hid (nmV c n = .string ⟨#[c, UInt8.ofNat (48 + n)]⟩) := rfl
  rw [HV.out]
  generalize UInt8.ofNat (48 + n) = d at *
  clear HV
  go_enter Tryd.func27, Tryd.ntmps27
  go_wp2_with fail
  refine HS.out.mono ?_
  rintro e w1 ⟨rfl, hw⟩
  obtain rfl := hw.symm
  go_wp2_with fail
  go_ret
  exact ⟨by simp [two_bytes], rfl⟩
/-- a name, or not a name -/
structure Lf where
  neg : Bool
  c : UInt8
  i : Nat
def bitV (c : UInt8) (i : Nat) : Value := .iface 88 (nmV c i)
def notV (c : UInt8) (i : Nat) : Value := .iface 84 (.agg #[bitV c i])
def lfV : Lf → Value
  | ⟨false, c, i⟩ => bitV c i
  | ⟨true, c, i⟩ => notV c i
set_option maxHeartbeats 2000000 in
theorem is_any (c : UInt8) (n : Nat) (hn : n < 4) (w : World) : Calls Tryd.prog 29 #[.string ⟨#[c]⟩, .int .i64 (n : Int)] w fun e w' => e = .returned (bitV c n) ∧ w' = w := by
  have HS := hide (named_any c n hn w)
  unfold bitV
  unfold nmV at *
  generalize (nmB c n).toArray = d at *
  go_enter Tryd.func29, Tryd.ntmps29
  go_wp2_with fail
  refine HS.out.mono ?_
  rintro e w1 ⟨rfl, hw⟩
  obtain rfl := hw.symm
  go_wp2_with fail
  go_ret
  exact ⟨rfl, rfl⟩
set_option maxHeartbeats 2000000 in
theorem isNot_any (c : UInt8) (n : Nat) (hn : n < 4) (w : World) : Calls Tryd.prog 25 #[.string ⟨#[c]⟩, .int .i64 (n : Int)] w fun e w' => e = .returned (notV c n) ∧ w' = w := by
  have HS := hide (is_any c n hn w)
  unfold notV
  unfold bitV nmV at *
  generalize (nmB c n).toArray = d at *
  go_enter Tryd.func25, Tryd.ntmps25
  go_wp2_with fail
  refine HS.out.mono ?_
  rintro e w1 ⟨rfl, hw⟩
  obtain rfl := hw.symm
  go_wp2_with fail
  go_ret
  exact ⟨rfl, rfl⟩
/-- a row of interfaces, as a slice -/
def Vs (w : World) (sv : Value) (us : List Value) : Prop := ∃ g c, sv = .slice (some ⟨g, 0, none⟩) us.length c ∧ us.length ≤ c ∧ us.length ≤ 1000 ∧ ∀ (k : Nat) u, us[k]? = some u → w.cell? ⟨g, k, none⟩ = some u ∧ ∃ t x, u = .iface t x
/-- parts put together: one alone is that -/
def allV (sv : Value) : List Value → Value
  | [u] => u
  | _ => .iface 87 sv
def someV (sv : Value) : List Value → Value
  | [u] => u
  | _ => .iface 89 sv
set_option maxHeartbeats 2000000 in
theorem all_any (us : List Value) (sv : Value) (w : World) (h : Vs w sv us) (h0 : us ≠ []) : Calls Tryd.prog 28 #[sv] w fun e w' => e = .returned (allV sv us) ∧ w' = w := by
  obtain ⟨g, c, rfl, hc, hl, hx⟩ := h
  match us, h0, hx, hl with
  | [u], _, hx, _ =>
    obtain ⟨c0, t, x, rfl⟩ := hx 0 u rfl
    show Calls Tryd.prog 28 #[.slice (some ⟨g, 0, none⟩) 1 c] w fun e w' => e = .returned (.iface t x) ∧ w' = w
    clear hx
    go_enter Tryd.func28, Tryd.ntmps28
    go_wp2_with fail
    go_ret
    exact ⟨rfl, rfl⟩
  | u :: v :: r, _, _, hl =>
    obtain ⟨n, hn⟩ : ∃ n, n = (u :: v :: r).length := ⟨_, rfl⟩
    have h2 : 2 ≤ n := by rw [hn]; simp
    have e : allV (.slice (some ⟨g, 0, none⟩) (u :: v :: r).length c) (u :: v :: r) = .iface 87 (.slice (some ⟨g, 0, none⟩) (u :: v :: r).length c) := rfl
    rw [e]
    rw [← hn] at hl ⊢
    have h0b : ((n : Int) == 0) = false := by simp; omega
    have h1b : ((n : Int) == 1) = false := by simp; omega
    clear hn hx e hc
    go_enter Tryd.func28, Tryd.ntmps28
    go_wp2_with fail
    go_ret
    exact ⟨rfl, rfl⟩
set_option maxHeartbeats 2000000 in
theorem some_any (us : List Value) (sv : Value) (w : World) (h : Vs w sv us) (h0 : us ≠ []) : Calls Tryd.prog 32 #[sv] w fun e w' => e = .returned (someV sv us) ∧ w' = w := by
  obtain ⟨g, c, rfl, hc, hl, hx⟩ := h
  match us, h0, hx, hl with
  | [u], _, hx, _ =>
    obtain ⟨c0, t, x, rfl⟩ := hx 0 u rfl
    show Calls Tryd.prog 32 #[.slice (some ⟨g, 0, none⟩) 1 c] w fun e w' => e = .returned (.iface t x) ∧ w' = w
    clear hx
    go_enter Tryd.func32, Tryd.ntmps32
    go_wp2_with fail
    go_ret
    exact ⟨rfl, rfl⟩
  | u :: v :: r, _, _, hl =>
    obtain ⟨n, hn⟩ : ∃ n, n = (u :: v :: r).length := ⟨_, rfl⟩
    have h2 : 2 ≤ n := by rw [hn]; simp
    have e : someV (.slice (some ⟨g, 0, none⟩) (u :: v :: r).length c) (u :: v :: r) = .iface 89 (.slice (some ⟨g, 0, none⟩) (u :: v :: r).length c) := rfl
    rw [e]
    rw [← hn] at hl ⊢
    have h1b : ((n : Int) == 1) = false := by simp; omega
    clear hn hx e hc
    go_enter Tryd.func32, Tryd.ntmps32
    go_wp2_with fail
    go_ret
    exact ⟨rfl, rfl⟩
end Ro
end Go.Proofs.YtjnmeacblefkgaaDoor
