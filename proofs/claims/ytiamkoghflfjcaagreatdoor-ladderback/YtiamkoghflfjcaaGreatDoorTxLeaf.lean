/-
  The walks of the leaves' Text, of isAnd, isOr, isList, and of Text itself (its deferred closure finds nothing to recover).
-/
import Derived.Test.YtiamkoghflfjcaaGreatDoorBld
import Derived.Test.YtiamkoghflfjcaaGreatDoorRdList
import Derived.Test.YtiamkoghflfjcaaGreatDoorTxAssert
import Derived.Defers
import Derived.Recover
namespace Go.Proofs.YtiamkoghflfjcaaGreatDoor
open Go.RowKit
theorem ret_str {a b : ByteArray} (h : a = b) : Ending.returned (.string a) = .returned (.string b) := by rw [h]
theorem Const_Text (c : Bool) (w : World) : Calls Tryz.prog 315 #[.bool c] w fun e w' => e = .returned (.string ⟨#[if c then 49 else 48]⟩) ∧ w' = w := by
  cases c
  · go_enter Tryz.func315, Tryz.ntmps315
    go_wp2
    go_ret
    exact ⟨rfl, rfl⟩
  · go_enter Tryz.func315, Tryz.ntmps315
    go_wp2
    go_ret
    exact ⟨rfl, rfl⟩
theorem Bit_Text (s : ByteArray) (w : World) : Calls Tryz.prog 304 #[.string s] w fun e w' => e = .returned (.string s) ∧ w' = w := by
  go_enter Tryz.func304, Tryz.ntmps304
  go_wp2
  go_ret
  exact ⟨rfl, rfl⟩
theorem cons_bytes (c : UInt8) (l : List UInt8) : (⟨#[c]⟩ ++ ⟨l.toArray⟩ : ByteArray) = ⟨(c :: l).toArray⟩ := by
  apply ByteArray.ext
  simp [ByteArray.data_append]
theorem Rise_Text (l : List UInt8) (hl : l.length ≤ 8) (w : World) : Calls Tryz.prog 305 #[.string ⟨l.toArray⟩] w fun e w' => e = .returned (.string ⟨(94 :: l).toArray⟩) ∧ w' = w := by
  go_enter Tryz.func305, Tryz.ntmps305
  go_wp2
  go_ret
  exact ⟨ret_str (cons_bytes _ _), rfl⟩
theorem Fall_Text (l : List UInt8) (hl : l.length ≤ 8) (w : World) : Calls Tryz.prog 306 #[.string ⟨l.toArray⟩] w fun e w' => e = .returned (.string ⟨(126 :: l).toArray⟩) ∧ w' = w := by
  go_enter Tryz.func306, Tryz.ntmps306
  go_wp2
  go_ret
  exact ⟨ret_str (cons_bytes _ _), rfl⟩
/-- the deferred closure of Text, where nothing panics -/
theorem Text_idle (p : Addr) (w : World) :
    CallsD Tryz.prog 86 #[.pointer (some p)] .returning w fun e u' w' => e = .returned (.tuple #[]) ∧ u' = .returning ∧ w' = w := by
  refine callsD_of_wpS Tryz.func86 rfl fun c₀ cs hu => ?_
  apply wpS_seq
  apply wpS_region
  simp [wpOpsS, go_sem, recoverD, hu, Tryz.ntmps86, Exit.thenS]
  refine wpS_cond (t := false) (by simp [Act.eval, Array.replicate]) ?_
  simp only [Bool.false_eq_true, if_false]
  refine wpS_of_wp (wp_skip ?_)
  cases c₀
  simp_all [bodyPostS, results, Tryz.results86]
set_option maxHeartbeats 1000000 in
set_option maxRecDepth 100000 in
/-- Text is what the type's own method says -/
theorem Text_of (T M : Nat) (y : Value) (t : ByteArray) (w : World) (hm : ∀ w : World, (method 494 T y "Text").run Tryz.prog w = .ok (M, y) w) (hent : ∀ (args : Array Value) (w : World), (callFunc M args).run Tryz.prog w = .ok (.enter M args) w)
    (hc : ∀ w2 : World, Below w.heap.size w w2 → Calls Tryz.prog M #[y] w2 fun e w' => e = .returned (.string t) ∧ Below w2.heap.size w2 w') :
    Calls Tryz.prog 27 #[.iface T y] w fun e w' => e = .returned (.string t) ∧ Below w.heap.size w w' := by
  have hmf : ∀ (fn : Fn) (first cap : Array Value) (w : World), (Instr.makeFunc fn first cap).run Tryz.prog w = .ok (.func fn first cap) w := fun _ _ _ _ => rfl
  have HC := hide hc
  clear hc
  go_enter_defers Tryz.func27, Tryz.ntmps27
  go_wp2_with fail
  refine (HC.out _ ((Below.refl _ _).alloc (Nat.le_refl _) _)).mono ?_
  rintro e w1 ⟨rfl, hb⟩
  have hsz : w.heap.size < w1.heap.size := by have := hb.size; simp at this; omega
  have hc0 : w1.cell? ⟨w.heap.size, 0, none⟩ = some (.string ⟨#[]⟩) := by rw [hb.cell (by simp)]; simp
  have hf0 : w1.frozen? ⟨w.heap.size, 0, none⟩ = false := by rw [hb.frozen (by simp)]; simp [go_sem]
  have HB : Hid (Below w.heap.size w w1) := ((Below.refl _ w).alloc (Nat.le_refl _) _).trans (hb.mono (by simp))
  clear hb HC
  go_wp2_with fail
  refine leaves_cons (f := 86) (args := #[.pointer (some ⟨w.heap.size, 0, none⟩)]) (by simp) (by simp [go_sem]) ?_
  refine (Text_idle ⟨w.heap.size, 0, none⟩ _).mono ?_
  rintro e u' w'' ⟨rfl, rfl, rfl⟩
  have hc2 : (w1.setCell ⟨w.heap.size, 0, none⟩ (.string t)).cell? ⟨w.heap.size, 0, none⟩ = some (.string t) := World.cell?_setCell_same w1 _ _ hc0
  have HX := HB.out.setCell (p := ⟨w.heap.size, 0, none⟩) (Nat.le_refl _) (.string t)
  simp [Leaves, settle, results, Tryz.results27, go_sem, hc2]
  exact HX
theorem entered_Const : Entered 315 := fun _ _ => by kernel_rfl
theorem entered_Bit : Entered 304 := fun _ _ => by kernel_rfl
theorem entered_Rise : Entered 305 := fun _ _ => by kernel_rfl
theorem entered_Fall : Entered 306 := fun _ _ => by kernel_rfl
/-- a leaf's text -/
theorem Text_leaf (ok : Nat → Prop) (x : Ex) (v : Value) (w : World) (h : IsEx ok w x v) (hk : x.kind ≤ 4) :
    Calls Tryz.prog 27 #[v] w fun e w' => e = .returned (.string ⟨x.text.toArray⟩) ∧ Below w.heap.size w w' := by
  obtain ⟨k, nm, l⟩ := x
  match k, h, hk with
  | 0, h, _ =>
    simp only [IsEx] at h
    obtain ⟨_, _, rfl⟩ := h
    refine Text_of _ 315 _ _ w (fun _ => by kernel_rfl) entered_Const (fun w2 _ => (Const_Text false w2).mono ?_)
    rintro e w' ⟨rfl, rfl⟩
    exact ⟨by simp [Ex.text], Below.refl _ _⟩
  | 1, h, _ =>
    simp only [IsEx] at h
    obtain ⟨_, _, rfl⟩ := h
    refine Text_of _ 315 _ _ w (fun _ => by kernel_rfl) entered_Const (fun w2 _ => (Const_Text true w2).mono ?_)
    rintro e w' ⟨rfl, rfl⟩
    exact ⟨by simp [Ex.text], Below.refl _ _⟩
  | 2, h, _ =>
    simp only [IsEx] at h
    obtain ⟨_, _, rfl⟩ := h
    refine Text_of _ 304 _ _ w (fun _ => by kernel_rfl) entered_Bit (fun w2 _ => (Bit_Text _ w2).mono ?_)
    rintro e w' ⟨rfl, rfl⟩
    exact ⟨by simp [Ex.text], Below.refl _ _⟩
  | 3, h, _ =>
    simp only [IsEx] at h
    obtain ⟨_, hl, rfl⟩ := h
    refine Text_of _ 305 _ _ w (fun _ => by kernel_rfl) entered_Rise (fun w2 _ => (Rise_Text _ hl w2).mono ?_)
    rintro e w' ⟨rfl, rfl⟩
    exact ⟨by simp [Ex.text], Below.refl _ _⟩
  | 4, h, _ =>
    simp only [IsEx] at h
    obtain ⟨_, hl, rfl⟩ := h
    refine Text_of _ 306 _ _ w (fun _ => by kernel_rfl) entered_Fall (fun w2 _ => (Fall_Text _ hl w2).mono ?_)
    rintro e w' ⟨rfl, rfl⟩
    exact ⟨by simp [Ex.text], Below.refl _ _⟩
theorem IsEx.le7 {ok : Nat → Prop} {w : World} (x : Ex) (v : Value) (h : IsEx ok w x v) : x.kind ≤ 7 := by
  obtain ⟨k, nm, l⟩ := x
  match k, h with
  | 0, _ => simp
  | 1, _ => simp
  | 2, _ => simp
  | 3, _ => simp
  | 4, _ => simp
  | 5, _ => simp
  | 6, _ => simp
  | 7, _ => simp
  | n + 8, h => simp only [IsEx] at h
/-- is an expression's value an And? -/
theorem isAnd_any (ok : Nat → Prop) (x : Ex) (v : Value) (w0 w : World) (h : IsEx ok w0 x v) : Calls Tryz.prog 303 #[v] w fun e w' => e = .returned (.bool (x.kind == 6)) ∧ w' = w := by
  obtain ⟨k, nm, l⟩ := x
  match k, h with
  | 0, h =>
    simp only [IsEx] at h
    obtain ⟨_, _, rfl⟩ := h
    go_enter Tryz.func303, Tryz.ntmps303
    go_wp2
    go_ret
    exact ⟨rfl, rfl⟩
  | 1, h =>
    simp only [IsEx] at h
    obtain ⟨_, _, rfl⟩ := h
    go_enter Tryz.func303, Tryz.ntmps303
    go_wp2
    go_ret
    exact ⟨rfl, rfl⟩
  | 2, h =>
    simp only [IsEx] at h
    obtain ⟨_, _, rfl⟩ := h
    go_enter Tryz.func303, Tryz.ntmps303
    go_wp2
    go_ret
    exact ⟨rfl, rfl⟩
  | 3, h =>
    simp only [IsEx] at h
    obtain ⟨_, _, rfl⟩ := h
    go_enter Tryz.func303, Tryz.ntmps303
    go_wp2
    go_ret
    exact ⟨rfl, rfl⟩
  | 4, h =>
    simp only [IsEx] at h
    obtain ⟨_, _, rfl⟩ := h
    go_enter Tryz.func303, Tryz.ntmps303
    go_wp2
    go_ret
    exact ⟨rfl, rfl⟩
  | 5, h =>
    simp only [IsEx] at h
    obtain ⟨_, _, u, rfl, _⟩ := h
    go_enter Tryz.func303, Tryz.ntmps303
    go_wp2
    go_ret
    exact ⟨rfl, rfl⟩
  | 6, h =>
    simp only [IsEx] at h
    obtain ⟨_, _, _, g, cap, rfl, _⟩ := h
    go_enter Tryz.func303, Tryz.ntmps303
    go_wp2
    go_ret
    exact ⟨rfl, rfl⟩
  | 7, h =>
    simp only [IsEx] at h
    obtain ⟨_, _, _, g, cap, rfl, _⟩ := h
    go_enter Tryz.func303, Tryz.ntmps303
    go_wp2
    go_ret
    exact ⟨rfl, rfl⟩
  | n + 8, h => simp only [IsEx] at h
theorem isOr_any (ok : Nat → Prop) (x : Ex) (v : Value) (w0 w : World) (h : IsEx ok w0 x v) : Calls Tryz.prog 302 #[v] w fun e w' => e = .returned (.bool (x.kind == 7)) ∧ w' = w := by
  obtain ⟨k, nm, l⟩ := x
  match k, h with
  | 0, h =>
    simp only [IsEx] at h
    obtain ⟨_, _, rfl⟩ := h
    go_enter Tryz.func302, Tryz.ntmps302
    go_wp2
    go_ret
    exact ⟨rfl, rfl⟩
  | 1, h =>
    simp only [IsEx] at h
    obtain ⟨_, _, rfl⟩ := h
    go_enter Tryz.func302, Tryz.ntmps302
    go_wp2
    go_ret
    exact ⟨rfl, rfl⟩
  | 2, h =>
    simp only [IsEx] at h
    obtain ⟨_, _, rfl⟩ := h
    go_enter Tryz.func302, Tryz.ntmps302
    go_wp2
    go_ret
    exact ⟨rfl, rfl⟩
  | 3, h =>
    simp only [IsEx] at h
    obtain ⟨_, _, rfl⟩ := h
    go_enter Tryz.func302, Tryz.ntmps302
    go_wp2
    go_ret
    exact ⟨rfl, rfl⟩
  | 4, h =>
    simp only [IsEx] at h
    obtain ⟨_, _, rfl⟩ := h
    go_enter Tryz.func302, Tryz.ntmps302
    go_wp2
    go_ret
    exact ⟨rfl, rfl⟩
  | 5, h =>
    simp only [IsEx] at h
    obtain ⟨_, _, u, rfl, _⟩ := h
    go_enter Tryz.func302, Tryz.ntmps302
    go_wp2
    go_ret
    exact ⟨rfl, rfl⟩
  | 6, h =>
    simp only [IsEx] at h
    obtain ⟨_, _, _, g, cap, rfl, _⟩ := h
    go_enter Tryz.func302, Tryz.ntmps302
    go_wp2
    go_ret
    exact ⟨rfl, rfl⟩
  | 7, h =>
    simp only [IsEx] at h
    obtain ⟨_, _, _, g, cap, rfl, _⟩ := h
    go_enter Tryz.func302, Tryz.ntmps302
    go_wp2
    go_ret
    exact ⟨rfl, rfl⟩
  | n + 8, h => simp only [IsEx] at h
theorem isList_any (ok : Nat → Prop) (x : Ex) (v : Value) (w0 w : World) (h : IsEx ok w0 x v) : Calls Tryz.prog 300 #[v] w fun e w' => e = .returned (.bool (decide (6 ≤ x.kind))) ∧ w' = w := by
  have H1 := hide (fun w => isAnd_any ok x v w0 w h)
  have H2 := hide (fun w => isOr_any ok x v w0 w h)
  have H7 := hide (IsEx.le7 x v h)
  clear h
  generalize x.kind = k at *
  cases hk : (k == 6) with
  | true =>
    rw [hk] at H1
    have e1 : k = 6 := by simpa using hk
    clear hk
    go_enter Tryz.func300, Tryz.ntmps300
    go_wp2_with (first | (go_at_call 303; refine (H1.out _).mono ?_; rintro e w' ⟨rfl, rfl⟩) | (go_at_call 302; refine (H2.out _).mono ?_; rintro e w' ⟨rfl, rfl⟩))
    go_ret
    exact ⟨ret_bool (by rw [e1]; rfl), rfl⟩
  | false =>
    rw [hk] at H1
    have e1 : ¬ k = 6 := by simpa using hk
    clear hk
    go_enter Tryz.func300, Tryz.ntmps300
    go_wp2_with (first | (go_at_call 303; refine (H1.out _).mono ?_; rintro e w' ⟨rfl, rfl⟩) | (go_at_call 302; refine (H2.out _).mono ?_; rintro e w' ⟨rfl, rfl⟩))
    go_ret
    refine ⟨ret_bool ?_, rfl⟩
    have h7 := H7.out
    by_cases e2 : k = 7
    · rw [e2]; rfl
    · have : ¬ 6 ≤ k := by omega
      simp [e2, this]
end Go.Proofs.YtiamkoghflfjcaaGreatDoor
