/-
  The walks of the leaves' Text, of isAnd, isOr, isList, and of Text itself (its deferred closure finds nothing to recover). The walk of within: the parts right within an expression, as a slice.
-/
import Derived.Test.YtlgbihmncoeanaaGreatDoorBld
import Derived.Test.YtlgbihmncoeanaaGreatDoorRdList
import Derived.Test.YtlgbihmncoeanaaGreatDoorTxAssert
import Derived.Defers
import Derived.Recover
namespace Go.Proofs.YtlgbihmncoeanaaGreatDoor
section
open Go.RowKit
theorem ret_str {a b : ByteArray} (h : a = b) : Ending.returned (.string a) = .returned (.string b) := by rw [h]
theorem Const_Text (c : Bool) (w : World) : Calls Tryz.prog 356 #[.bool c] w fun e w' => e = .returned (.string ⟨#[if c then 49 else 48]⟩) ∧ w' = w := by
  cases c
  · go_enter Tryz.func356, Tryz.ntmps356
    go_wp2
    go_ret
    exact ⟨rfl, rfl⟩
  · go_enter Tryz.func356, Tryz.ntmps356
    go_wp2
    go_ret
    exact ⟨rfl, rfl⟩
theorem Bit_Text (s : ByteArray) (w : World) : Calls Tryz.prog 337 #[.string s] w fun e w' => e = .returned (.string s) ∧ w' = w := by
  go_enter Tryz.func337, Tryz.ntmps337
  go_wp2
  go_ret
  exact ⟨rfl, rfl⟩
theorem cons_bytes (c : UInt8) (l : List UInt8) : (⟨#[c]⟩ ++ ⟨l.toArray⟩ : ByteArray) = ⟨(c :: l).toArray⟩ := by
  apply ByteArray.ext
  simp [ByteArray.data_append]
theorem Rise_Text (l : List UInt8) (hl : l.length ≤ 8) (w : World) : Calls Tryz.prog 338 #[.string ⟨l.toArray⟩] w fun e w' => e = .returned (.string ⟨(94 :: l).toArray⟩) ∧ w' = w := by
  go_enter Tryz.func338, Tryz.ntmps338
  go_wp2
  go_ret
  exact ⟨ret_str (cons_bytes _ _), rfl⟩
theorem Fall_Text (l : List UInt8) (hl : l.length ≤ 8) (w : World) : Calls Tryz.prog 339 #[.string ⟨l.toArray⟩] w fun e w' => e = .returned (.string ⟨(126 :: l).toArray⟩) ∧ w' = w := by
  go_enter Tryz.func339, Tryz.ntmps339
  go_wp2
  go_ret
  exact ⟨ret_str (cons_bytes _ _), rfl⟩
/-- the deferred closure of Text, where nothing panics -/
theorem Text_idle (p : Addr) (w : World) :
    CallsD Tryz.prog 100 #[.pointer (some p)] .returning w fun e u' w' => e = .returned (.tuple #[]) ∧ u' = .returning ∧ w' = w := by
  refine callsD_of_wpS Tryz.func100 rfl fun c₀ cs hu => ?_
  apply wpS_seq
  apply wpS_region
  simp [wpOpsS, go_sem, recoverD, hu, Tryz.ntmps100, Exit.thenS]
  refine wpS_cond (t := false) (by simp [Act.eval, Array.replicate]) ?_
  simp only [Bool.false_eq_true, if_false]
  refine wpS_of_wp (wp_skip ?_)
  cases c₀
  simp_all [bodyPostS, results, Tryz.results100]
set_option maxHeartbeats 1000000 in
set_option maxRecDepth 100000 in
/-- Text is what the type's own method says -/
theorem Text_of (T M : Nat) (y : Value) (t : ByteArray) (w : World) (hm : ∀ w : World, (method 516 T y "Text").run Tryz.prog w = .ok (M, y) w) (hent : ∀ (args : Array Value) (w : World), (callFunc M args).run Tryz.prog w = .ok (.enter M args) w)
    (hc : ∀ w2 : World, Below w.heap.size w w2 → Calls Tryz.prog M #[y] w2 fun e w' => e = .returned (.string t) ∧ Below w2.heap.size w2 w') :
    Calls Tryz.prog 31 #[.iface T y] w fun e w' => e = .returned (.string t) ∧ Below w.heap.size w w' := by
  have hmf : ∀ (fn : Fn) (first cap : Array Value) (w : World), (Instr.makeFunc fn first cap).run Tryz.prog w = .ok (.func fn first cap) w := fun _ _ _ _ => rfl
  have HC := hide hc
  clear hc
  go_enter_defers Tryz.func31, Tryz.ntmps31
  go_wp2_with fail
  refine (HC.out _ ((Below.refl _ _).alloc (Nat.le_refl _) _)).mono ?_
  rintro e w1 ⟨rfl, hb⟩
  have hsz : w.heap.size < w1.heap.size := by have := hb.size; simp at this; omega
  have hc0 : w1.cell? ⟨w.heap.size, 0, none⟩ = some (.string ⟨#[]⟩) := by rw [hb.cell (by simp)]; simp
  have hf0 : w1.frozen? ⟨w.heap.size, 0, none⟩ = false := by rw [hb.frozen (by simp)]; simp [go_sem]
  have HB : Hid (Below w.heap.size w w1) := ((Below.refl _ w).alloc (Nat.le_refl _) _).trans (hb.mono (by simp))
  clear hb HC
  go_wp2_with fail
  refine leaves_cons (f := 100) (args := #[.pointer (some ⟨w.heap.size, 0, none⟩)]) (by simp) (by simp [go_sem]) ?_
  refine (Text_idle ⟨w.heap.size, 0, none⟩ _).mono ?_
  rintro e u' w'' ⟨rfl, rfl, rfl⟩
  have hc2 : (w1.setCell ⟨w.heap.size, 0, none⟩ (.string t)).cell? ⟨w.heap.size, 0, none⟩ = some (.string t) := World.cell?_setCell_same w1 _ _ hc0
  have HX := HB.out.setCell (p := ⟨w.heap.size, 0, none⟩) (Nat.le_refl _) (.string t)
  simp [Leaves, settle, results, Tryz.results31, go_sem, hc2]
  exact HX
theorem entered_Const : Entered 356 := fun _ _ => by kernel_rfl
theorem entered_Bit : Entered 337 := fun _ _ => by kernel_rfl
theorem entered_Rise : Entered 338 := fun _ _ => by kernel_rfl
theorem entered_Fall : Entered 339 := fun _ _ => by kernel_rfl
/-- a leaf's text -/
theorem Text_leaf (ok : Nat → Prop) (x : Ex) (v : Value) (w : World) (h : IsEx ok w x v) (hk : x.kind ≤ 4) :
    Calls Tryz.prog 31 #[v] w fun e w' => e = .returned (.string ⟨x.text.toArray⟩) ∧ Below w.heap.size w w' := by
  obtain ⟨k, nm, l⟩ := x
  match k, h, hk with
  | 0, h, _ =>
    simp only [IsEx] at h
    obtain ⟨_, _, rfl⟩ := h
    refine Text_of _ 356 _ _ w (fun _ => by kernel_rfl) entered_Const (fun w2 _ => (Const_Text false w2).mono ?_)
    rintro e w' ⟨rfl, rfl⟩
    exact ⟨by simp [Ex.text], Below.refl _ _⟩
  | 1, h, _ =>
    simp only [IsEx] at h
    obtain ⟨_, _, rfl⟩ := h
    refine Text_of _ 356 _ _ w (fun _ => by kernel_rfl) entered_Const (fun w2 _ => (Const_Text true w2).mono ?_)
    rintro e w' ⟨rfl, rfl⟩
    exact ⟨by simp [Ex.text], Below.refl _ _⟩
  | 2, h, _ =>
    simp only [IsEx] at h
    obtain ⟨_, _, rfl⟩ := h
    refine Text_of _ 337 _ _ w (fun _ => by kernel_rfl) entered_Bit (fun w2 _ => (Bit_Text _ w2).mono ?_)
    rintro e w' ⟨rfl, rfl⟩
    exact ⟨by simp [Ex.text], Below.refl _ _⟩
  | 3, h, _ =>
    simp only [IsEx] at h
    obtain ⟨_, hl, rfl⟩ := h
    refine Text_of _ 338 _ _ w (fun _ => by kernel_rfl) entered_Rise (fun w2 _ => (Rise_Text _ hl w2).mono ?_)
    rintro e w' ⟨rfl, rfl⟩
    exact ⟨by simp [Ex.text], Below.refl _ _⟩
  | 4, h, _ =>
    simp only [IsEx] at h
    obtain ⟨_, hl, rfl⟩ := h
    refine Text_of _ 339 _ _ w (fun _ => by kernel_rfl) entered_Fall (fun w2 _ => (Fall_Text _ hl w2).mono ?_)
    rintro e w' ⟨rfl, rfl⟩
    exact ⟨by simp [Ex.text], Below.refl _ _⟩
theorem IsEx.le7 {ok : Nat → Prop} {w : World} (x : Ex) (v : Value) (h : IsEx ok w x v) : x.kind ≤ 7 := by
  obtain ⟨k, nm, l⟩ := x
  match k, h with
  | 0, _ => simp
  | 1, _ => simp
  | 2, _ => simp
  | 3, _ => simp
  | 4, _ => simp
  | 5, _ => simp
  | 6, _ => simp
  | 7, _ => simp
  | n + 8, h => simp only [IsEx] at h
/-- is an expression's value an And? -/
theorem isAnd_any (ok : Nat → Prop) (x : Ex) (v : Value) (w0 w : World) (h : IsEx ok w0 x v) : Calls Tryz.prog 336 #[v] w fun e w' => e = .returned (.bool (x.kind == 6)) ∧ w' = w := by
  obtain ⟨k, nm, l⟩ := x
  match k, h with
  | 0, h =>
    simp only [IsEx] at h
    obtain ⟨_, _, rfl⟩ := h
    go_enter Tryz.func336, Tryz.ntmps336
    go_wp2
    go_ret
    exact ⟨rfl, rfl⟩
  | 1, h =>
    simp only [IsEx] at h
    obtain ⟨_, _, rfl⟩ := h
    go_enter Tryz.func336, Tryz.ntmps336
    go_wp2
    go_ret
    exact ⟨rfl, rfl⟩
  | 2, h =>
    simp only [IsEx] at h
    obtain ⟨_, _, rfl⟩ := h
    go_enter Tryz.func336, Tryz.ntmps336
    go_wp2
    go_ret
    exact ⟨rfl, rfl⟩
  | 3, h =>
    simp only [IsEx] at h
    obtain ⟨_, _, rfl⟩ := h
    go_enter Tryz.func336, Tryz.ntmps336
    go_wp2
    go_ret
    exact ⟨rfl, rfl⟩
  | 4, h =>
    simp only [IsEx] at h
    obtain ⟨_, _, rfl⟩ := h
    go_enter Tryz.func336, Tryz.ntmps336
    go_wp2
    go_ret
    exact ⟨rfl, rfl⟩
  | 5, h =>
    simp only [IsEx] at h
    obtain ⟨_, _, u, rfl, _⟩ := h
    go_enter Tryz.func336, Tryz.ntmps336
    go_wp2
    go_ret
    exact ⟨rfl, rfl⟩
  | 6, h =>
    simp only [IsEx] at h
    obtain ⟨_, _, _, g, cap, rfl, _⟩ := h
    go_enter Tryz.func336, Tryz.ntmps336
    go_wp2
    go_ret
    exact ⟨rfl, rfl⟩
  | 7, h =>
    simp only [IsEx] at h
    obtain ⟨_, _, _, g, cap, rfl, _⟩ := h
    go_enter Tryz.func336, Tryz.ntmps336
    go_wp2
    go_ret
    exact ⟨rfl, rfl⟩
  | n + 8, h => simp only [IsEx] at h
theorem isOr_any (ok : Nat → Prop) (x : Ex) (v : Value) (w0 w : World) (h : IsEx ok w0 x v) : Calls Tryz.prog 335 #[v] w fun e w' => e = .returned (.bool (x.kind == 7)) ∧ w' = w := by
  obtain ⟨k, nm, l⟩ := x
  match k, h with
  | 0, h =>
    simp only [IsEx] at h
    obtain ⟨_, _, rfl⟩ := h
    go_enter Tryz.func335, Tryz.ntmps335
    go_wp2
    go_ret
    exact ⟨rfl, rfl⟩
  | 1, h =>
    simp only [IsEx] at h
    obtain ⟨_, _, rfl⟩ := h
    go_enter Tryz.func335, Tryz.ntmps335
    go_wp2
    go_ret
    exact ⟨rfl, rfl⟩
  | 2, h =>
    simp only [IsEx] at h
    obtain ⟨_, _, rfl⟩ := h
    go_enter Tryz.func335, Tryz.ntmps335
    go_wp2
    go_ret
    exact ⟨rfl, rfl⟩
  | 3, h =>
    simp only [IsEx] at h
    obtain ⟨_, _, rfl⟩ := h
    go_enter Tryz.func335, Tryz.ntmps335
    go_wp2
    go_ret
    exact ⟨rfl, rfl⟩
  | 4, h =>
    simp only [IsEx] at h
    obtain ⟨_, _, rfl⟩ := h
    go_enter Tryz.func335, Tryz.ntmps335
    go_wp2
    go_ret
    exact ⟨rfl, rfl⟩
  | 5, h =>
    simp only [IsEx] at h
    obtain ⟨_, _, u, rfl, _⟩ := h
    go_enter Tryz.func335, Tryz.ntmps335
    go_wp2
    go_ret
    exact ⟨rfl, rfl⟩
  | 6, h =>
    simp only [IsEx] at h
    obtain ⟨_, _, _, g, cap, rfl, _⟩ := h
    go_enter Tryz.func335, Tryz.ntmps335
    go_wp2
    go_ret
    exact ⟨rfl, rfl⟩
  | 7, h =>
    simp only [IsEx] at h
    obtain ⟨_, _, _, g, cap, rfl, _⟩ := h
    go_enter Tryz.func335, Tryz.ntmps335
    go_wp2
    go_ret
    exact ⟨rfl, rfl⟩
  | n + 8, h => simp only [IsEx] at h
theorem isList_any (ok : Nat → Prop) (x : Ex) (v : Value) (w0 w : World) (h : IsEx ok w0 x v) : Calls Tryz.prog 333 #[v] w fun e w' => e = .returned (.bool (decide (6 ≤ x.kind))) ∧ w' = w := by
  have H1 := hide (fun w => isAnd_any ok x v w0 w h)
  have H2 := hide (fun w => isOr_any ok x v w0 w h)
  have H7 := hide (IsEx.le7 x v h)
  clear h
  generalize x.kind = k at *
  cases hk : (k == 6) with
  | true =>
    rw [hk] at H1
    have e1 : k = 6 := by simpa using hk
    clear hk
    go_enter Tryz.func333, Tryz.ntmps333
    go_wp2_with (first | (go_at_call 336; refine (H1.out _).mono ?_; rintro e w' ⟨rfl, rfl⟩) | (go_at_call 335; refine (H2.out _).mono ?_; rintro e w' ⟨rfl, rfl⟩))
    go_ret
    exact ⟨ret_bool (by rw [e1]; rfl), rfl⟩
  | false =>
    rw [hk] at H1
    have e1 : ¬ k = 6 := by simpa using hk
    clear hk
    go_enter Tryz.func333, Tryz.ntmps333
    go_wp2_with (first | (go_at_call 336; refine (H1.out _).mono ?_; rintro e w' ⟨rfl, rfl⟩) | (go_at_call 335; refine (H2.out _).mono ?_; rintro e w' ⟨rfl, rfl⟩))
    go_ret
    refine ⟨ret_bool ?_, rfl⟩
    have h7 := H7.out
    by_cases e2 : k = 7
    · rw [e2]; rfl
    · have : ¬ 6 ≤ k := by omega
      simp [e2, this]
end
section
open Go.RowKit
theorem ret_int {a b : Int} (h : a = b) : Ending.returned (.int .i64 a) = .returned (.int .i64 b) := by rw [h]
/-- a slice of expressions -/
def Parts (w : World) (sv : Value) (xs : List Ex) : Prop :=
  (xs = [] ∧ sv = .slice none 0 0) ∨ ∃ g cap, sv = .slice (some ⟨g, 0, none⟩) xs.length cap ∧ xs.length ≤ cap ∧ xs.length ≤ 9223372036854775807 ∧ ∀ (k : Nat) (x : Ex), xs[k]? = some x → ∃ u, w.cell? ⟨g, k, none⟩ = some u ∧ IsEx (fun _ => True) w x u
theorem Parts.below {w w' : World} {sv : Value} {xs : List Ex} (h : Parts w sv xs) (hb : Below w.heap.size w w') : Parts w' sv xs := by
  rcases h with h | ⟨g, cap, h1, h2, h3, h4⟩
  · exact .inl h
  · refine .inr ⟨g, cap, h1, h2, h3, fun k x hx => ?_⟩
    obtain ⟨u, hu, he⟩ := h4 k x hx
    exact ⟨u, Stay.below (ok := fun _ => True) hb g k u trivial hu, IsEx.stay (Stay.below hb) (fun g hg => hg) x u he⟩
set_option maxHeartbeats 1000000 in
theorem within_parts (x : Ex) (v : Value) (w : World) (h : IsEx (fun _ => True) w x v) :
    Calls Tryz.prog 192 #[v] w fun e w' => ∃ sv, e = .returned sv ∧ Parts w' sv x.of ∧ Below w.heap.size w w' := by
  obtain ⟨k, nm, l⟩ := x
  match k, h with
  | 0, h =>
    simp only [IsEx] at h
    obtain ⟨_, hl, rfl⟩ := h
    go_enter Tryz.func192, Tryz.ntmps192
    go_wp2
    go_ret
    exact ⟨_, rfl, .inl ⟨hl, rfl⟩, Below.refl _ _⟩
  | 1, h =>
    simp only [IsEx] at h
    obtain ⟨_, hl, rfl⟩ := h
    go_enter Tryz.func192, Tryz.ntmps192
    go_wp2
    go_ret
    exact ⟨_, rfl, .inl ⟨hl, rfl⟩, Below.refl _ _⟩
  | 2, h =>
    simp only [IsEx] at h
    obtain ⟨hl, _, rfl⟩ := h
    go_enter Tryz.func192, Tryz.ntmps192
    go_wp2
    go_ret
    exact ⟨_, rfl, .inl ⟨hl, rfl⟩, Below.refl _ _⟩
  | 3, h =>
    simp only [IsEx] at h
    obtain ⟨hl, _, rfl⟩ := h
    go_enter Tryz.func192, Tryz.ntmps192
    go_wp2
    go_ret
    exact ⟨_, rfl, .inl ⟨hl, rfl⟩, Below.refl _ _⟩
  | 4, h =>
    simp only [IsEx] at h
    obtain ⟨hl, _, rfl⟩ := h
    go_enter Tryz.func192, Tryz.ntmps192
    go_wp2
    go_ret
    exact ⟨_, rfl, .inl ⟨hl, rfl⟩, Below.refl _ _⟩
  | 5, h =>
    simp only [IsEx] at h
    obtain ⟨_, h1, u, rfl, h3⟩ := h
    match l, h1 with
    | [y], _ =>
      have hy : IsEx (fun _ => True) w y u := h3 _ rfl
      obtain ⟨tu, yu, hiu⟩ := IsEx.iface y u hy
      subst hiu
      have HY := hide hy
      clear h3 hy
      go_enter Tryz.func192, Tryz.ntmps192
      go_wp2
      go_ret
      have hb : Below w.heap.size w ((w.alloc (.cells #[.iface tu yu] 319)).alloc (.cells #[.iface tu yu] 39)) := ((Below.refl _ w).alloc (Nat.le_refl _) _).alloc (by simp) _
      refine ⟨_, rfl, .inr ⟨w.heap.size + 1, 1, rfl, by simp, by simp, ?_⟩, hb⟩
      intro k x hk
      match k, hk with
      | 0, hk =>
        simp only [List.getElem?_cons_zero, Option.some.injEq] at hk
        subst hk
        exact ⟨_, by simp [go_sem], IsEx.stay (Stay.below hb) (fun g hg => hg) y _ HY.out⟩
      | k + 1, hk => simp at hk
  | 6, h =>
    simp only [IsEx] at h
    obtain ⟨_, _, h3, g, cap, rfl, h4, _, hr⟩ := h
    have HR := hide hr
    clear hr
    have hcap := h4
    generalize hn : l.length = n at *
    have HN := hide hn
    clear hn
    go_enter Tryz.func192, Tryz.ntmps192
    go_wp2
    go_ret
    exact ⟨.slice (some ⟨g, 0, none⟩) n cap, rfl, .inr ⟨g, cap, by show _ = Value.slice _ l.length cap; rw [HN.out], by show l.length ≤ cap; rw [HN.out]; exact h4, by show l.length ≤ _; rw [HN.out]; exact h3, fun k x hx => HR.out k _ (by rw [List.getElem?_map, hx]; rfl)⟩, Below.refl _ _⟩
  | 7, h =>
    simp only [IsEx] at h
    obtain ⟨_, _, h3, g, cap, rfl, h4, _, hr⟩ := h
    have HR := hide hr
    clear hr
    have hcap := h4
    generalize hn : l.length = n at *
    have HN := hide hn
    clear hn
    go_enter Tryz.func192, Tryz.ntmps192
    go_wp2
    go_ret
    exact ⟨.slice (some ⟨g, 0, none⟩) n cap, rfl, .inr ⟨g, cap, by show _ = Value.slice _ l.length cap; rw [HN.out], by show l.length ≤ cap; rw [HN.out]; exact h4, by show l.length ≤ _; rw [HN.out]; exact h3, fun k x hx => HR.out k _ (by rw [List.getElem?_map, hx]; rfl)⟩, Below.refl _ _⟩
  | n + 8, h => simp only [IsEx] at h
end
end Go.Proofs.YtlgbihmncoeanaaGreatDoor
