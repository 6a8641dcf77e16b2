/-
  The walks of the statements' own pick, sameBools and sameInts. Plain facts: a latch, and its machine. The walk of the statements' own machined: a latch's machine.
-/
import Derived.Test.YtdmnikbhkpcdpaaGreatDoorKeMapAll
import Derived.Test.YtdmnikbhkpcdpaaGreatDoorKeReadAll
import Derived.Test.YtdmnikbhkpcdpaaGreatDoorMcD7All
import Derived.Test.YtdmnikbhkpcdpaaGreatDoorKeMade
namespace Go.Proofs.YtdmnikbhkpcdpaaGreatDoor
section
open Go.RowKit
set_option maxHeartbeats 2000000 in
set_option maxRecDepth 100000 in
theorem pick_any (x : Int) (I : Nat) (w : World) (h1 : 1 ≤ I) (h2 : I ≤ 100000) :
    Calls Tryz.prog 13 #[.int .i64 x, .int .i64 (I : Int)] w fun e w' => e = .returned (.int .i64 (x % 18446744073709551616 % (I : Int))) ∧ w' = w := by
  go_enter Tryz.func13, Tryz.ntmps13
  go_wp2_with fail
  refine bodyPost_ret (results_tmp rfl _ _ _) rfl ⟨?_, rfl⟩
  have e1 : IntKind.u64.wrap x = x % 18446744073709551616 := IntKind.wrap_u64 x
  have h3 : 0 ≤ x % 18446744073709551616 := Int.emod_nonneg _ (by decide)
  have h4 : 0 ≤ x % 18446744073709551616 % (I : Int) := Int.emod_nonneg _ (by omega)
  have h5 : x % 18446744073709551616 % (I : Int) < (I : Int) := Int.emod_lt_of_pos _ (by omega)
  have e2 : wrap64 (x % 18446744073709551616 % (I : Int)) = x % 18446744073709551616 % (I : Int) := by unfold wrap64; omega
  rw [e1, Int.tmod_eq_emod_of_nonneg h3, e2]
  rfl
theorem Bools.len {w : World} {v : Value} {l : List Bool} (h : Bools w v l) : l.length ≤ 1000000 := by obtain ⟨_, _, _, h, _⟩ := h; exact h
theorem Bools.slice {w : World} {v : Value} {l : List Bool} (h : Bools w v l) : ∃ a c, v = .slice a l.length c := by obtain ⟨a, c, h, _⟩ := h; exact ⟨a, c, h⟩
theorem Ints.cell {w : World} {a : Option Addr} {n c : Nat} {l : List Int} (h : Ints w (.slice a n c) l) (k : Nat) (x : Int) (hx : l[k]? = some x) : ∃ g o, a = some ⟨g, o, none⟩ ∧ w.cell? ⟨g, o + k, none⟩ = some (.int .i64 x) := by
  rcases h with ⟨h0, _⟩ | ⟨g, o, cap, h1, h2, h3⟩
  · rw [h0] at hx; simp at hx
  · simp only [Value.slice.injEq] at h1
    exact ⟨g, o, h1.1, (h3 k x hx).1⟩
/-- a row of numbers as a slice -/
theorem ints_row {W : World} {g : Nat} {l : List Int} (h : RowIs W g 3 (l.map fun x => .int .i64 x)) (hl : ∀ x, x ∈ l → I64 x) : Ints W (slV g l.length) l :=
  .inr ⟨g, 0, l.length, rfl, Nat.le_refl _, fun k x hx => ⟨by rw [Nat.zero_add]; exact h.cell k _ (by rw [List.getElem?_map, hx]; rfl), hl x (List.mem_of_getElem? hx)⟩⟩
set_option maxHeartbeats 2000000 in
set_option maxRecDepth 100000 in
theorem sameB_any (l : List Bool) (u v : Value) (w : World) (hu : Bools w u l) (hv : Bools w v l) :
    Calls Tryz.prog 15 #[u, v] w fun e w' => e = .returned (.bool true) ∧ Below w.heap.size w w' := by
  have HU := hide hu
  have HV := hide hv
  obtain ⟨n, hn⟩ : ∃ n, n = l.length := ⟨_, rfl⟩
  have HN := hide hn
  have hl6 := hu.len
  obtain ⟨ua, uc, rfl⟩ := hu.slice
  obtain ⟨va, vc, rfl⟩ := hv.slice
  rw [← hn] at HU HV hl6 ⊢
  clear hu hv hn
  go_enter Tryz.func15, Tryz.ntmps15
  go_wp2_with fail
  go_loopw [5] (fun i wr => ∃ k : Nat, k ≤ n ∧ i = .int .i64 (k : Int) ∧ Hid (Below w.heap.size w wr)) (fun i _ => n - (intOf i).toNat)
  case atStart => exact ⟨0, Nat.zero_le _, rfl, Below.refl _ _⟩
  case round =>
    obtain ⟨k, hk, rfl, HB⟩ := hrel
    by_cases hlt : k < n
    · have hkl : k < l.length := by rw [← HN.out]; exact hlt
      have hx := List.getElem?_eq_getElem hkl
      obtain ⟨a1, c1, e1, _, b1⟩ := HU.out.below HB.out
      obtain ⟨a2, c2, e2, _, b2⟩ := HV.out.below HB.out
      simp only [Value.slice.injEq] at e1 e2
      obtain ⟨g1, ga1, d1⟩ := b1 k _ hx
      obtain ⟨g2, ga2, d2⟩ := b2 k _ hx
      obtain ⟨e1, _, _⟩ := e1
      obtain ⟨e2, _, _⟩ := e2
      rw [ga1] at e1
      rw [ga2] at e2
      subst e1
      subst e2
      clear b1 b2 ga1 ga2
      generalize l[k] = x at *
      clear hx
      go_wp2_with fail
      go_quiet (fail)
      go_wp2_with fail
      go_roundw
      case rel => exact ⟨k + 1, by omega, by go_num, HB.out.trans ⟨rfl, rfl, rfl, Nat.le_refl _, fun _ _ => rfl⟩⟩
      case measure => simp [intOf]; omega
    · have hkn : k = n := by omega
      subst hkn
      go_wp2_with fail
      go_ret
      exact ⟨rfl, HB.out⟩
set_option maxHeartbeats 2000000 in
set_option maxRecDepth 100000 in
theorem sameI_any (l : List Int) (u v : Value) (w : World) (hu : Ints w u l) (hv : Ints w v l) (hl : l.length ≤ 1000000) :
    Calls Tryz.prog 36 #[u, v] w fun e w' => e = .returned (.bool true) ∧ Below w.heap.size w w' := by
  have HU := hide hu
  have HV := hide hv
  obtain ⟨n, hn⟩ : ∃ n, n = l.length := ⟨_, rfl⟩
  have HN := hide hn
  obtain ⟨ua, uc, rfl⟩ := hu.slice
  obtain ⟨va, vc, rfl⟩ := hv.slice
  rw [← hn] at HU HV hl ⊢
  clear hu hv hn
  go_enter Tryz.func36, Tryz.ntmps36
  go_wp2_with fail
  go_loopw [5] (fun i wr => ∃ k : Nat, k ≤ n ∧ i = .int .i64 (k : Int) ∧ Hid (Below w.heap.size w wr)) (fun i _ => n - (intOf i).toNat)
  case atStart => exact ⟨0, Nat.zero_le _, rfl, Below.refl _ _⟩
  case round =>
    obtain ⟨k, hk, rfl, HB⟩ := hrel
    by_cases hlt : k < n
    · have hkl : k < l.length := by rw [← HN.out]; exact hlt
      have hx := List.getElem?_eq_getElem hkl
      obtain ⟨g1, o1, e1, d1⟩ := (HU.out.below HB.out).cell k _ hx
      obtain ⟨g2, o2, e2, d2⟩ := (HV.out.below HB.out).cell k _ hx
      subst e1
      subst e2
      generalize l[k] = x at *
      clear hx
      go_wp2_with fail
      go_quiet (fail)
      go_wp2_with fail
      go_roundw
      case rel => exact ⟨k + 1, by omega, by go_num, HB.out.trans ⟨rfl, rfl, rfl, Nat.le_refl _, fun _ _ => rfl⟩⟩
      case measure => simp [intOf]; omega
    · have hkn : k = n := by omega
      subst hkn
      go_wp2_with fail
      go_ret
      exact ⟨rfl, HB.out⟩
end
section
theorem lit_q : (Ld.kindL Ld.lit.names 1).length = 1 := by decide
theorem lit_inputs : Ld.kindL Ld.lit.names 1 = [0] := by kernel_rfl
theorem lit_asked : Ld.asked Ld.lit = [] := by
  have h : Ld.litA.named false = [] := by simp [Ld.litA, Ex.named]
  show (([⟨2, [109], some Ld.litA⟩] : List Ld.Rng).map Ld.asksR).flatten = []
  simp [Ld.asksR, h]
theorem lit_edges : Ld.edges Ld.lit = [] := by
  unfold Ld.edges
  rw [lit_asked]
  rfl
theorem lit_parts : Mc.parts Ld.lit = [(1, false), (2, false)] := by
  have h0 : Mc.part Ld.lit 0 = (1, false) := by
    unfold Mc.part
    rw [lit_edges]
    rfl
  have h1 : Mc.part Ld.lit 1 = (2, false) := by
    unfold Mc.part
    rw [lit_edges]
    rfl
  show [Mc.part Ld.lit 0, Mc.part Ld.lit 1] = _
  rw [h0, h1]
theorem lit_total : Mc.total (Mc.parts Ld.lit) = 2 := by rw [lit_parts]; rfl
theorem lit_num0 : Ld.number Ld.lit.names [97] = 0 := by kernel_rfl
theorem lit_num1 : Ld.number Ld.lit.names [109] = 1 := by kernel_rfl
theorem lit_eval (i w : List UInt8 → Bool) : Ld.litA.eval i w = i [97] := by simp [Ld.litA, Ex.eval]
theorem lit_step (x y b : Bool) (c d : Int) : Sc.step Ld.lit ⟨[x, y], [c, d]⟩ [b] = ⟨[b, b || y], [c, d]⟩ := by
  have ht : Sc.told Ld.lit.names [b, y] [97] = b := by
    unfold Sc.told
    rw [lit_num0]
    simp
  unfold Sc.step
  rw [lit_inputs]
  show Sc.doRung Ld.lit.names [x, y] ⟨[b, y], [c, d]⟩ ⟨2, [109], some Ld.litA⟩ = _
  unfold Sc.doRung
  simp only [lit_num1, lit_eval, ht]
  cases b <;> cases y <;> rfl
theorem lit_after (s i : Nat) (y b : Bool) (hs : Mc.state [(1, false), (2, false)] s = ⟨[false, y], [0, 0]⟩) (hi : bitsTo i 1 = [b]) : Mc.number [(1, false), (2, false)] (Mc.after1 Ld.lit 1 s i).is (Mc.after1 Ld.lit 1 s i).ct = if b || y then 1 else 0 := by
  unfold Mc.after1
  rw [lit_parts, hs, hi, lit_step]
  cases b <;> cases y <;> rfl
theorem lit_next0 : Mc.nextRow Ld.lit 1 2 0 = [.int .i64 0, .int .i64 1] := by
  have h0 := lit_after 0 0 false false rfl (by kernel_rfl)
  have h1 := lit_after 0 1 false true rfl (by kernel_rfl)
  show [Value.int .i64 (Mc.number (Mc.parts Ld.lit) (Mc.after1 Ld.lit 1 0 0).is (Mc.after1 Ld.lit 1 0 0).ct : Int), Value.int .i64 (Mc.number (Mc.parts Ld.lit) (Mc.after1 Ld.lit 1 0 1).is (Mc.after1 Ld.lit 1 0 1).ct : Int)] = _
  rw [lit_parts, h0, h1]
  rfl
theorem lit_next1 : Mc.nextRow Ld.lit 1 2 1 = [.int .i64 1, .int .i64 1] := by
  have h0 := lit_after 1 0 true false rfl (by kernel_rfl)
  have h1 := lit_after 1 1 true true rfl (by kernel_rfl)
  show [Value.int .i64 (Mc.number (Mc.parts Ld.lit) (Mc.after1 Ld.lit 1 1 0).is (Mc.after1 Ld.lit 1 1 0).ct : Int), Value.int .i64 (Mc.number (Mc.parts Ld.lit) (Mc.after1 Ld.lit 1 1 1).is (Mc.after1 Ld.lit 1 1 1).ct : Int)] = _
  rw [lit_parts, h0, h1]
  rfl
end
section
open Go.RowKit
theorem i64_small (x : Int) (h : 0 ≤ x ∧ x ≤ 1000) : I64 x := ⟨by omega, by omega⟩
theorem lit_made (most : Nat) (h : 2 ≤ most) : madeP ⟨#[105, 110, 112, 117, 116, 32, 97, 10, 99, 111, 105, 108, 32, 109, 10, 115, 101, 116, 32, 109, 32, 61, 32, 97, 10]⟩ most = some Ld.lit := by
  have hr : readP ⟨#[105, 110, 112, 117, 116, 32, 97, 10, 99, 111, 105, 108, 32, 109, 10, 115, 101, 116, 32, 109, 32, 61, 32, 97, 10]⟩ = some Ld.lit := by
    rw [readP, if_neg (by decide)]
    show prgOf (Ld.parse [105, 110, 112, 117, 116, 32, 97, 10, 99, 111, 105, 108, 32, 109, 10, 115, 101, 116, 32, 109, 32, 61, 32, 97, 10]) = _
    rw [Ld.lit_parse]; rfl
  rw [madeP, hr, fewP]
  rw [if_pos ⟨by rw [lit_q]; decide, by rw [lit_total]; exact h⟩]
/-- the latch's machine in memory -/
def IsLatch (W : World) (bm : Nat) : Prop := IsMach W bm Ld.lit ∧ (W.cell? ⟨bm, 2, none⟩ = some (.int .i64 2) ∧ W.cell? ⟨bm, 3, none⟩ = some (.int .i64 2)) ∧ ∃ gN b0 b1, W.cell? ⟨bm, 4, none⟩ = some (.slice (some ⟨gN, 0, none⟩) 2 2) ∧ (W.cell? ⟨gN, 0, none⟩ = some (.slice (some ⟨b0, 0, none⟩) 2 2) ∧ W.cell? ⟨gN, 1, none⟩ = some (.slice (some ⟨b1, 0, none⟩) 2 2)) ∧ RowIs W b0 3 [.int .i64 0, .int .i64 1] ∧ RowIs W b1 3 [.int .i64 1, .int .i64 1]
theorem latch_of {W : World} {bm : Nat} (h : IsMach W bm Ld.lit) : IsLatch W bm := by
  have hm := h
  obtain ⟨nv, rv, g, gN, gS, lo, uN, uS, h1, ⟨⟨h2, _⟩, h3, _⟩, _⟩ := h
  rw [lit_q, lit_total] at h1 h3
  rw [lit_total] at h2
  obtain ⟨_, ⟨c2, c3⟩, c4, _⟩ := h1.cells
  obtain ⟨b0, e0⟩ : ∃ b, uN[0]? = some b := ⟨_, List.getElem?_eq_getElem (by omega)⟩
  obtain ⟨b1, e1⟩ : ∃ b, uN[1]? = some b := ⟨_, List.getElem?_eq_getElem (by omega)⟩
  have r0 := (h3.row 0 b0 e0).1
  have r1 := (h3.row 1 b1 e1).1
  rw [show (2 ^ 1 : Nat) = 2 from rfl] at r0 r1
  rw [lit_next0] at r0
  rw [lit_next1] at r1
  exact ⟨hm, ⟨c2, c3⟩, gN, b0, b1, c4, ⟨h3.cell 0 b0 e0, h3.cell 1 b1 e1⟩, r0, r1⟩
theorem ints_two {W : World} {b : Nat} {x y : Int} (h : RowIs W b 3 [.int .i64 x, .int .i64 y]) (hx : I64 x) (hy : I64 y) : Ints W (.slice (some ⟨b, 0, none⟩) 2 2) [x, y] :=
  ints_row (l := [x, y]) h (fun z hz => by
    simp only [List.mem_cons, List.not_mem_nil, or_false] at hz
    rcases hz with rfl | rfl
    · exact hx
    · exact hy)
set_option maxHeartbeats 4000000 in
set_option maxRecDepth 100000 in
theorem machined_any (w : World) (hL : Laid w) : Calls Tryz.prog 9 #[] w fun e w' => e = .returned (.bool true) ∧ Below w.heap.size w w' := by
  have HM := hide (kmade_any ⟨#[105, 110, 112, 117, 116, 32, 97, 10, 99, 111, 105, 108, 32, 109, 10, 115, 101, 116, 32, 109, 32, 61, 32, 97, 10]⟩ 9 w (by decide) hL (by omega))
  rw [lit_made 9 (by omega)] at HM
  clear hL
  go_enter Tryz.func9, Tryz.ntmps9
  go_wp2_with fail
  refine HM.out.mono ?_
  rintro e w1 ⟨hb1, bm, rfl, hbm, hmach, _⟩
  obtain ⟨_, ⟨c2, c3⟩, gN, b0, b1, c4, ⟨d0, d1⟩, hr0, hr1⟩ := latch_of hmach
  have HB1 := hide hb1
  have HR1 := hide hr1
  have hbl := hmach.lt
  obtain ⟨w2, hw2⟩ : ∃ w2, w2 = w1.alloc (.cells #[.int .i64 0, .int .i64 1] 3) := ⟨_, rfl⟩
  have hb2 : Below w1.heap.size w1 w2 := by rw [hw2]; exact (Below.refl _ _).alloc (Nat.le_refl _) _
  have HS1 := hide (sameI_any [0, 1] _ _ w2 (ints_two (hr0.below hb2) (i64_small _ (by decide)) (i64_small _ (by decide))) (ints_two (b := w1.heap.size) (by rw [hw2]; exact RowIs.new w1 3 [.int .i64 0, .int .i64 1]) (i64_small _ (by decide)) (i64_small _ (by decide))) (by decide))
  have HW2 := hide hw2
  have HB2 := hide hb2
  rw [hw2] at HS1
  clear hw2 hb2 hb1 hmach hr0 hr1 HM
  go_wp2_with fail
  refine HS1.out.mono ?_
  rintro e w3 ⟨rfl, hb3⟩
  rw [← HW2.out] at hb3
  have hb13 : Below w1.heap.size w1 w3 := HB2.out.trans (hb3.mono HB2.out.size)
  have key : ∀ (p : Addr) v, w1.cell? p = some v → w3.cell? p = some v := fun p v hv => (hb13.cell (World.block_lt_of_cell? _ _ hv)).trans hv
  have k4 := key _ _ c4
  have k1 := key _ _ d1
  have HB3 := hide (HB1.out.trans (hb13.mono HB1.out.size))
  obtain ⟨w4, hw4⟩ : ∃ w4, w4 = w3.alloc (.cells #[.int .i64 1, .int .i64 1] 3) := ⟨_, rfl⟩
  have hb4 : Below w3.heap.size w3 w4 := by rw [hw4]; exact (Below.refl _ _).alloc (Nat.le_refl _) _
  have HS2 := hide (sameI_any [1, 1] _ _ w4 (ints_two ((HR1.out.below hb13).below hb4) (i64_small _ (by decide)) (i64_small _ (by decide))) (ints_two (b := w3.heap.size) (by rw [hw4]; exact RowIs.new w3 3 [.int .i64 1, .int .i64 1]) (i64_small _ (by decide)) (i64_small _ (by decide))) (by decide))
  have HB4 := hide (HB3.out.trans (hb4.mono HB3.out.size))
  rw [hw4] at HS2 HB4
  clear hb3 hb13 key c4 d0 d1 c2 c3 hw4 hb4 HS1
  go_wp2_with fail
  refine HS2.out.mono ?_
  rintro e w5 ⟨rfl, hb5⟩
  have HB5 := hide (HB4.out.trans (hb5.mono HB4.out.size))
  clear hb5 HS2
  go_wp2_with fail
  go_ret
  exact ⟨rfl, HB5.out⟩
end
end Go.Proofs.YtdmnikbhkpcdpaaGreatDoor
