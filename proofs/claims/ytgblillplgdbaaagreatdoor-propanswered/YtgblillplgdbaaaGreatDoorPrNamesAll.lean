/-
  The walks of the statements' own pick and sameInts. Plain facts: a latch, and its machine. A latch, its machine in memory, and small rows of numbers. The walks of package prop's told, of the statements' own at, and of their closures. The walk of package prop's hasNames.
-/
import Derived.Test.YtgblillplgdbaaaGreatDoorKeMadeAll
import Derived.Test.YtgblillplgdbaaaGreatDoorMcCopiedAll
import Derived.Test.YtgblillplgdbaaaGreatDoorMcD7All
import Derived.Test.YtgblillplgdbaaaGreatDoorScStepAll
import Derived.Test.YtgblillplgdbaaaGreatDoorLdCheckAll
import Derived.Test.YtgblillplgdbaaaGreatDoorLdReads
namespace Go.Proofs.YtgblillplgdbaaaGreatDoor
section
open Go.RowKit
set_option maxHeartbeats 2000000 in
set_option maxRecDepth 100000 in
theorem pick_any (x : Int) (I : Nat) (w : World) (h1 : 1 ≤ I) (h2 : I ≤ 100000) :
    Calls Tryz.prog 10 #[.int .i64 x, .int .i64 (I : Int)] w fun e w' => e = .returned (.int .i64 (x % 18446744073709551616 % (I : Int))) ∧ w' = w := by
  go_enter Tryz.func10, Tryz.ntmps10
  go_wp2_with fail
  refine bodyPost_ret (results_tmp rfl _ _ _) rfl ⟨?_, rfl⟩
  have e1 : IntKind.u64.wrap x = x % 18446744073709551616 := IntKind.wrap_u64 x
  have h3 : 0 ≤ x % 18446744073709551616 := Int.emod_nonneg _ (by decide)
  have h4 : 0 ≤ x % 18446744073709551616 % (I : Int) := Int.emod_nonneg _ (by omega)
  have h5 : x % 18446744073709551616 % (I : Int) < (I : Int) := Int.emod_lt_of_pos _ (by omega)
  have e2 : wrap64 (x % 18446744073709551616 % (I : Int)) = x % 18446744073709551616 % (I : Int) := by unfold wrap64; omega
  rw [e1, Int.tmod_eq_emod_of_nonneg h3, e2]
  rfl
theorem Bools.len {w : World} {v : Value} {l : List Bool} (h : Bools w v l) : l.length ≤ 1000000 := by obtain ⟨_, _, _, h, _⟩ := h; exact h
theorem Bools.slice {w : World} {v : Value} {l : List Bool} (h : Bools w v l) : ∃ a c, v = .slice a l.length c := by obtain ⟨a, c, h, _⟩ := h; exact ⟨a, c, h⟩
theorem Ints.cell {w : World} {a : Option Addr} {n c : Nat} {l : List Int} (h : Ints w (.slice a n c) l) (k : Nat) (x : Int) (hx : l[k]? = some x) : ∃ g o, a = some ⟨g, o, none⟩ ∧ w.cell? ⟨g, o + k, none⟩ = some (.int .i64 x) := by
  rcases h with ⟨h0, _⟩ | ⟨g, o, cap, h1, h2, h3⟩
  · rw [h0] at hx; simp at hx
  · simp only [Value.slice.injEq] at h1
    exact ⟨g, o, h1.1, (h3 k x hx).1⟩
/-- a row of numbers as a slice -/
theorem ints_row {W : World} {g : Nat} {l : List Int} (h : RowIs W g 3 (l.map fun x => .int .i64 x)) (hl : ∀ x, x ∈ l → I64 x) : Ints W (slV g l.length) l :=
  .inr ⟨g, 0, l.length, rfl, Nat.le_refl _, fun k x hx => ⟨by rw [Nat.zero_add]; exact h.cell k _ (by rw [List.getElem?_map, hx]; rfl), hl x (List.mem_of_getElem? hx)⟩⟩
set_option maxHeartbeats 2000000 in
set_option maxRecDepth 100000 in
theorem sameI_any (l : List Int) (u v : Value) (w : World) (hu : Ints w u l) (hv : Ints w v l) (hl : l.length ≤ 1000000) :
    Calls Tryz.prog 20 #[u, v] w fun e w' => e = .returned (.bool true) ∧ Below w.heap.size w w' := by
  have HU := hide hu
  have HV := hide hv
  obtain ⟨n, hn⟩ : ∃ n, n = l.length := ⟨_, rfl⟩
  have HN := hide hn
  obtain ⟨ua, uc, rfl⟩ := hu.slice
  obtain ⟨va, vc, rfl⟩ := hv.slice
  rw [← hn] at HU HV hl ⊢
  clear hu hv hn
  go_enter Tryz.func20, Tryz.ntmps20
  go_wp2_with fail
  go_loopw [5] (fun i wr => ∃ k : Nat, k ≤ n ∧ i = .int .i64 (k : Int) ∧ Hid (Below w.heap.size w wr)) (fun i _ => n - (intOf i).toNat)
  case atStart => exact ⟨0, Nat.zero_le _, rfl, Below.refl _ _⟩
  case round =>
    obtain ⟨k, hk, rfl, HB⟩ := hrel
    by_cases hlt : k < n
    · have hkl : k < l.length := by rw [← HN.out]; exact hlt
      have hx := List.getElem?_eq_getElem hkl
      obtain ⟨g1, o1, e1, d1⟩ := (HU.out.below HB.out).cell k _ hx
      obtain ⟨g2, o2, e2, d2⟩ := (HV.out.below HB.out).cell k _ hx
      subst e1
      subst e2
      generalize l[k] = x at *
      clear hx
      go_wp2_with fail
      go_quiet (fail)
      go_wp2_with fail
      go_roundw
      case rel => exact ⟨k + 1, by omega, by go_num, HB.out.trans ⟨rfl, rfl, rfl, Nat.le_refl _, fun _ _ => rfl⟩⟩
      case measure => simp [intOf]; omega
    · have hkn : k = n := by omega
      subst hkn
      go_wp2_with fail
      go_ret
      exact ⟨rfl, HB.out⟩
end
section
theorem lit_q : (Ld.kindL Ld.lit.names 1).length = 1 := by decide
theorem lit_inputs : Ld.kindL Ld.lit.names 1 = [0] := by kernel_rfl
theorem lit_asked : Ld.asked Ld.lit = [] := by
  have h : Ld.litA.named false = [] := by simp [Ld.litA, Ex.named]
  show (([⟨2, [109], some Ld.litA⟩] : List Ld.Rng).map Ld.asksR).flatten = []
  simp [Ld.asksR, h]
theorem lit_edges : Ld.edges Ld.lit = [] := by
  unfold Ld.edges
  rw [lit_asked]
  rfl
theorem lit_parts : Mc.parts Ld.lit = [(1, false), (2, false)] := by
  have h0 : Mc.part Ld.lit 0 = (1, false) := by
    unfold Mc.part
    rw [lit_edges]
    rfl
  have h1 : Mc.part Ld.lit 1 = (2, false) := by
    unfold Mc.part
    rw [lit_edges]
    rfl
  show [Mc.part Ld.lit 0, Mc.part Ld.lit 1] = _
  rw [h0, h1]
theorem lit_total : Mc.total (Mc.parts Ld.lit) = 2 := by rw [lit_parts]; rfl
theorem lit_num0 : Ld.number Ld.lit.names [97] = 0 := by kernel_rfl
theorem lit_num1 : Ld.number Ld.lit.names [109] = 1 := by kernel_rfl
theorem lit_eval (i w : List UInt8 → Bool) : Ld.litA.eval i w = i [97] := by simp [Ld.litA, Ex.eval]
theorem lit_step (x y b : Bool) (c d : Int) : Sc.step Ld.lit ⟨[x, y], [c, d]⟩ [b] = ⟨[b, b || y], [c, d]⟩ := by
  have ht : Sc.told Ld.lit.names [b, y] [97] = b := by
    unfold Sc.told
    rw [lit_num0]
    simp
  unfold Sc.step
  rw [lit_inputs]
  show Sc.doRung Ld.lit.names [x, y] ⟨[b, y], [c, d]⟩ ⟨2, [109], some Ld.litA⟩ = _
  unfold Sc.doRung
  simp only [lit_num1, lit_eval, ht]
  cases b <;> cases y <;> rfl
theorem lit_after (s i : Nat) (y b : Bool) (hs : Mc.state [(1, false), (2, false)] s = ⟨[false, y], [0, 0]⟩) (hi : bitsTo i 1 = [b]) : Mc.number [(1, false), (2, false)] (Mc.after1 Ld.lit 1 s i).is (Mc.after1 Ld.lit 1 s i).ct = if b || y then 1 else 0 := by
  unfold Mc.after1
  rw [lit_parts, hs, hi, lit_step]
  cases b <;> cases y <;> rfl
theorem lit_next0 : Mc.nextRow Ld.lit 1 2 0 = [.int .i64 0, .int .i64 1] := by
  have h0 := lit_after 0 0 false false rfl (by kernel_rfl)
  have h1 := lit_after 0 1 false true rfl (by kernel_rfl)
  show [Value.int .i64 (Mc.number (Mc.parts Ld.lit) (Mc.after1 Ld.lit 1 0 0).is (Mc.after1 Ld.lit 1 0 0).ct : Int), Value.int .i64 (Mc.number (Mc.parts Ld.lit) (Mc.after1 Ld.lit 1 0 1).is (Mc.after1 Ld.lit 1 0 1).ct : Int)] = _
  rw [lit_parts, h0, h1]
  rfl
theorem lit_next1 : Mc.nextRow Ld.lit 1 2 1 = [.int .i64 1, .int .i64 1] := by
  have h0 := lit_after 1 0 true false rfl (by kernel_rfl)
  have h1 := lit_after 1 1 true true rfl (by kernel_rfl)
  show [Value.int .i64 (Mc.number (Mc.parts Ld.lit) (Mc.after1 Ld.lit 1 1 0).is (Mc.after1 Ld.lit 1 1 0).ct : Int), Value.int .i64 (Mc.number (Mc.parts Ld.lit) (Mc.after1 Ld.lit 1 1 1).is (Mc.after1 Ld.lit 1 1 1).ct : Int)] = _
  rw [lit_parts, h0, h1]
  rfl
end
section
open Go.RowKit
theorem i64_small (x : Int) (h : 0 ≤ x ∧ x ≤ 1000) : I64 x := ⟨by omega, by omega⟩
theorem lit_made (most : Nat) (h : 2 ≤ most) : madeP ⟨#[105, 110, 112, 117, 116, 32, 97, 10, 99, 111, 105, 108, 32, 109, 10, 115, 101, 116, 32, 109, 32, 61, 32, 97, 10]⟩ most = some Ld.lit := by
  have hr : readP ⟨#[105, 110, 112, 117, 116, 32, 97, 10, 99, 111, 105, 108, 32, 109, 10, 115, 101, 116, 32, 109, 32, 61, 32, 97, 10]⟩ = some Ld.lit := by
    rw [readP, if_neg (by decide)]
    show prgOf (Ld.parse [105, 110, 112, 117, 116, 32, 97, 10, 99, 111, 105, 108, 32, 109, 10, 115, 101, 116, 32, 109, 32, 61, 32, 97, 10]) = _
    rw [Ld.lit_parse]; rfl
  rw [madeP, hr, fewP]
  rw [if_pos ⟨by rw [lit_q]; decide, by rw [lit_total]; exact h⟩]
/-- the latch's machine in memory -/
def IsLatch (W : World) (bm : Nat) : Prop := IsMach W bm Ld.lit ∧ (W.cell? ⟨bm, 2, none⟩ = some (.int .i64 2) ∧ W.cell? ⟨bm, 3, none⟩ = some (.int .i64 2)) ∧ ∃ gN b0 b1, W.cell? ⟨bm, 4, none⟩ = some (.slice (some ⟨gN, 0, none⟩) 2 2) ∧ (W.cell? ⟨gN, 0, none⟩ = some (.slice (some ⟨b0, 0, none⟩) 2 2) ∧ W.cell? ⟨gN, 1, none⟩ = some (.slice (some ⟨b1, 0, none⟩) 2 2)) ∧ RowIs W b0 3 [.int .i64 0, .int .i64 1] ∧ RowIs W b1 3 [.int .i64 1, .int .i64 1]
theorem latch_of {W : World} {bm : Nat} (h : IsMach W bm Ld.lit) : IsLatch W bm := by
  have hm := h
  obtain ⟨nv, rv, g, gN, gS, lo, uN, uS, h1, ⟨⟨h2, _⟩, h3, _⟩, _⟩ := h
  rw [lit_q, lit_total] at h1 h3
  rw [lit_total] at h2
  obtain ⟨_, ⟨c2, c3⟩, c4, _⟩ := h1.cells
  obtain ⟨b0, e0⟩ : ∃ b, uN[0]? = some b := ⟨_, List.getElem?_eq_getElem (by omega)⟩
  obtain ⟨b1, e1⟩ : ∃ b, uN[1]? = some b := ⟨_, List.getElem?_eq_getElem (by omega)⟩
  have r0 := (h3.row 0 b0 e0).1
  have r1 := (h3.row 1 b1 e1).1
  rw [show (2 ^ 1 : Nat) = 2 from rfl] at r0 r1
  rw [lit_next0] at r0
  rw [lit_next1] at r1
  exact ⟨hm, ⟨c2, c3⟩, gN, b0, b1, c4, ⟨h3.cell 0 b0 e0, h3.cell 1 b1 e1⟩, r0, r1⟩
theorem ints_two {W : World} {b : Nat} {x y : Int} (h : RowIs W b 3 [.int .i64 x, .int .i64 y]) (hx : I64 x) (hy : I64 y) : Ints W (.slice (some ⟨b, 0, none⟩) 2 2) [x, y] :=
  ints_row (l := [x, y]) h (fun z hz => by
    simp only [List.mem_cons, List.not_mem_nil, or_false] at hz
    rcases hz with rfl | rfl
    · exact hx
    · exact hy)
theorem ints_one {W : World} {b : Nat} {x : Int} (h : RowIs W b 3 [.int .i64 x]) (hx : I64 x) : Ints W (.slice (some ⟨b, 0, none⟩) 1 1) [x] :=
  ints_row (l := [x]) h (fun z hz => by
    simp only [List.mem_cons, List.not_mem_nil, or_false] at hz
    subst hz; exact hx)
end
section
open Go.RowKit
theorem ptold_any (nv rv lv : Value) (w : World) (hn : ∃ a n c, nv = .slice a n c) (hr : ∃ a n c, rv = .slice a n c) (hl : ∃ a n c, lv = .slice a n c) :
    Calls Tryz.prog 50 #[.agg #[nv, rv], lv] w fun e w' => e = .returned (.func (.func 75) #[] #[.pointer (some ⟨w.heap.size, 0, none⟩), .pointer (some ⟨w.heap.size + 1, 0, none⟩)]) ∧ w' = (w.alloc (.cells #[nv, rv] 40)).alloc (.cells #[lv] 35) := by
  have hmf : ∀ (fn : Fn) (first cap : Array Value) (w : World), (Instr.makeFunc fn first cap).run Tryz.prog w = .ok (.func fn first cap) w := fun _ _ _ _ => rfl
  obtain ⟨a1, n1, c1, rfl⟩ := hn
  obtain ⟨a2, n2, c2, rfl⟩ := hr
  obtain ⟨a3, n3, c3, rfl⟩ := hl
  go_enter Tryz.func50, Tryz.ntmps50
  go_wp2_with fail
  go_ret
  exact ⟨rfl, rfl⟩
set_option maxHeartbeats 2000000 in
set_option maxRecDepth 100000 in
theorem ptold1_any (ns : List Ld.Nme) (nv rv : Value) (is : List Bool) (gi a b : Nat) (nm : List UInt8) (w : World) (hn : NamesAt w nv ns) (hr : ∃ a n c, rv = .slice a n c) (hlen : is.length = ns.length)
    (h0 : w.cell? ⟨a, 0, none⟩ = some nv) (h1 : w.cell? ⟨a, 1, none⟩ = some rv) (h2 : w.cell? ⟨b, 0, none⟩ = some (.slice (some ⟨gi, 0, none⟩) is.length is.length)) (hi : w.heap[gi]? = some (.cells ⟨is.map boolV⟩ 4 (0, 0))) :
    Calls Tryz.prog 75 #[.string ⟨nm.toArray⟩, .pointer (some ⟨a, 0, none⟩), .pointer (some ⟨b, 0, none⟩)] w fun e w' => e = .returned (.bool (Sc.told ns is nm)) ∧ Below w.heap.size w w' := by
  obtain ⟨ra, rn, rc, rfl⟩ := hr
  have HNU := hide (Number_any ns nv (.slice ra rn rc) nm w hn ⟨_, _, _, rfl⟩)
  obtain ⟨na, nc, rfl, hn1⟩ := hn.slice
  have hlo := Ld.number_lt ns nm
  have hge := Ld.number_ge ns nm
  have HT : Hid (Sc.told ns is nm = (decide (0 ≤ Ld.number ns nm) && is.getD (Ld.number ns nm).toNat false)) := rfl
  have ha : a < w.heap.size := World.block_lt_of_cell? _ _ h0
  have hb : b < w.heap.size := World.block_lt_of_cell? _ _ h2
  have hg : gi < w.heap.size := (Array.getElem?_eq_some_iff.1 hi).1
  have HI := hide hi
  have H2 := hide h2
  generalize Sc.told ns is nm = T at *
  generalize Ld.number ns nm = u at *
  rw [hlen] at H2 h2
  generalize ns.length = m at *
  clear hi hn
  go_enter Tryz.func75, Tryz.ntmps75
  go_wp2_with fail
  refine HNU.out.mono ?_
  rintro e w1 ⟨rfl, hb1⟩
  have HB1 := hide hb1
  have k2 := (hb1.cell (p := ⟨b, 0, none⟩) hb).trans H2.out
  by_cases hu : 0 ≤ u
  · obtain ⟨j, rfl⟩ : ∃ j : Nat, u = (j : Int) := ⟨u.toNat, by omega⟩
    have hj : j < m := by omega
    have k3 : w1.cell? ⟨gi, j, none⟩ = some (.bool (is.getD j false)) := by
      rw [hb1.cell (p := ⟨gi, j, none⟩) hg, Lib.cell_of_heap HI.out]
      simp [boolV, hlen, hj]
    simp only [Int.toNat_natCast] at HT
    generalize is.getD j false = bv at *
    clear hb1 HNU
    go_wp2_with fail
    go_ret
    exact ⟨ret_bool (by rw [HT.out]; simp), HB1.out⟩
  · clear hb1 HNU
    have HD : Hid (decide (0 ≤ u) = false) := by show _ = _; simpa using hu
    go_wp2_with fail
    go_ret
    exact ⟨ret_bool (by rw [HT.out, HD.out]; rfl), HB1.out⟩
/-- the closure that told makes, asked later -/
theorem ptells_told (ns : List Ld.Nme) (nv rv : Value) (is : List Bool) (gi a b : Nat) (w : World) (hn : NamesAt w nv ns) (hr : ∃ a n c, rv = .slice a n c) (hlen : is.length = ns.length)
    (h0 : w.cell? ⟨a, 0, none⟩ = some nv) (h1 : w.cell? ⟨a, 1, none⟩ = some rv) (h2 : w.cell? ⟨b, 0, none⟩ = some (.slice (some ⟨gi, 0, none⟩) is.length is.length)) (hi : w.heap[gi]? = some (.cells ⟨is.map boolV⟩ 4 (0, 0))) :
    E2.Tells (.func (.func 75) #[] #[.pointer (some ⟨a, 0, none⟩), .pointer (some ⟨b, 0, none⟩)]) (Sc.told ns is) w :=
  ⟨75, _, _, rfl, fun _ _ => by kernel_rfl, fun W hW nm => ptold1_any ns nv rv is gi a b nm W (hn.below hW) hr hlen ((hW.cell (p := ⟨a, 0, none⟩) (World.block_lt_of_cell? _ _ h0)).trans h0) ((hW.cell (p := ⟨a, 1, none⟩) (World.block_lt_of_cell? _ _ h1)).trans h1) ((hW.cell (p := ⟨b, 0, none⟩) (World.block_lt_of_cell? _ _ h2)).trans h2) ((hW.block _ (Array.getElem?_eq_some_iff.1 hi).1).trans hi)⟩
theorem ktold_any (nv rv lv : Value) (w : World) (hn : ∃ a n c, nv = .slice a n c) (hr : ∃ a n c, rv = .slice a n c) (hl : ∃ a n c, lv = .slice a n c) :
    Calls Tryz.prog 13 #[.agg #[nv, rv], lv] w fun e w' => e = .returned (.func (.func 32) #[] #[.pointer (some ⟨w.heap.size, 0, none⟩), .pointer (some ⟨w.heap.size + 1, 0, none⟩)]) ∧ w' = (w.alloc (.cells #[nv, rv] 40)).alloc (.cells #[lv] 35) := by
  have hmf : ∀ (fn : Fn) (first cap : Array Value) (w : World), (Instr.makeFunc fn first cap).run Tryz.prog w = .ok (.func fn first cap) w := fun _ _ _ _ => rfl
  obtain ⟨a1, n1, c1, rfl⟩ := hn
  obtain ⟨a2, n2, c2, rfl⟩ := hr
  obtain ⟨a3, n3, c3, rfl⟩ := hl
  go_enter Tryz.func13, Tryz.ntmps13
  go_wp2_with fail
  go_ret
  exact ⟨rfl, rfl⟩
set_option maxHeartbeats 2000000 in
set_option maxRecDepth 100000 in
theorem ktold1_any (ns : List Ld.Nme) (nv rv : Value) (is : List Bool) (gi a b : Nat) (nm : List UInt8) (w : World) (hn : NamesAt w nv ns) (hr : ∃ a n c, rv = .slice a n c) (hlen : is.length = ns.length)
    (h0 : w.cell? ⟨a, 0, none⟩ = some nv) (h1 : w.cell? ⟨a, 1, none⟩ = some rv) (h2 : w.cell? ⟨b, 0, none⟩ = some (.slice (some ⟨gi, 0, none⟩) is.length is.length)) (hi : w.heap[gi]? = some (.cells ⟨is.map boolV⟩ 4 (0, 0))) :
    Calls Tryz.prog 32 #[.string ⟨nm.toArray⟩, .pointer (some ⟨a, 0, none⟩), .pointer (some ⟨b, 0, none⟩)] w fun e w' => e = .returned (.bool (Sc.told ns is nm)) ∧ Below w.heap.size w w' := by
  obtain ⟨ra, rn, rc, rfl⟩ := hr
  have HNU := hide (Number_any ns nv (.slice ra rn rc) nm w hn ⟨_, _, _, rfl⟩)
  obtain ⟨na, nc, rfl, hn1⟩ := hn.slice
  have hlo := Ld.number_lt ns nm
  have hge := Ld.number_ge ns nm
  have HT : Hid (Sc.told ns is nm = (decide (0 ≤ Ld.number ns nm) && is.getD (Ld.number ns nm).toNat false)) := rfl
  have ha : a < w.heap.size := World.block_lt_of_cell? _ _ h0
  have hb : b < w.heap.size := World.block_lt_of_cell? _ _ h2
  have hg : gi < w.heap.size := (Array.getElem?_eq_some_iff.1 hi).1
  have HI := hide hi
  have H2 := hide h2
  generalize Sc.told ns is nm = T at *
  generalize Ld.number ns nm = u at *
  rw [hlen] at H2 h2
  generalize ns.length = m at *
  clear hi hn
  go_enter Tryz.func32, Tryz.ntmps32
  go_wp2_with fail
  refine HNU.out.mono ?_
  rintro e w1 ⟨rfl, hb1⟩
  have HB1 := hide hb1
  have k2 := (hb1.cell (p := ⟨b, 0, none⟩) hb).trans H2.out
  by_cases hu : 0 ≤ u
  · obtain ⟨j, rfl⟩ : ∃ j : Nat, u = (j : Int) := ⟨u.toNat, by omega⟩
    have hj : j < m := by omega
    have k3 : w1.cell? ⟨gi, j, none⟩ = some (.bool (is.getD j false)) := by
      rw [hb1.cell (p := ⟨gi, j, none⟩) hg, Lib.cell_of_heap HI.out]
      simp [boolV, hlen, hj]
    simp only [Int.toNat_natCast] at HT
    generalize is.getD j false = bv at *
    clear hb1 HNU
    go_wp2_with fail
    go_ret
    exact ⟨ret_bool (by rw [HT.out]; simp), HB1.out⟩
  · clear hb1 HNU
    have HD : Hid (decide (0 ≤ u) = false) := by show _ = _; simpa using hu
    go_wp2_with fail
    go_ret
    exact ⟨ret_bool (by rw [HT.out, HD.out]; rfl), HB1.out⟩
/-- the closure that told makes, asked later -/
theorem ktells_told (ns : List Ld.Nme) (nv rv : Value) (is : List Bool) (gi a b : Nat) (w : World) (hn : NamesAt w nv ns) (hr : ∃ a n c, rv = .slice a n c) (hlen : is.length = ns.length)
    (h0 : w.cell? ⟨a, 0, none⟩ = some nv) (h1 : w.cell? ⟨a, 1, none⟩ = some rv) (h2 : w.cell? ⟨b, 0, none⟩ = some (.slice (some ⟨gi, 0, none⟩) is.length is.length)) (hi : w.heap[gi]? = some (.cells ⟨is.map boolV⟩ 4 (0, 0))) :
    E2.Tells (.func (.func 32) #[] #[.pointer (some ⟨a, 0, none⟩), .pointer (some ⟨b, 0, none⟩)]) (Sc.told ns is) w :=
  ⟨32, _, _, rfl, fun _ _ => by kernel_rfl, fun W hW nm => ktold1_any ns nv rv is gi a b nm W (hn.below hW) hr hlen ((hW.cell (p := ⟨a, 0, none⟩) (World.block_lt_of_cell? _ _ h0)).trans h0) ((hW.cell (p := ⟨a, 1, none⟩) (World.block_lt_of_cell? _ _ h1)).trans h1) ((hW.cell (p := ⟨b, 0, none⟩) (World.block_lt_of_cell? _ _ h2)).trans h2) ((hW.block _ (Array.getElem?_eq_some_iff.1 hi).1).trans hi)⟩
end
section
open Go.RowKit
namespace Pr
/-- each name of an expression is one of the program's -/
def has (ns : List Ld.Nme) (x : Ex) : Bool := (ordered (x.named true)).all fun s => decide (0 ≤ Ld.number ns s)
end Pr
set_option maxHeartbeats 2000000 in
set_option maxRecDepth 100000 in
theorem hasNames_any (ok : Nat → Prop) (ns : List Ld.Nme) (nv rv : Value) (x : Ex) (v : Value) (w : World) (hn : NamesAt w nv ns) (hr : ∃ a n c, rv = .slice a n c) (h : IsEx ok w x v) (hlen : x.size ≤ 1000000) :
    Calls Tryz.prog 49 #[.agg #[nv, rv], v] w fun e w' => e = .returned (.bool (Pr.has ns x)) ∧ Below w.heap.size w w' := by
  obtain ⟨tu, yu, rfl⟩ := IsEx.iface x v h
  have HN := hide hn
  have hr2 := hr
  obtain ⟨ra, rn, rc, rfl⟩ := hr
  obtain ⟨w1, hw1⟩ : ∃ w1, w1 = w.alloc (.cells #[nv, .slice ra rn rc] 40) := ⟨_, rfl⟩
  have hb1 : Below w.heap.size w w1 := by rw [hw1]; exact (Below.refl _ _).alloc (Nat.le_refl _) _
  have hB : w1.heap[w.heap.size]? = some (.cells #[nv, .slice ra rn rc] 40 (0, 0)) := by rw [hw1]; exact heap_alloc_new _ _
  have HB := hide hB
  have HNM := hide (Names_any (fun _ => True) x _ w1 (IsEx.stay (Stay.below hb1) (fun g _ => trivial) x _ h) hlen)
  have hz1 : w1.heap.size = w.heap.size + 1 := by rw [hw1]; simp
  rw [hw1] at HNM
  have HW1 := hide hw1
  have HB1 := hide hb1
  obtain ⟨L, hL⟩ : ∃ L, L = ordered (x.named true) := ⟨_, rfl⟩
  have HAS : Hid (Pr.has ns x = L.all fun s => decide (0 ≤ Ld.number ns s)) := by show _ = _; rw [hL]; rfl
  rw [← hL] at HNM
  obtain ⟨na, nc, rfl, _⟩ := hn.slice
  clear hw1 hb1 hB hn h hL
  go_enter Tryz.func49, Tryz.ntmps49
  go_wp2_with fail
  refine HNM.out.mono ?_
  rintro e w2 ⟨sv, rfl, hs, hb2⟩
  rw [← HW1.out] at hb2
  have HS := hide hs
  have HB2 := hide hb2
  have HBW := hide (HB1.out.trans (hb2.mono HB1.out.size))
  obtain ⟨sa, sc, rfl⟩ : ∃ a c, sv = .slice a L.length c := by
    rcases hs.at with ⟨rfl, a, c, rfl⟩ | ⟨g, o, c, rfl, _⟩
    · exact ⟨_, _, rfl⟩
    · exact ⟨_, _, rfl⟩
  have hLl : L.length ≤ 1000000 := by
    rcases hs.at with ⟨rfl, _⟩ | ⟨g, o, c, _, _, h3, _⟩
    · simp
    · exact h3
  clear hs hb2 HNM
  go_wp2_with fail
  go_loopw [10] (fun i wr => ∃ j : Nat, j ≤ L.length ∧ i = .int .i64 (j : Int) ∧ Hid ((L.take j).all (fun s => decide (0 ≤ Ld.number ns s)) = true) ∧ Hid (Below w2.heap.size w2 wr)) (fun i _ => L.length - (intOf i).toNat)
  case atStart => exact ⟨0, Nat.zero_le _, rfl, rfl, Below.refl _ _⟩
  case round =>
    obtain ⟨j, hj, rfl, HT, HBR⟩ := hrel
    have hbw : Below w.heap.size w wr := HBW.out.trans (HBR.out.mono HBW.out.size)
    by_cases hlt : j < L.length
    · have hje := List.getElem?_eq_getElem hlt
      have HTS : Hid ((L.take (j + 1)).all (fun s => decide (0 ≤ Ld.number ns s)) = ((L.take j).all (fun s => decide (0 ≤ Ld.number ns s)) && decide (0 ≤ Ld.number ns L[j]))) := by
        show _ = _
        rw [List.take_succ_eq_append_getElem hlt, List.all_append]
        simp
      have HMN : Hid (Ld.number ns L[j] < 0 → (L.all fun s => decide (0 ≤ Ld.number ns s)) = false) := fun hneg => by
        rw [List.all_eq_false]
        exact ⟨L[j], List.getElem_mem hlt, by simp; omega⟩
      generalize L[j] = nm at *
      obtain ⟨g, o, rfl, hcell⟩ : ∃ g o, sa = some ⟨g, o, none⟩ ∧ wr.cell? ⟨g, o + j, none⟩ = some (.string ⟨nm.toArray⟩) := by
        rcases HS.out with ⟨h0, _⟩ | ⟨g, o, c, h1, _, _, h4⟩
        · have : L = [] := by simpa using h0
          rw [this] at hlt; simp at hlt
        · simp only [Value.slice.injEq] at h1
          have h5 := h4 j (toBA nm) (by rw [List.getElem?_map, hje]; rfl)
          exact ⟨g, o, h1.1, (HBR.out.cell (World.block_lt_of_cell? _ _ h5)).trans h5⟩
      have hcap : L.length ≤ sc := by
        rcases HS.out with ⟨h0, _⟩ | ⟨g', o', c, h1, h2, _⟩
        · have : L = [] := by simpa using h0
          rw [this]; simp
        · simp only [Value.slice.injEq] at h1
          rw [h1.2.2]; simpa using h2
      obtain ⟨b0, b1, _, _⟩ := two_cells ((HBR.out.block _ (by have := HB2.out.size; omega)).trans ((HB2.out.block _ (by omega)).trans HB.out))
      have HNU := hide (Number_any ns _ (.slice ra rn rc) nm wr (HN.out.below hbw) ⟨_, _, _, rfl⟩)
      have hji : (j : Int) < (L.length : Int) := by omega
      generalize Ld.number ns nm = u at *
      clear hje hbw
      go_wp2_with fail
      refine HNU.out.mono ?_
      rintro e w3 ⟨rfl, hb3⟩
      have HB3 := hide hb3
      clear hb3 HNU
      by_cases hu : u < 0
      · have HR := hide (HMN.out hu)
        go_wp2_with fail
        go_ret
        exact ⟨ret_bool (by rw [HAS.out, HR.out]), HBW.out.trans ((HBR.out.trans (HB3.out.mono HBR.out.size)).mono HBW.out.size)⟩
      · have HD : Hid (decide (0 ≤ u) = true) := decide_eq_true (by omega)
        go_wp2_with fail
        exact ⟨⟨j + 1, by omega, by go_num, (by show _ = _; rw [HTS.out, HT.out, HD.out]; rfl), HBR.out.trans (HB3.out.mono HBR.out.size)⟩, by simp [intOf]; omega⟩
    · have hjl : j = L.length := by omega
      have HR : Hid ((L.all fun s => decide (0 ≤ Ld.number ns s)) = true) := by
        have := HT.out
        rw [hjl, List.take_length] at this
        exact this
      subst hjl
      have HE := hide hbw
      clear hbw
      go_wp2_with fail
      go_ret
      exact ⟨ret_bool (by rw [HAS.out, HR.out]), HE.out⟩
end
end Go.Proofs.YtgblillplgdbaaaGreatDoor
