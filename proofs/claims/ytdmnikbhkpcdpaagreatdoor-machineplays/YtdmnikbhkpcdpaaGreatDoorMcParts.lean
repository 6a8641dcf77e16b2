/-
  The walks of package machine's partsOf and states.
-/
import Derived.Test.YtdmnikbhkpcdpaaGreatDoorMcRowAll
import Derived.Test.YtdmnikbhkpcdpaaGreatDoorLdEdges
namespace Go.Proofs.YtdmnikbhkpcdpaaGreatDoor
open Go.RowKit
def ptCells (x : Nat × Bool) : List Value := [.int .i64 (x.1 : Int), .bool x.2]
theorem makeP (w : World) : ∀ n : Nat, n ≤ 12 → (Instr.makeSlice 33 (.int .i64 (n : Int)) (.int .i64 (n : Int))).run Tryz.prog w = .ok (.slice (some ⟨w.heap.size, 0, none⟩) n n) (w.alloc (.cells ⟨(List.replicate n [Value.int .i64 0, .bool false]).flatten⟩ 149)) := by
  apply upto12 <;> kernel_rfl
/-- a row of pairs that is filled from the head: the next pair's first, its second, its first again -/
theorem fill_fst (A : List Value) (z0 z1 u : Value) (d : Nat) : (A ++ (List.replicate (d + 1) [z0, z1]).flatten).set A.length u = A ++ [u, z1] ++ (List.replicate d [z0, z1]).flatten := by
  rw [List.replicate_succ, List.flatten_cons, List.set_append_right _ _ (Nat.le_refl _), Nat.sub_self]
  simp
theorem fill_fst' (A R : List Value) (u v u' : Value) : (A ++ [u, v] ++ R).set A.length u' = A ++ [u', v] ++ R := by
  rw [List.append_assoc, List.set_append_right _ _ (Nat.le_refl _), Nat.sub_self]
  simp
theorem fill_snd (A R : List Value) (u v v' : Value) : (A ++ [u, v] ++ R).set (A.length + 1) v' = A ++ [u, v'] ++ R := by
  rw [List.append_assoc, List.set_append_right _ _ (by omega), show A.length + 1 - A.length = 1 by omega]
  simp
theorem pt_len (l : List (Nat × Bool)) : (l.flatMap ptCells).length = l.length * 2 := by
  induction l with
  | nil => rfl
  | cons a r ih => rw [List.flatMap_cons, List.length_append, ih, List.length_cons]; simp [ptCells]; omega
/-- the row of parts, the first k of them laid -/
def partRow (p : Ld.Prg) (k : Nat) : List Value := ((Mc.parts p).take k).flatMap ptCells ++ (List.replicate (p.names.length - k) [Value.int .i64 0, .bool false]).flatten
theorem partRow_zero (p : Ld.Prg) : partRow p 0 = (List.replicate p.names.length [Value.int .i64 0, .bool false]).flatten := by simp [partRow]
theorem partRow_all (p : Ld.Prg) : partRow p p.names.length = (Mc.parts p).flatMap ptCells := by
  unfold partRow
  rw [Nat.sub_self, List.take_of_length_le (by rw [Mc.parts_len]; exact Nat.le_refl _)]
  simp
theorem partRow_set (p : Ld.Prg) (k : Nat) (hk : k < p.names.length) (u : Value) :
    ∃ R, (partRow p k).set (k * 2) u = ((Mc.parts p).take k).flatMap ptCells ++ [u, .bool false] ++ R ∧ partRow p (k + 1) = ((Mc.parts p).take k).flatMap ptCells ++ ptCells (Mc.part p k) ++ R ∧ (((Mc.parts p).take k).flatMap ptCells).length = k * 2 ∧ (partRow p k)[k * 2]? = some (.int .i64 0) ∧ (partRow p k)[k * 2 + 1]? = some (.bool false) := by
  have hl : (((Mc.parts p).take k).flatMap ptCells).length = k * 2 := by rw [pt_len, List.length_take, Mc.parts_len]; omega
  obtain ⟨d, hd⟩ : ∃ d, p.names.length - k = d + 1 := ⟨p.names.length - k - 1, by omega⟩
  refine ⟨(List.replicate d [Value.int .i64 0, .bool false]).flatten, ?_, ?_, hl, ?_, ?_⟩
  · unfold partRow
    rw [hd, ← hl, fill_fst]
  · unfold partRow
    have hkl : k < (Mc.parts p).length := by rw [Mc.parts_len]; exact hk
    have e : (Mc.parts p)[k] = Mc.part p k := by
      have := Mc.parts_at p k hk
      rw [List.getElem?_eq_getElem hkl] at this
      exact Option.some.inj this
    rw [List.take_succ_eq_append_getElem hkl, List.flatMap_append, e, show p.names.length - (k + 1) = d by omega]
    simp
  · unfold partRow
    rw [hd, List.getElem?_append_right (by omega), hl, Nat.sub_self, List.replicate_succ]
    rfl
  · unfold partRow
    rw [hd, List.getElem?_append_right (by omega), hl, show k * 2 + 1 - k * 2 = 1 by omega, List.replicate_succ]
    rfl
theorem partRow_edit (p : Ld.Prg) (k : Nat) (hk : k < p.names.length) {W : World} {g : Nat} (h : RowIs W g 149 (partRow p k)) :
    (∀ (a : Nat), Mc.part p k = (a, false) → RowIs (W.setCell ⟨g, k * 2, none⟩ (.int .i64 (a : Int))) g 149 (partRow p (k + 1))) ∧
    (∀ (a : Nat), Mc.part p k = (a, true) → RowIs ((W.setCell ⟨g, k * 2, none⟩ (.int .i64 (a : Int))).setCell ⟨g, k * 2 + 1, none⟩ (.bool true)) g 149 (partRow p (k + 1))) ∧
    (∀ (a : Nat) (b : Int), Mc.part p k = (a, false) → RowIs ((W.setCell ⟨g, k * 2, none⟩ (.int .i64 b)).setCell ⟨g, k * 2, none⟩ (.int .i64 (a : Int))) g 149 (partRow p (k + 1))) ∧
    W.cell? ⟨g, k * 2, none⟩ = some (.int .i64 0) ∧ W.cell? ⟨g, k * 2 + 1, none⟩ = some (.bool false) := by
  obtain ⟨R, e1, e2, hl, c0, c1⟩ := partRow_set p k hk (.int .i64 0)
  have key : ∀ u, (partRow p k).set (k * 2) u = ((Mc.parts p).take k).flatMap ptCells ++ [u, .bool false] ++ R := fun u => by
    have h1 : ((partRow p k).set (k * 2) (.int .i64 0)).set (k * 2) u = (partRow p k).set (k * 2) u := List.set_set _
    rw [← h1, e1]
    have h2 := fill_fst' (((Mc.parts p).take k).flatMap ptCells) R (.int .i64 0) (.bool false) u
    rw [hl] at h2
    exact h2
  refine ⟨fun a ha => ?_, fun a ha => ?_, fun a b ha => ?_, h.cell _ _ c0, h.cell _ _ c1⟩
  · have h1 := h.set (k * 2) (.int .i64 (a : Int))
    rw [key] at h1
    rw [e2, ha]
    exact h1
  · have h1 := (h.set (k * 2) (.int .i64 (a : Int))).set (k * 2 + 1) (.bool true)
    have h2 := fill_snd (((Mc.parts p).take k).flatMap ptCells) R (.int .i64 (a : Int)) (.bool false) (.bool true)
    rw [hl] at h2
    rw [key, h2] at h1
    rw [e2, ha]
    exact h1
  · have h1 := (h.set (k * 2) (.int .i64 b)).set (k * 2) (.int .i64 (a : Int))
    rw [List.set_set, key] at h1
    rw [e2, ha]
    exact h1
theorem contains_int_any (q : Nat) (sv : Value) (ns : List Nat) (x : Nat) (w : World) (h : w.ownsRow q 3 1 sv ns.length (ns.map intV)) (hl : ns.length ≤ 100000000) :
    Calls Tryz.prog 110 #[sv, .int .i64 (x : Int)] w fun e w' => e = .returned (.bool (ns.contains x)) ∧ w' = w := by
  rcases h.2 with ⟨rfl, h0⟩ | ⟨g, cap, cur, rfl, _, hcur, _, _, _, htk⟩
  · refine (Tryz.slices_Contains_int_empty none 0 x w).mono ?_
    rintro e w' ⟨rfl, rfl⟩
    rw [List.length_eq_zero_iff.1 h0]
    exact ⟨rfl, rfl⟩
  · refine (Tryz.slices_Contains_int g 0 ns.length cap (ns.map fun (i : Nat) => (i : Int)) x w (by simp) (by omega) (fun j hj => ?_)).mono ?_
    · rw [Nat.zero_add]
      have hj' : j < ns.length := by simpa using hj
      exact row_cell hcur htk (by rw [List.getElem?_map, List.getElem?_eq_getElem hj']; simp [hj', intV])
    · rintro e w' ⟨rfl, rfl⟩
      have e1 : ((ns.map fun (i : Nat) => (i : Int)).take ns.length).contains (x : Int) = ns.contains x := by
        rw [List.take_of_length_le (by simp), Bool.eq_iff_iff, List.contains_iff_mem, List.contains_iff_mem]
        constructor
        · intro h
          obtain ⟨i, hi, e⟩ := List.mem_map.1 h
          have : i = x := by omega
          rw [← this]; exact hi
        · intro h
          exact List.mem_map.2 ⟨x, h, rfl⟩
      rw [e1]
      exact ⟨rfl, rfl⟩
/-- what partsOf comes to in memory -/
def Parted (w : World) (p : Ld.Prg) (e : Ending) (w' : World) : Prop := ∃ g, e = .returned (slV g p.names.length) ∧ RowIs w' g 149 ((Mc.parts p).flatMap ptCells) ∧ w.heap.size ≤ g ∧ Below w.heap.size w w'
set_option maxHeartbeats 8000000 in
set_option maxRecDepth 100000 in
theorem partsOf_any (p : Ld.Prg) (v : Value) (w : World) (h : IsPrg w p v) (hck : Ld.check p = none) :
    Calls Tryz.prog 74 #[v] w (Parted w p) := by
  have HPR := hide h
  have HCK := hide hck
  obtain ⟨nv, rv, rfl, hn, hr⟩ := h
  have HNA := hide hn
  obtain ⟨na, nc, rfl, _⟩ := hn.slice
  obtain ⟨ra, rc, rfl, _⟩ := hr.slice
  have h12 := (Ld.check_names p hck).1
  have mk := fun w => makeP w p.names.length h12
  rw [← partRow_zero] at mk
  obtain ⟨n, hnn⟩ : ∃ n, n = p.names.length := ⟨_, rfl⟩
  obtain ⟨m, hmm⟩ : ∃ m, m = p.rungs.length := ⟨_, rfl⟩
  have HN := hide hnn
  rw [← hnn] at HPR HNA h12 mk ⊢
  rw [← hmm] at HPR ⊢
  clear hn hr hnn hmm hck
  obtain ⟨wA, hwA⟩ : ∃ wA, wA = w.alloc (.cells #[.slice na n nc, .slice ra m rc] 30) := ⟨_, rfl⟩
  have hbA : Below w.heap.size w wA := by rw [hwA]; exact (Below.refl _ _).alloc (Nat.le_refl _) _
  have hsA : wA.heap.size = w.heap.size + 1 := by rw [hwA]; simp
  have hA : wA.heap[w.heap.size]? = some (.cells #[.slice na n nc, .slice ra m rc] 30 (0, 0)) := by rw [hwA]; exact heap_alloc_new _ _
  have HBX : Hid (∀ (W : World), Below wA.heap.size wA W → W.cell? ⟨w.heap.size, 0, none⟩ = some (.slice na n nc) ∧ W.cell? ⟨w.heap.size, 1, none⟩ = some (.slice ra m rc) ∧ Below w.heap.size w W) := by
    intro W hW
    have e0 := (hW.block w.heap.size (by omega)).trans hA
    exact ⟨by rw [Lib.cell_of_heap e0]; rfl, by rw [Lib.cell_of_heap e0]; rfl, hbA.trans (hW.mono (by omega))⟩
  have HED := hide (LEdges_any p _ wA (HPR.out.below hbA) HCK.out)
  rw [hwA] at HED
  have HWA := hide hwA
  have HSA := hide hsA
  clear hwA hbA hA hsA
  go_enter Tryz.func74, Tryz.ntmps74
  go_wp2_with fail
  refine HED.out.mono ?_
  rintro e w1 ⟨ev, rfl, hown, hb1⟩
  rw [← HWA.out] at hown hb1
  have HO := hide hown
  obtain ⟨ea, ec, rfl⟩ := own_slice hown
  have HB1 := hide hb1
  obtain ⟨c0, c1, hw1⟩ := HBX.out w1 hb1
  have hlt1 : w.heap.size < w1.heap.size := World.block_lt_of_cell? _ _ c0
  have HW1 := hide hw1
  clear hown hb1 HED hw1
  obtain ⟨ps, hps⟩ : ∃ ps, ps = partRow p 0 := ⟨_, rfl⟩
  rw [← hps] at mk
  obtain ⟨w2, hw2⟩ : ∃ w2, w2 = w1.alloc (.cells ⟨ps⟩ 149) := ⟨_, rfl⟩
  have HR2 : Hid (RowIs w2 w1.heap.size 149 (partRow p 0)) := by rw [hw2, ← hps]; exact RowIs.new _ _ _
  have HB2 : Hid (Below w1.heap.size w1 w2) := by rw [hw2]; exact (Below.refl _ _).alloc (Nat.le_refl _) _
  have hs2 : w2.heap.size = w1.heap.size + 1 := by rw [hw2]; simp
  clear hps
  go_wp2_with fail
  rw [← hw2]
  clear hw2 mk
  go_loopw [16] (fun i wr => ∃ k : Nat, k ≤ n ∧ i = .int .i64 (k : Int) ∧ Hid (RowIs wr w1.heap.size 149 (partRow p k)) ∧ Hid (Below w1.heap.size w1 wr) ∧ w1.heap.size < wr.heap.size) (fun i _ => n - (intOf i).toNat)
  case atStart => exact ⟨0, Nat.zero_le _, rfl, HR2.out, HB2.out, by omega⟩
  case round =>
    obtain ⟨k, hk, rfl, HR, HBR, hzr⟩ := hrel
    have hbr' : Below wA.heap.size wA wr := HB1.out.trans (HBR.out.mono HB1.out.size)
    obtain ⟨d0, d1, hbw⟩ := HBX.out wr hbr'
    have HBW := hide hbw
    clear hbw hbr' c0 c1
    by_cases hlt : k < n
    · have hkl : k < p.names.length := by rw [← HN.out]; exact hlt
      obtain ⟨gn, hna, hcn, y1, y2, y3, y4, y5, y6⟩ : ∃ g, na = some ⟨g, 0, none⟩ ∧ n ≤ nc ∧ NameAt wr g k p.names[k] := by
        rcases HNA.out.below HBW.out with ⟨h0, _⟩ | ⟨g, cap, h1, h2, h3, h4⟩
        · rw [h0] at hkl; simp at hkl
        · simp only [Value.slice.injEq] at h1
          exact ⟨g, h1.1, by rw [h1.2.2, h1.2.1]; exact h2, h4 k _ (List.getElem?_eq_getElem hkl)⟩
      subst hna
      have hgn : gn < wr.heap.size := World.block_lt_of_cell? _ _ y1
      obtain ⟨m1, m2, m3, m4⟩ := Sc.may p HCK.out k hkl
      have hpt : Mc.part p k = if p.names[k].kind = 3 ∨ p.names[k].kind = 4 then (p.names[k].count.toNat + 1, true) else if p.names[k].kind = 2 then (2, false) else if (Ld.edges p).contains k then (2, false) else (1, false) := by
        unfold Mc.part; rw [List.getElem?_eq_getElem hkl]
      generalize p.names[k] = y at *
      obtain ⟨ynm, yk, yc⟩ := y
      simp only at y1 y2 y3 y4 y5 y6 m1 m2 m3 m4 hpt
      obtain ⟨E1, E2, E3, r0, r1⟩ := partRow_edit p k hkl HR.out
      have f0 := HR.out.frozen (k * 2)
      have f1 := HR.out.frozen (k * 2 + 1)
      have HE1 := hide E1
      have HE2 := hide E2
      have HE3 := hide E3
      have HFB : Hid (∀ (W : World) (o : Obj), Below w1.heap.size w1 W → wr.heap.size ≤ W.heap.size → Below w1.heap.size w1 (W.alloc o) ∧ w1.heap.size < (W.alloc o).heap.size) := fun W o hW hs => ⟨hW.alloc (by omega) o, by simp; omega⟩
      have HFS : Hid (∀ (W : World) (j : Nat) (v : Value), Below w1.heap.size w1 W → Below w1.heap.size w1 (W.setCell ⟨w1.heap.size, j, none⟩ v)) := fun W j v hW => hW.setCell (p := ⟨w1.heap.size, j, none⟩) (Nat.le_refl _) v
      clear E1 E2 E3
      rcases (show yk = 1 ∨ yk = 2 ∨ yk = 3 ∨ yk = 4 by omega) with rfl | rfl | rfl | rfl
      · obtain rfl : yc = 0 := m4 (by decide)
        have hle : (Ld.edges p).length ≤ 12 := Nat.le_trans (Ld.placesTo_le _ _ _) (by rw [← HN.out]; exact h12)
        have HCT := hide (contains_int_any _ _ (Ld.edges p) k ((wr.setCell ⟨w1.heap.size, k * 2, none⟩ (.int .i64 1)).alloc (.cells #[.string ⟨ynm.toArray⟩, .int .i64 1, .int .i64 0] 86)) (own_below HO.out (HFB.out _ _ (HFS.out _ _ _ HBR.out) (by simp [World.setCell])).1) (by omega))
        have HP2 : Hid ((Ld.edges p).contains k = true → Mc.part p k = (2, false)) := fun h => by rw [hpt, if_neg (by decide), if_neg (by decide), if_pos h]
        have HP1 : Hid ((Ld.edges p).contains k = false → Mc.part p k = (1, false)) := fun h => by rw [hpt, if_neg (by decide), if_neg (by decide), h]; rfl
        clear hpt
        go_wp2_with fail
        refine HCT.out.mono ?_
        rintro e w3 ⟨rfl, rfl⟩
        clear HCT
        cases hct : (Ld.edges p).contains k with
        | true =>
          go_wp2_with fail
          go_roundw
          case rel => exact ⟨k + 1, by omega, by go_num, (HE3.out 2 1 (HP2.out hct)).alloc _, (HFB.out _ _ (HFS.out _ _ _ (HFS.out _ _ _ HBR.out)) (by simp [World.setCell])).1, (HFB.out _ _ (HFS.out _ _ _ (HFS.out _ _ _ HBR.out)) (by simp [World.setCell])).2⟩
          case measure => simp [intOf]; omega
        | false =>
          go_wp2_with fail
          go_roundw
          case rel => exact ⟨k + 1, by omega, by go_num, (HE1.out 1 (HP1.out hct)).alloc _, (HFB.out _ _ (HFS.out _ _ _ HBR.out) (by simp [World.setCell])).1, (HFB.out _ _ (HFS.out _ _ _ HBR.out) (by simp [World.setCell])).2⟩
          case measure => simp [intOf]; omega
      · have HPT : Hid (Mc.part p k = (2, false)) := hpt
        clear hpt
        go_wp2_with fail
        go_roundw
        case rel => exact ⟨k + 1, by omega, by go_num, (HE1.out 2 HPT.out).alloc _, (HFB.out _ _ (HFS.out _ _ _ HBR.out) (by simp [World.setCell])).1, (HFB.out _ _ (HFS.out _ _ _ HBR.out) (by simp [World.setCell])).2⟩
        case measure => simp [intOf]; omega
      · have m5 := m3 (by omega)
        obtain ⟨c, hc⟩ : ∃ c : Nat, yc = (c : Int) := ⟨yc.toNat, by omega⟩
        subst hc
        have HPT : Hid (Mc.part p k = (c + 1, true)) := by
          show _ = _
          rw [hpt, if_pos (by decide)]
          simp
        clear hpt
        go_wp2_with fail
        go_roundw
        case rel =>
          refine ⟨k + 1, by omega, by go_num, ?_, (HFB.out _ _ (HFS.out _ _ _ (HFS.out _ _ _ HBR.out)) (by simp [World.setCell])).1, (HFB.out _ _ (HFS.out _ _ _ (HFS.out _ _ _ HBR.out)) (by simp [World.setCell])).2⟩
          have h1 := HE2.out (c + 1) HPT.out
          rw [Int.natCast_add] at h1
          exact h1.alloc _
        case measure => simp [intOf]; omega
      · have m5 := m3 (by omega)
        obtain ⟨c, hc⟩ : ∃ c : Nat, yc = (c : Int) := ⟨yc.toNat, by omega⟩
        subst hc
        have HPT : Hid (Mc.part p k = (c + 1, true)) := by
          show _ = _
          rw [hpt, if_pos (by decide)]
          simp
        clear hpt
        go_wp2_with fail
        go_roundw
        case rel =>
          refine ⟨k + 1, by omega, by go_num, ?_, (HFB.out _ _ (HFS.out _ _ _ (HFS.out _ _ _ HBR.out)) (by simp [World.setCell])).1, (HFB.out _ _ (HFS.out _ _ _ (HFS.out _ _ _ HBR.out)) (by simp [World.setCell])).2⟩
          have h1 := HE2.out (c + 1) HPT.out
          rw [Int.natCast_add] at h1
          exact h1.alloc _
        case measure => simp [intOf]; omega
    · have hkn : k = n := by omega
      have HRA : Hid (RowIs wr w1.heap.size 149 ((Mc.parts p).flatMap ptCells)) := by
        have h1 := HR.out
        rw [hkn, HN.out, partRow_all] at h1
        exact h1
      subst hkn
      go_wp2_with fail
      go_ret
      exact ⟨w1.heap.size, by rw [← HN.out]; rfl, HRA.out, by omega, HBW.out⟩
end Go.Proofs.YtdmnikbhkpcdpaaGreatDoor
