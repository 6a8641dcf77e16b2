/-
  The walk of the document's Tells: what names are and how far they count, in their order.
-/
import Derived.Test.YtgldbliohpfljaaGreatDoorRgBaseAll
import Derived.Test.YtgldbliohpfljaaGreatDoorLdKindAll
import Derived.Test.YtgldbliohpfljaaGreatDoorRlEdgesAll
namespace Go.Proofs.YtgldbliohpfljaaGreatDoor
namespace Rf
open Go.RowKit Go.Maps
def isV (st : St) (ns : List Ld.Nme) : List Value := ns.map fun n => .bool (st.is n.name)
def ctV (st : St) (ns : List Ld.Nme) : List Value := ns.map fun n => .int .i64 (st.ct n.name)
theorem isV_succ (st : St) (ns : List Ld.Nme) (k : Nat) (h : k < ns.length) : isV st (ns.take (k + 1)) = isV st (ns.take k) ++ [.bool (st.is ns[k].name)] := by
  unfold isV; rw [List.take_succ_eq_append_getElem h, List.map_append]; rfl
theorem ctV_succ (st : St) (ns : List Ld.Nme) (k : Nat) (h : k < ns.length) : ctV st (ns.take (k + 1)) = ctV st (ns.take k) ++ [.int .i64 (st.ct ns[k].name)] := by
  unfold ctV; rw [List.take_succ_eq_append_getElem h, List.map_append]; rfl
/-- what the round of Tells reads -/
def TK (W : World) (b0 b1 b2 bn n : Nat) (st : St) (nm : List UInt8) : Prop :=
  (W.cell? ⟨b0, 0, none⟩ = some (.map (some b1)) ∧ W.cell? ⟨b0, 1, none⟩ = some (.map (some b2)) ∧ W.cell? ⟨bn, 0, none⟩ = some (.string ⟨nm.toArray⟩)) ∧ BM W b1 n st.is ∧ IM W b2 n st.ct
theorem TK.below {W W' : World} {b0 b1 b2 bn n : Nat} {st : St} {nm : List UInt8} (h : TK W b0 b1 b2 bn n st nm) (hb : Below W.heap.size W W') : TK W' b0 b1 b2 bn n st nm := by
  obtain ⟨⟨h1, h2, h3⟩, h4, h5⟩ := h
  have k : ∀ p v, W.cell? p = some v → W'.cell? p = some v := fun p v e => (hb.cell (World.block_lt_of_cell? _ _ e)).trans e
  exact ⟨⟨k _ _ h1, k _ _ h2, k _ _ h3⟩, h4.below hb, h5.below hb⟩
theorem TK.grow {W W' : World} {q b0 b1 b2 bn n : Nat} {st : St} {nm : List UInt8} {ob : Option Nat} (h : TK W b0 b1 b2 bn n st nm) (hg : W.grownBy W' ob) (hq : b0 < q ∧ b1 < q ∧ b2 < q) (ho : ∀ g, ob = some g → q ≤ g ∧ g < bn) : TK W' b0 b1 b2 bn n st nm := by
  obtain ⟨⟨h1, h2, h3⟩, h4, h5⟩ := h
  have k : ∀ b, b < W.heap.size → b < q ∨ b = bn → W'.heap[b]? = W.heap[b]? := fun b hb hx => hg.block b hb (fun e => by have := ho b e.symm; omega)
  have c : ∀ b i v, b < q ∨ b = bn → W.cell? ⟨b, i, none⟩ = some v → W'.cell? ⟨b, i, none⟩ = some v := fun b i v hx e => by
    rw [World.cell?_of_block (k b (World.block_lt_of_cell? _ _ e) hx)]; exact e
  exact ⟨⟨c _ _ _ (.inl hq.1) h1, c _ _ _ (.inl hq.1) h2, c _ _ _ (.inr rfl) h3⟩, h4.kept (k _ h4.lt (.inl hq.2.1)), h5.kept (k _ h5.lt (.inl hq.2.2))⟩
def TKS (b0 b1 b2 bn : Nat) (st : St) (nm : List UInt8) (W : World) : Prop :=
  (W.cell? ⟨b0, 0, none⟩ = some (.map (some b1)) ∧ W.cell? ⟨b0, 1, none⟩ = some (.map (some b2))) ∧ W.cell? ⟨bn, 0, none⟩ = some (.string ⟨nm.toArray⟩) ∧
  (Instr.lookup 120 (.map (some b1)) (.string ⟨nm.toArray⟩) false).run Tryz.prog W = .ok (.bool (st.is nm)) W ∧ (Instr.lookup 121 (.map (some b2)) (.string ⟨nm.toArray⟩) false).run Tryz.prog W = .ok (.int .i64 (st.ct nm)) W
theorem TK.s {W : World} {b0 b1 b2 bn n : Nat} {st : St} {nm : List UInt8} (h : TK W b0 b1 b2 bn n st nm) (hn : nm.length ≤ maxLen) : TKS b0 b1 b2 bn st nm W :=
  ⟨⟨h.1.1, h.1.2.1⟩, h.1.2.2, h.2.1.look nm hn, h.2.2.look nm hn⟩
set_option linter.unusedSimpArgs false in
set_option maxHeartbeats 4000000 in
set_option maxRecDepth 100000 in
theorem Tells_any (ns : List Ld.Nme) (nv rv sv : Value) (n : Nat) (st : St) (w : World) (hn : NamesAt w nv ns) (hr : ∃ a n c, rv = .slice a n c) (hs : StIs w sv n st) :
    Calls Tryz.prog 62 #[sv, .agg #[nv, rv]] w fun e w' => Below w.heap.size w w' ∧ ∃ v1 v2, e = .returned (.tuple #[v1, v2]) ∧ T2 w.heap.size w' 4 3 v1 v2 (isV st ns) (ctV st ns) := by
  obtain ⟨ra, rn, rc, rfl⟩ := hr
  obtain ⟨b1, b2, rfl, h1, h2, hct⟩ := hs
  have HNA := hide hn
  have HM1 := hide h1
  have HM2 := hide h2
  obtain ⟨na, nc, rfl, hlen⟩ := hn.slice
  obtain ⟨m, hmm⟩ : ∃ m, m = ns.length := ⟨_, rfl⟩
  have HM := hide hmm
  rw [← hmm] at HNA hlen ⊢
  obtain ⟨wA, hwA⟩ : ∃ wA, wA = w.alloc (.cells #[.map (some b1), .map (some b2)] 123) := ⟨_, rfl⟩
  obtain ⟨wB, hwB⟩ : ∃ wB, wB = wA.alloc (.cells #[.slice na m nc, .slice ra rn rc] 45) := ⟨_, rfl⟩
  have zA : wA.heap.size = w.heap.size + 1 := by rw [hwA]; simp
  have zB : wB.heap.size = w.heap.size + 1 + 1 := by rw [hwB]; simp [zA]
  have bA : Below w.heap.size w wA := by rw [hwA]; exact (Below.refl _ _).alloc (Nat.le_refl _) _
  have bB : Below wA.heap.size wA wB := by rw [hwB]; exact (Below.refl _ _).alloc (Nat.le_refl _) _
  have HBB : Hid (Below w.heap.size w wB) := then_ bA bB
  have k0 : wB.heap[w.heap.size]? = some (.cells #[.map (some b1), .map (some b2)] 123 (0, 0)) := by
    rw [bB.block _ (by omega), hwA]; exact heap_alloc_new _ _
  have k1 : wB.heap[w.heap.size + 1]? = some (.cells #[.slice na m nc, .slice ra rn rc] 45 (0, 0)) := by
    rw [hwB, ← zA]; exact heap_alloc_new _ _
  have HBX : Hid (∀ W, Below wB.heap.size wB W → (W.cell? ⟨w.heap.size, 0, none⟩ = some (.map (some b1)) ∧ W.cell? ⟨w.heap.size, 1, none⟩ = some (.map (some b2))) ∧ (W.cell? ⟨w.heap.size + 1, 0, none⟩ = some (.slice na m nc) ∧ W.cell? ⟨w.heap.size + 1, 1, none⟩ = some (.slice ra rn rc))) := fun W h => by
    have e0 := (h.block w.heap.size (by omega)).trans k0
    have e1 := (h.block (w.heap.size + 1) (by omega)).trans k1
    refine ⟨⟨?_, ?_⟩, ⟨?_, ?_⟩⟩
    · rw [Lib.cell_of_heap e0]; rfl
    · rw [Lib.cell_of_heap e0]; rfl
    · rw [Lib.cell_of_heap e1]; rfl
    · rw [Lib.cell_of_heap e1]; rfl
  obtain ⟨⟨c0, c1⟩, ⟨c2, c3⟩⟩ := HBX.out wB (Below.refl _ _)
  have HWB : Hid (wB = (w.alloc (.cells #[.map (some b1), .map (some b2)] 123)).alloc (.cells #[.slice na m nc, .slice ra rn rc] 45)) := by rw [hwB, hwA]; rfl
  rw [HWB.out] at c0 c1 c2 c3
  clear hn h1 h2 hct hmm bA bB k0 k1 hwA hwB
  go_enter Tryz.func62, Tryz.ntmps62
  go_wp2_with fail
  rw [← HWB.out]
  go_loopw [6, 7, 13] (fun v1 v2 i wr => ∃ k : Nat, k ≤ m ∧ i = .int .i64 (k : Int) ∧ (∃ a c, v1 = .slice a k c) ∧ (∃ a c, v2 = .slice a k c) ∧ Hid (T2 wB.heap.size wr 4 3 v1 v2 (isV st (ns.take k)) (ctV st (ns.take k))) ∧ Hid (Below wB.heap.size wB wr)) (fun _ _ i _ => m - (intOf i).toNat)
  case atStart => exact ⟨0, Nat.zero_le _, rfl, ⟨_, _, rfl⟩, ⟨_, _, rfl⟩, ⟨World.ownsRow_nil _ _ _ _, World.ownsRow_nil _ _ _ _, fun g e => by cases e⟩, Below.refl _ _⟩
  case round =>
    obtain ⟨k, hk, rfl, ⟨a1, cc1, rfl⟩, ⟨a2, cc2, rfl⟩, HT, HB⟩ := hrel
    have hzB := HB.out.size
    by_cases hlt : k < m
    · have hkl : k < ns.length := by rw [← HM.out]; exact hlt
      obtain ⟨gN, rfl, hcp, e1, e2, e3, hnl, _, _⟩ := (HNA.out.below (HBB.out.trans (HB.out.mono HBB.out.size))).at_ (List.getElem?_eq_getElem hkl)
      have HIS := hide (isV_succ st ns k hkl)
      have HCS := hide (ctV_succ st ns k hkl)
      have hki : (k : Int) < (m : Int) := by omega
      generalize ns[k] = y at *
      obtain ⟨nm, kd, ct⟩ := y
      dsimp only at e1 e2 e3 hnl HIS HCS
      have HLI : Hid ((isV st (ns.take k)).length = k) := by have := HM.out; show _ = _; simp [isV]; omega
      have HLC : Hid ((ctV st (ns.take k)).length = k) := by have := HM.out; show _ = _; simp [ctV]; omega
      have hkb : k < 1000000 := by omega
      obtain ⟨i1, hi1, hz10, hz11, hz12⟩ := info_parts Tryz.infoBool
      obtain ⟨i2, hi2, hz20, hz21, hz22⟩ := info_parts Tryz.infoInt
      have hbw : Below w.heap.size w wr := HBB.out.trans (HB.out.mono HBB.out.size)
      have HNM : Hid (nm.length ≤ maxLen) := hnl
      obtain ⟨⟨x0, x1⟩, _⟩ := HBX.out wr HB.out
      obtain ⟨wN, hwN⟩ : ∃ wN, wN = wr.alloc (.cells #[.string ⟨nm.toArray⟩, .int .i64 kd, .int .i64 ct] 144) := ⟨_, rfl⟩
      have hbN : Below wr.heap.size wr wN := by rw [hwN]; exact (Below.refl _ _).alloc (Nat.le_refl _) _
      have hzN : wN.heap.size = wr.heap.size + 1 := by rw [hwN]; simp
      have hnb : wN.cell? ⟨wr.heap.size, 0, none⟩ = some (.string ⟨nm.toArray⟩) := by rw [hwN]; exact Lib.cell_of_heap (heap_alloc_new wr _) 0
      have hkeep : ∀ p v, wr.cell? p = some v → wN.cell? p = some v := fun p v e => (hbN.cell (World.block_lt_of_cell? _ _ e)).trans e
      have HTK : Hid (TK wN w.heap.size b1 b2 wr.heap.size n st nm) := ⟨⟨hkeep _ _ x0, hkeep _ _ x1, hnb⟩, (HM1.out.below hbw).below hbN, (HM2.out.below hbw).below hbN⟩
      have HQ : Hid (w.heap.size < wB.heap.size ∧ b1 < wB.heap.size ∧ b2 < wB.heap.size) := by
        have h1 := HM1.out.lt
        have h2 := HM2.out.lt
        refine ⟨?_, ?_, ?_⟩ <;> omega
      have HO1 : Hid (∀ g, (Value.slice a1 k cc1).ownBlock = some g → wB.heap.size ≤ g ∧ g < wr.heap.size) := fun g e => own_lt HT.out.o1 e
      have HO2 : Hid (∀ g, (Value.slice a2 k cc2).ownBlock = some g → wB.heap.size ≤ g ∧ g < wr.heap.size) := fun g e => own_lt HT.out.o2 e
      have HBN := hide hbN
      have HDN : Hid (Below wr.heap.size wr wN.drew) := ⟨hbN.os, hbN.tape, hbN.output, hbN.size, hbN.block⟩
      have HWN := hide hwN
      have HZN := hide hzN
      have HONE : Hid (∀ v : Value, v.oneCell' = true → ∀ u ∈ [v], u.oneCell' = true) := fun v hv u hu => by
        obtain rfl := List.mem_singleton.1 hu
        exact hv
      generalize isV st (ns.take k) = l1 at *
      generalize ctV st (ns.take k) = l2 at *
      have HFIN : Hid (∀ W g1 k1 g2 k2, T2 wB.heap.size W 4 3 (.slice (some ⟨g1, 0, none⟩) (k + 1) k1) (.slice (some ⟨g2, 0, none⟩) (k + 1) k2) (l1 ++ [.bool (st.is nm)]) (l2 ++ [.int .i64 (st.ct nm)]) → T2 wB.heap.size W 4 3 (.slice (some ⟨g1, 0, none⟩) (k + 1) k1) (.slice (some ⟨g2, 0, none⟩) (k + 1) k2) (isV st (ns.take (k + 1))) (ctV st (ns.take (k + 1)))) := fun W g1 k1 g2 k2 h => by rw [HIS.out, HCS.out]; exact h
      clear hbw hbN hzN hnb hkeep hwN x0 x1
      go_wp2_with fail
      rw [← HWN.out]
      clear HWN
      refine wp_region_noPanic ?_
      refine wp_region_held_drew (S := TKS w.heap.size b1 b2 wr.heap.size st nm) (by kernel_rfl) ((TK.below (W' := wN.drew) HTK.out ⟨rfl, rfl, rfl, Nat.le_refl _, fun _ _ => rfl⟩).s HNM.out) (fun hHeld => ?_)
      refine Rg.take_at 0 17 (.slice a1 k cc1) rfl rfl (by kernel_rfl) (by kernel_rfl) (by kernel_rfl) (fun _ _ _ h => h) hHeld (Or.inl ⟨by rfl, ?_⟩) ?_
      · rintro Z ⟨⟨z0, z1⟩, z2, z3, z4⟩
        go_simp
      try simp only [List.setIfInBounds_toArray, List.set_cons_zero, List.set_cons_succ]
      refine Rg.take_at 1 18 (.pointer (some ⟨w.heap.size, 0, none⟩)) rfl rfl (by kernel_rfl) (by kernel_rfl) (by kernel_rfl) (fun _ _ _ h => h) hHeld (Or.inl ⟨by rfl, ?_⟩) ?_
      · rintro Z ⟨⟨z0, z1⟩, z2, z3, z4⟩
        go_simp
      try simp only [List.setIfInBounds_toArray, List.set_cons_zero, List.set_cons_succ]
      refine Rg.take_at 2 19 (.map (some b1)) rfl rfl (by kernel_rfl) (by kernel_rfl) (by kernel_rfl) (fun _ _ _ h => h) hHeld (Or.inl ⟨by rfl, ?_⟩) ?_
      · rintro Z ⟨⟨z0, z1⟩, z2, z3, z4⟩
        go_simp
      try simp only [List.setIfInBounds_toArray, List.set_cons_zero, List.set_cons_succ]
      refine Rg.take_at 3 20 (.pointer (some ⟨wr.heap.size, 0, none⟩)) rfl rfl (by kernel_rfl) (by kernel_rfl) (by kernel_rfl) (fun _ _ _ h => h) hHeld (Or.inl ⟨by rfl, ?_⟩) ?_
      · rintro Z ⟨⟨z0, z1⟩, z2, z3, z4⟩
        go_simp
      try simp only [List.setIfInBounds_toArray, List.set_cons_zero, List.set_cons_succ]
      refine Rg.take_at 4 21 (.string ⟨nm.toArray⟩) rfl rfl (by kernel_rfl) (by kernel_rfl) (by kernel_rfl) (fun _ _ _ h => h) hHeld (Or.inl ⟨by rfl, ?_⟩) ?_
      · rintro Z ⟨⟨z0, z1⟩, z2, z3, z4⟩
        go_simp
      try simp only [List.setIfInBounds_toArray, List.set_cons_zero, List.set_cons_succ]
      refine Rg.take_at 5 22 (.bool (st.is nm)) rfl rfl (by kernel_rfl) (by kernel_rfl) (by kernel_rfl) (fun _ _ _ h => h) hHeld (Or.inl ⟨by rfl, ?_⟩) ?_
      · rintro Z ⟨⟨z0, z1⟩, z2, z3, z4⟩
        go_simp
      try simp only [List.setIfInBounds_toArray, List.set_cons_zero, List.set_cons_succ]
      refine Rg.take_at 8 25 (.slice a2 k cc2) rfl rfl (by kernel_rfl) (by kernel_rfl) (by kernel_rfl) (fun _ _ _ h => h) hHeld (Or.inl ⟨by rfl, ?_⟩) ?_
      · rintro Z ⟨⟨z0, z1⟩, z2, z3, z4⟩
        go_simp
      try simp only [List.setIfInBounds_toArray, List.set_cons_zero, List.set_cons_succ]
      refine Rg.take_at 9 26 (.pointer (some ⟨w.heap.size, 1, none⟩)) rfl rfl (by kernel_rfl) (by kernel_rfl) (by kernel_rfl) (fun _ _ _ h => h) hHeld (Or.inl ⟨by rfl, ?_⟩) ?_
      · rintro Z ⟨⟨z0, z1⟩, z2, z3, z4⟩
        go_simp
      try simp only [List.setIfInBounds_toArray, List.set_cons_zero, List.set_cons_succ]
      refine Rg.take_at 10 27 (.map (some b2)) rfl rfl (by kernel_rfl) (by kernel_rfl) (by kernel_rfl) (fun _ _ _ h => h) hHeld (Or.inl ⟨by rfl, ?_⟩) ?_
      · rintro Z ⟨⟨z0, z1⟩, z2, z3, z4⟩
        go_simp
      try simp only [List.setIfInBounds_toArray, List.set_cons_zero, List.set_cons_succ]
      refine Rg.take_at 11 28 (.pointer (some ⟨wr.heap.size, 0, none⟩)) rfl rfl (by kernel_rfl) (by kernel_rfl) (by kernel_rfl) (fun _ _ _ h => h) hHeld (Or.inl ⟨by rfl, ?_⟩) ?_
      · rintro Z ⟨⟨z0, z1⟩, z2, z3, z4⟩
        go_simp
      try simp only [List.setIfInBounds_toArray, List.set_cons_zero, List.set_cons_succ]
      refine Rg.take_at 12 29 (.string ⟨nm.toArray⟩) rfl rfl (by kernel_rfl) (by kernel_rfl) (by kernel_rfl) (fun _ _ _ h => h) hHeld (Or.inl ⟨by rfl, ?_⟩) ?_
      · rintro Z ⟨⟨z0, z1⟩, z2, z3, z4⟩
        go_simp
      try simp only [List.setIfInBounds_toArray, List.set_cons_zero, List.set_cons_succ]
      refine Rg.take_at 13 30 (.int .i64 (st.ct nm)) rfl rfl (by kernel_rfl) (by kernel_rfl) (by kernel_rfl) (fun _ _ _ h => h) hHeld (Or.inl ⟨by rfl, ?_⟩) ?_
      · rintro Z ⟨⟨z0, z1⟩, z2, z3, z4⟩
        go_simp
      try simp only [List.setIfInBounds_toArray, List.set_cons_zero, List.set_cons_succ]
      obtain ⟨wD, hwD⟩ : ∃ wD, wD = wN.drew := ⟨_, rfl⟩
      have HTD : Hid (TK wD w.heap.size b1 b2 wr.heap.size n st nm) := by rw [hwD]; exact TK.below (W' := wN.drew) HTK.out ⟨rfl, rfl, rfl, Nat.le_refl _, fun _ _ => rfl⟩
      rw [← hwD] at HDN ⊢
      have hzD : wr.heap.size ≤ wD.heap.size := by rw [hwD]; have := HZN.out; show wr.heap.size ≤ wN.heap.size; omega
      clear hwD hHeld HTK
      have HA1 : Hid (∀ (X W1 : World) (g1 k1 : Nat), Below wr.heap.size wr X → TK X w.heap.size b1 b2 wr.heap.size n st nm → W1.ownsRow wB.heap.size 4 1 (.slice (some ⟨g1, 0, none⟩) (k + 1) k1) (k + 1) (l1 ++ [.bool (st.is nm)]) → X.grownBy W1 (Value.slice a1 k cc1).ownBlock → ((Value.slice a1 k cc1).ownBlock = some g1 ∨ g1 = X.heap.size) →
          T2 wB.heap.size W1 4 3 (.slice (some ⟨g1, 0, none⟩) (k + 1) k1) (.slice a2 k cc2) (l1 ++ [.bool (st.is nm)]) l2 ∧ Below wB.heap.size wr W1 ∧ TK W1 w.heap.size b1 b2 wr.heap.size n st nm ∧ ∀ b, b < X.heap.size → wr.heap.size ≤ b → W1.heap[b]? = X.heap[b]?) := fun X W1 g1 k1 hX hK h1 h2 h3 => by
        have hz := hX.size
        obtain ⟨x1, x2, x3⟩ := HT.out.app hzB HLI.out hX h1 h2 (h3.imp id (fun e => by omega))
        exact ⟨x1, x2, hK.grow h2 HQ.out HO1.out, x3⟩
      have HA2 : Hid (∀ (W1 X W2 : World) (g1 k1 g2 k2 : Nat), T2 wB.heap.size W1 4 3 (.slice (some ⟨g1, 0, none⟩) (k + 1) k1) (.slice a2 k cc2) (l1 ++ [.bool (st.is nm)]) l2 → Below wB.heap.size wr W1 → Below W1.heap.size W1 X → TK X w.heap.size b1 b2 wr.heap.size n st nm → W2.ownsRow wB.heap.size 3 1 (.slice (some ⟨g2, 0, none⟩) (k + 1) k2) (k + 1) (l2 ++ [.int .i64 (st.ct nm)]) → X.grownBy W2 (Value.slice a2 k cc2).ownBlock → ((Value.slice a2 k cc2).ownBlock = some g2 ∨ W1.heap.size ≤ g2) →
          T2 wB.heap.size W2 4 3 (.slice (some ⟨g1, 0, none⟩) (k + 1) k1) (.slice (some ⟨g2, 0, none⟩) (k + 1) k2) (isV st (ns.take (k + 1))) (ctV st (ns.take (k + 1))) ∧ Below wB.heap.size wB W2 ∧ TK W2 w.heap.size b1 b2 wr.heap.size n st nm) := fun W1 X W2 g1 k1 g2 k2 hT hB hX hK h1 h2 h3 => by
        have hz1 := hB.size
        obtain ⟨x1, x2, x3⟩ := hT.rot.app (by omega) HLC.out hX h1 h2 h3
        exact ⟨HFIN.out _ _ _ _ _ x1.rot, HB.out.trans (hB.trans x2), hK.grow h2 HQ.out HO2.out⟩
      have HOW1 : Hid (∀ X, Below wr.heap.size wr X → X.ownsRow wB.heap.size 4 1 (.slice a1 k cc1) k l1) := fun X hX => by have h := own_below HT.out.o1 hX; rw [HLI.out] at h; exact h
      have HOW2 : Hid (∀ (W1 X : World) (g1 k1 : Nat), T2 wB.heap.size W1 4 3 (.slice (some ⟨g1, 0, none⟩) (k + 1) k1) (.slice a2 k cc2) (l1 ++ [.bool (st.is nm)]) l2 → Below W1.heap.size W1 X → X.ownsRow wB.heap.size 3 1 (.slice a2 k cc2) k l2) := fun W1 X g1 k1 hT hX => by have h := own_below hT.o2 hX; rw [HLC.out] at h; exact h
      have HAL : Hid (∀ (X : World) (o : Obj), Below wr.heap.size wr X → Below wr.heap.size wr (X.alloc o)) := fun X o h => h.alloc h.size o
      have HTA : Hid (∀ (X : World) (o : Obj), TK X w.heap.size b1 b2 wr.heap.size n st nm → TK (X.alloc o) w.heap.size b1 b2 wr.heap.size n st nm) := fun X o h => h.below ((Below.refl _ _).alloc (Nat.le_refl _) _)
      clear HIS HCS
      refine Rg.ready_two (i := 6) (j := 14) (by kernel_rfl) ?_ ?_
      · refine Rg.wpOp_k rfl (by rfl) (fun K' hK => ?_)
        go_simp
        refine hK _ _ ?_
        clear hK K'
        have HB6 := hide (HAL.out wD (.cells #[.bool (st.is nm)] 4) HDN.out)
        have HT6 := hide (HTA.out wD (.cells #[.bool (st.is nm)] 4) HTD.out)
        refine ⟨HT6.out.s HNM.out, ?_⟩
        try simp only [Act.put, List.setIfInBounds_toArray, List.set_cons_zero, List.set_cons_succ]
        refine Rg.ready_two (i := 7) (j := 14) (by kernel_rfl) ?_ ?_
        · have HBX := HB6
          have HTX := HT6
          have HZX : Hid (wB.heap.size ≤ (wD.alloc (.cells #[.bool (st.is nm)] 4)).heap.size) := by show _ ≤ _; simp; omega
          refine Rg.wpOp_k rfl (by rfl) (fun K' hK => ?_)
          refine wp_append_lies _ (.tmp 17) (.tmp 23) 51 rfl wB.heap.size 4 i1 _ 1 1 Tryz.underlying51 hi1 hz10 hz11 hz12 rfl (by decide) (.slice a1 k cc1) k l1 rfl (HOW1.out _ HBX.out) ⟨wD.heap.size, 0, none⟩ 1 1 [.bool (st.is nm)] rfl rfl (World.news_of_block (heap_alloc_new wD _)) (HONE.out _ rfl) (by decide) (by unfold maxLen; omega) (by omega) HZX.out _ rfl ?_
          intro g1 k1 W1 hown hgrow hat hltg
          obtain ⟨x1, x2, x3, x4⟩ := HA1.out _ W1 g1 k1 HBX.out HTX.out hown hgrow hat
          have HT1 := hide x1
          have HB1 := hide x2
          have HK1 := hide x3
          have HX4 := hide x4
          clear hown hgrow hat hltg x1 x2 x3 x4
          refine hK _ _ ?_
          clear hK K'
          refine ⟨HK1.out.s HNM.out, ?_⟩
          try simp only [Act.put, List.setIfInBounds_toArray, List.set_cons_zero, List.set_cons_succ]
          refine Rg.ready_one (i := 14) (by kernel_rfl) ?_
          refine Rg.wpOp_k rfl (by rfl) (fun K' hK => ?_)
          go_simp
          refine hK _ _ ?_
          clear hK K'
          have HBY : Hid (Below W1.heap.size W1 (W1.alloc (.cells #[.int .i64 (st.ct nm)] 3))) := (Below.refl _ _).alloc (Nat.le_refl _) _
          have HKY := hide (HTA.out W1 (.cells #[.int .i64 (st.ct nm)] 3) HK1.out)
          have HZY : Hid (wB.heap.size ≤ (W1.alloc (.cells #[.int .i64 (st.ct nm)] 3)).heap.size) := by have := HB1.out.size; show _ ≤ _; simp; omega
          refine ⟨HKY.out.s HNM.out, ?_⟩
          try simp only [Act.put, List.setIfInBounds_toArray, List.set_cons_zero, List.set_cons_succ]
          refine Rg.ready_one (i := 15) (by kernel_rfl) ?_
          refine Rg.wpOp_k rfl (by rfl) (fun K' hK => ?_)
          refine wp_append_lies _ (.tmp 25) (.tmp 31) 36 rfl wB.heap.size 3 i2 _ 1 8 Tryz.underlying36 hi2 hz20 hz21 hz22 rfl (by decide) (.slice a2 k cc2) k l2 rfl (HOW2.out W1 _ g1 k1 HT1.out HBY.out) ⟨W1.heap.size, 0, none⟩ 1 1 [.int .i64 (st.ct nm)] rfl rfl (World.news_of_block (heap_alloc_new W1 _)) (HONE.out _ rfl) (by decide) (by unfold maxLen; omega) (by omega) HZY.out _ rfl ?_
          intro g2 k2 W2 hown hgrow hat hltg
          obtain ⟨x1, x2, x3⟩ := HA2.out W1 _ W2 g1 k1 g2 k2 HT1.out HB1.out HBY.out HKY.out hown hgrow (hat.imp id (fun e => by have := HBY.out.size; omega))
          have HT2 := hide x1
          have HB2 := hide x2
          have hHeld := x3.s HNM.out
          clear hown hgrow hat hltg x1 x2 x3
          refine hK _ _ ?_
          clear hK K'
          refine ⟨hHeld, ?_⟩
          try simp only [Act.put, List.setIfInBounds_toArray, List.set_cons_zero, List.set_cons_succ]
          refine Rg.take_at 16 6 (.slice (some ⟨g1, 0, none⟩) (k + 1) k1) rfl rfl (by kernel_rfl) (by kernel_rfl) (by kernel_rfl) (fun _ _ _ h => h) hHeld (Or.inl ⟨by rfl, ?_⟩) ?_
          · rintro Z ⟨⟨z0, z1⟩, z2, z3, z4⟩
            go_simp
          try simp only [List.setIfInBounds_toArray, List.set_cons_zero, List.set_cons_succ]
          refine Rg.take_at 17 7 (.slice (some ⟨g2, 0, none⟩) (k + 1) k2) rfl rfl (by kernel_rfl) (by kernel_rfl) (by kernel_rfl) (fun _ _ _ h => h) hHeld (Or.inl ⟨by rfl, ?_⟩) ?_
          · rintro Z ⟨⟨z0, z1⟩, z2, z3, z4⟩
            go_simp
          try simp only [List.setIfInBounds_toArray, List.set_cons_zero, List.set_cons_succ]
          refine wpAnyH_done (by kernel_rfl) ?_ _
          refine NoPanic.normal ?_
          go_wp2_with fail
          go_roundw
          case rel => exact ⟨k + 1, by omega, by go_num, ⟨_, _, rfl⟩, ⟨_, _, rfl⟩, HT2.out, HB2.out⟩
          case measure => simp [intOf]; omega
        · refine Rg.wpOp_k rfl (by rfl) (fun K' hK => ?_)
          go_simp
          refine hK _ _ ?_
          clear hK K'
          have HBX := hide (HAL.out _ (.cells #[.int .i64 (st.ct nm)] 3) HB6.out)
          have HTX := hide (HTA.out _ (.cells #[.int .i64 (st.ct nm)] 3) HT6.out)
          have HZX : Hid (wB.heap.size ≤ ((wD.alloc (.cells #[.bool (st.is nm)] 4)).alloc (.cells #[.int .i64 (st.ct nm)] 3)).heap.size) := by show _ ≤ _; simp; omega
          refine ⟨HTX.out.s HNM.out, ?_⟩
          try simp only [Act.put, List.setIfInBounds_toArray, List.set_cons_zero, List.set_cons_succ]
          refine Rg.ready_one (i := 7) (by kernel_rfl) ?_
          refine Rg.wpOp_k rfl (by rfl) (fun K' hK => ?_)
          refine wp_append_lies _ (.tmp 17) (.tmp 23) 51 rfl wB.heap.size 4 i1 _ 1 1 Tryz.underlying51 hi1 hz10 hz11 hz12 rfl (by decide) (.slice a1 k cc1) k l1 rfl (HOW1.out _ HBX.out) ⟨wD.heap.size, 0, none⟩ 1 1 [.bool (st.is nm)] rfl rfl (World.news_of_block ((Below.heap_alloc (wD.alloc (.cells #[.bool (st.is nm)] 4)) _ wD.heap.size (by simp)).trans (heap_alloc_new wD _))) (HONE.out _ rfl) (by decide) (by unfold maxLen; omega) (by omega) HZX.out _ rfl ?_
          intro g1 k1 W1 hown hgrow hat hltg
          obtain ⟨x1, x2, x3, x4⟩ := HA1.out _ W1 g1 k1 HBX.out HTX.out hown hgrow hat
          have HT1 := hide x1
          have HB1 := hide x2
          have HK1 := hide x3
          have HX4 := hide x4
          clear hown hgrow hat hltg x1 x2 x3 x4
          refine hK _ _ ?_
          clear hK K'
          refine ⟨HK1.out.s HNM.out, ?_⟩
          try simp only [Act.put, List.setIfInBounds_toArray, List.set_cons_zero, List.set_cons_succ]
          have HBY : Hid (Below W1.heap.size W1 W1) := Below.refl _ _
          have HKY := HK1
          have HZY : Hid (wB.heap.size ≤ W1.heap.size) := by have := HB1.out.size; show _ ≤ _; omega
          have HN2 : Hid (W1.heap[wD.heap.size + 1]? = some (.cells #[.int .i64 (st.ct nm)] 3 (0, 0))) := by
            show _ = _
            rw [HX4.out _ (by simp; try omega) (by omega)]
            have h := heap_alloc_new (wD.alloc (.cells #[.bool (st.is nm)] 4)) (.cells #[.int .i64 (st.ct nm)] 3)
            rw [World.size_alloc] at h
            exact h
          refine Rg.ready_one (i := 15) (by kernel_rfl) ?_
          refine Rg.wpOp_k rfl (by rfl) (fun K' hK => ?_)
          refine wp_append_lies _ (.tmp 25) (.tmp 31) 36 rfl wB.heap.size 3 i2 _ 1 8 Tryz.underlying36 hi2 hz20 hz21 hz22 rfl (by decide) (.slice a2 k cc2) k l2 rfl (HOW2.out W1 _ g1 k1 HT1.out HBY.out) ⟨wD.heap.size + 1, 0, none⟩ 1 1 [.int .i64 (st.ct nm)] rfl rfl (World.news_of_block (HN2.out)) (HONE.out _ rfl) (by decide) (by unfold maxLen; omega) (by omega) HZY.out _ rfl ?_
          intro g2 k2 W2 hown hgrow hat hltg
          obtain ⟨x1, x2, x3⟩ := HA2.out W1 _ W2 g1 k1 g2 k2 HT1.out HB1.out HBY.out HKY.out hown hgrow (hat.imp id (fun e => by have := HBY.out.size; omega))
          have HT2 := hide x1
          have HB2 := hide x2
          have hHeld := x3.s HNM.out
          clear hown hgrow hat hltg x1 x2 x3
          refine hK _ _ ?_
          clear hK K'
          refine ⟨hHeld, ?_⟩
          try simp only [Act.put, List.setIfInBounds_toArray, List.set_cons_zero, List.set_cons_succ]
          refine Rg.take_at 16 6 (.slice (some ⟨g1, 0, none⟩) (k + 1) k1) rfl rfl (by kernel_rfl) (by kernel_rfl) (by kernel_rfl) (fun _ _ _ h => h) hHeld (Or.inl ⟨by rfl, ?_⟩) ?_
          · rintro Z ⟨⟨z0, z1⟩, z2, z3, z4⟩
            go_simp
          try simp only [List.setIfInBounds_toArray, List.set_cons_zero, List.set_cons_succ]
          refine Rg.take_at 17 7 (.slice (some ⟨g2, 0, none⟩) (k + 1) k2) rfl rfl (by kernel_rfl) (by kernel_rfl) (by kernel_rfl) (fun _ _ _ h => h) hHeld (Or.inl ⟨by rfl, ?_⟩) ?_
          · rintro Z ⟨⟨z0, z1⟩, z2, z3, z4⟩
            go_simp
          try simp only [List.setIfInBounds_toArray, List.set_cons_zero, List.set_cons_succ]
          refine wpAnyH_done (by kernel_rfl) ?_ _
          refine NoPanic.normal ?_
          go_wp2_with fail
          go_roundw
          case rel => exact ⟨k + 1, by omega, by go_num, ⟨_, _, rfl⟩, ⟨_, _, rfl⟩, HT2.out, HB2.out⟩
          case measure => simp [intOf]; omega
      · refine Rg.wpOp_k rfl (by rfl) (fun K' hK => ?_)
        go_simp
        refine hK _ _ ?_
        clear hK K'
        have HB6 := hide (HAL.out wD (.cells #[.int .i64 (st.ct nm)] 3) HDN.out)
        have HT6 := hide (HTA.out wD (.cells #[.int .i64 (st.ct nm)] 3) HTD.out)
        refine ⟨HT6.out.s HNM.out, ?_⟩
        try simp only [Act.put, List.setIfInBounds_toArray, List.set_cons_zero, List.set_cons_succ]
        refine Rg.ready_one (i := 6) (by kernel_rfl) ?_
        refine Rg.wpOp_k rfl (by rfl) (fun K' hK => ?_)
        go_simp
        refine hK _ _ ?_
        clear hK K'
        have HBX := hide (HAL.out _ (.cells #[.bool (st.is nm)] 4) HB6.out)
        have HTX := hide (HTA.out _ (.cells #[.bool (st.is nm)] 4) HT6.out)
        have HZX : Hid (wB.heap.size ≤ ((wD.alloc (.cells #[.int .i64 (st.ct nm)] 3)).alloc (.cells #[.bool (st.is nm)] 4)).heap.size) := by show _ ≤ _; simp; omega
        refine ⟨HTX.out.s HNM.out, ?_⟩
        try simp only [Act.put, List.setIfInBounds_toArray, List.set_cons_zero, List.set_cons_succ]
        refine Rg.ready_one (i := 7) (by kernel_rfl) ?_
        have HN1 : Hid (((wD.alloc (.cells #[.int .i64 (st.ct nm)] 3)).alloc (.cells #[.bool (st.is nm)] 4)).heap[wD.heap.size + 1]? = some (.cells #[.bool (st.is nm)] 4 (0, 0))) := by
          show _ = _
          have h := heap_alloc_new (wD.alloc (.cells #[.int .i64 (st.ct nm)] 3)) (.cells #[.bool (st.is nm)] 4)
          rw [World.size_alloc] at h
          exact h
        refine Rg.wpOp_k rfl (by rfl) (fun K' hK => ?_)
        refine wp_append_lies _ (.tmp 17) (.tmp 23) 51 rfl wB.heap.size 4 i1 _ 1 1 Tryz.underlying51 hi1 hz10 hz11 hz12 rfl (by decide) (.slice a1 k cc1) k l1 rfl (HOW1.out _ HBX.out) ⟨wD.heap.size + 1, 0, none⟩ 1 1 [.bool (st.is nm)] rfl rfl (World.news_of_block (HN1.out)) (HONE.out _ rfl) (by decide) (by unfold maxLen; omega) (by omega) HZX.out _ rfl ?_
        intro g1 k1 W1 hown hgrow hat hltg
        obtain ⟨x1, x2, x3, x4⟩ := HA1.out _ W1 g1 k1 HBX.out HTX.out hown hgrow hat
        have HT1 := hide x1
        have HB1 := hide x2
        have HK1 := hide x3
        have HX4 := hide x4
        clear hown hgrow hat hltg x1 x2 x3 x4
        refine hK _ _ ?_
        clear hK K'
        refine ⟨HK1.out.s HNM.out, ?_⟩
        try simp only [Act.put, List.setIfInBounds_toArray, List.set_cons_zero, List.set_cons_succ]
        have HBY : Hid (Below W1.heap.size W1 W1) := Below.refl _ _
        have HKY := HK1
        have HZY : Hid (wB.heap.size ≤ W1.heap.size) := by have := HB1.out.size; show _ ≤ _; omega
        have HN2 : Hid (W1.heap[wD.heap.size]? = some (.cells #[.int .i64 (st.ct nm)] 3 (0, 0))) := by
          show _ = _
          rw [HX4.out _ (by simp; try omega) (by omega)]
          exact (Below.heap_alloc (wD.alloc (.cells #[.int .i64 (st.ct nm)] 3)) _ wD.heap.size (by simp)).trans (heap_alloc_new wD _)
        refine Rg.ready_one (i := 15) (by kernel_rfl) ?_
        refine Rg.wpOp_k rfl (by rfl) (fun K' hK => ?_)
        refine wp_append_lies _ (.tmp 25) (.tmp 31) 36 rfl wB.heap.size 3 i2 _ 1 8 Tryz.underlying36 hi2 hz20 hz21 hz22 rfl (by decide) (.slice a2 k cc2) k l2 rfl (HOW2.out W1 _ g1 k1 HT1.out HBY.out) ⟨wD.heap.size, 0, none⟩ 1 1 [.int .i64 (st.ct nm)] rfl rfl (World.news_of_block (HN2.out)) (HONE.out _ rfl) (by decide) (by unfold maxLen; omega) (by omega) HZY.out _ rfl ?_
        intro g2 k2 W2 hown hgrow hat hltg
        obtain ⟨x1, x2, x3⟩ := HA2.out W1 _ W2 g1 k1 g2 k2 HT1.out HB1.out HBY.out HKY.out hown hgrow (hat.imp id (fun e => by have := HBY.out.size; omega))
        have HT2 := hide x1
        have HB2 := hide x2
        have hHeld := x3.s HNM.out
        clear hown hgrow hat hltg x1 x2 x3
        refine hK _ _ ?_
        clear hK K'
        refine ⟨hHeld, ?_⟩
        try simp only [Act.put, List.setIfInBounds_toArray, List.set_cons_zero, List.set_cons_succ]
        refine Rg.take_at 16 6 (.slice (some ⟨g1, 0, none⟩) (k + 1) k1) rfl rfl (by kernel_rfl) (by kernel_rfl) (by kernel_rfl) (fun _ _ _ h => h) hHeld (Or.inl ⟨by rfl, ?_⟩) ?_
        · rintro Z ⟨⟨z0, z1⟩, z2, z3, z4⟩
          go_simp
        try simp only [List.setIfInBounds_toArray, List.set_cons_zero, List.set_cons_succ]
        refine Rg.take_at 17 7 (.slice (some ⟨g2, 0, none⟩) (k + 1) k2) rfl rfl (by kernel_rfl) (by kernel_rfl) (by kernel_rfl) (fun _ _ _ h => h) hHeld (Or.inl ⟨by rfl, ?_⟩) ?_
        · rintro Z ⟨⟨z0, z1⟩, z2, z3, z4⟩
          go_simp
        try simp only [List.setIfInBounds_toArray, List.set_cons_zero, List.set_cons_succ]
        refine wpAnyH_done (by kernel_rfl) ?_ _
        refine NoPanic.normal ?_
        go_wp2_with fail
        go_roundw
        case rel => exact ⟨k + 1, by omega, by go_num, ⟨_, _, rfl⟩, ⟨_, _, rfl⟩, HT2.out, HB2.out⟩
        case measure => simp [intOf]; omega
    · have hkm : k = m := by omega
      subst hkm
      rw [HM.out, List.take_length] at HT
      go_wp2_with fail
      go_ret2
      have HF : Hid (T2 w.heap.size wr 4 3 (.slice a1 ns.length cc1) (.slice a2 ns.length cc2) (isV st ns) (ctV st ns)) := ⟨own_mono HT.out.o1 (by omega), own_mono HT.out.o2 (by omega), HT.out.d12⟩
      rw [← HM.out] at HF
      exact ⟨HBB.out.trans (HB.out.mono HBB.out.size), _, _, rfl, HF.out⟩
end Rf
end Go.Proofs.YtgldbliohpfljaaGreatDoor
