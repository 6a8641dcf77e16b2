/-
  The walk of the document's Tells: what names are and how far they count, in their order. What stands while the document's scans are played: its state in a block of its own. Rows of signs in a row of slices, made by appending; what stands where a state of the document's lies in a block of its own.
-/
import Derived.Test.YtgldbliohpfljaaGreatDoorRgBaseAll
import Derived.Test.YtgldbliohpfljaaGreatDoorLdKindAll
import Derived.Test.YtgldbliohpfljaaGreatDoorRlEdgesAll
import Derived.Test.YtgldbliohpfljaaGreatDoorRfStep
import Derived.Test.YtgldbliohpfljaaGreatDoorNaEdgesAll
import Derived.Test.YtgldbliohpfljaaGreatDoorRfStateMAll
import Derived.Test.YtgldbliohpfljaaGreatDoorScTwoAll
namespace Go.Proofs.YtgldbliohpfljaaGreatDoor
section
namespace Rf
open Go.RowKit Go.Maps
def isV (st : St) (ns : List Ld.Nme) : List Value := ns.map fun n => .bool (st.is n.name)
def ctV (st : St) (ns : List Ld.Nme) : List Value := ns.map fun n => .int .i64 (st.ct n.name)
theorem isV_succ (st : St) (ns : List Ld.Nme) (k : Nat) (h : k < ns.length) : isV st (ns.take (k + 1)) = isV st (ns.take k) ++ [.bool (st.is ns[k].name)] := by
  unfold isV; rw [List.take_succ_eq_append_getElem h, List.map_append]; rfl
theorem ctV_succ (st : St) (ns : List Ld.Nme) (k : Nat) (h : k < ns.length) : ctV st (ns.take (k + 1)) = ctV st (ns.take k) ++ [.int .i64 (st.ct ns[k].name)] := by
  unfold ctV; rw [List.take_succ_eq_append_getElem h, List.map_append]; rfl
/-- what the round of Tells reads -/
def TK (W : World) (b0 b1 b2 bn n : Nat) (st : St) (nm : List UInt8) : Prop :=
  (W.cell? ⟨b0, 0, none⟩ = some (.map (some b1)) ∧ W.cell? ⟨b0, 1, none⟩ = some (.map (some b2)) ∧ W.cell? ⟨bn, 0, none⟩ = some (.string ⟨nm.toArray⟩)) ∧ BM W b1 n st.is ∧ IM W b2 n st.ct
theorem TK.below {W W' : World} {b0 b1 b2 bn n : Nat} {st : St} {nm : List UInt8} (h : TK W b0 b1 b2 bn n st nm) (hb : Below W.heap.size W W') : TK W' b0 b1 b2 bn n st nm := by
  obtain ⟨⟨h1, h2, h3⟩, h4, h5⟩ := h
  have k : ∀ p v, W.cell? p = some v → W'.cell? p = some v := fun p v e => (hb.cell (World.block_lt_of_cell? _ _ e)).trans e
  exact ⟨⟨k _ _ h1, k _ _ h2, k _ _ h3⟩, h4.below hb, h5.below hb⟩
theorem TK.grow {W W' : World} {q b0 b1 b2 bn n : Nat} {st : St} {nm : List UInt8} {ob : Option Nat} (h : TK W b0 b1 b2 bn n st nm) (hg : W.grownBy W' ob) (hq : b0 < q ∧ b1 < q ∧ b2 < q) (ho : ∀ g, ob = some g → q ≤ g ∧ g < bn) : TK W' b0 b1 b2 bn n st nm := by
  obtain ⟨⟨h1, h2, h3⟩, h4, h5⟩ := h
  have k : ∀ b, b < W.heap.size → b < q ∨ b = bn → W'.heap[b]? = W.heap[b]? := fun b hb hx => hg.block b hb (fun e => by have := ho b e.symm; omega)
  have c : ∀ b i v, b < q ∨ b = bn → W.cell? ⟨b, i, none⟩ = some v → W'.cell? ⟨b, i, none⟩ = some v := fun b i v hx e => by
    rw [World.cell?_of_block (k b (World.block_lt_of_cell? _ _ e) hx)]; exact e
  exact ⟨⟨c _ _ _ (.inl hq.1) h1, c _ _ _ (.inl hq.1) h2, c _ _ _ (.inr rfl) h3⟩, h4.kept (k _ h4.lt (.inl hq.2.1)), h5.kept (k _ h5.lt (.inl hq.2.2))⟩
def TKS (b0 b1 b2 bn : Nat) (st : St) (nm : List UInt8) (W : World) : Prop :=
  (W.cell? ⟨b0, 0, none⟩ = some (.map (some b1)) ∧ W.cell? ⟨b0, 1, none⟩ = some (.map (some b2))) ∧ W.cell? ⟨bn, 0, none⟩ = some (.string ⟨nm.toArray⟩) ∧
  (Instr.lookup 120 (.map (some b1)) (.string ⟨nm.toArray⟩) false).run Tryz.prog W = .ok (.bool (st.is nm)) W ∧ (Instr.lookup 121 (.map (some b2)) (.string ⟨nm.toArray⟩) false).run Tryz.prog W = .ok (.int .i64 (st.ct nm)) W
theorem TK.s {W : World} {b0 b1 b2 bn n : Nat} {st : St} {nm : List UInt8} (h : TK W b0 b1 b2 bn n st nm) (hn : nm.length ≤ maxLen) : TKS b0 b1 b2 bn st nm W :=
  ⟨⟨h.1.1, h.1.2.1⟩, h.1.2.2, h.2.1.look nm hn, h.2.2.look nm hn⟩
set_option linter.unusedSimpArgs false in
set_option maxHeartbeats 4000000 in
set_option maxRecDepth 100000 in
theorem Tells_any (ns : List Ld.Nme) (nv rv sv : Value) (n : Nat) (st : St) (w : World) (hn : NamesAt w nv ns) (hr : ∃ a n c, rv = .slice a n c) (hs : StIs w sv n st) :
    Calls Tryz.prog 62 #[sv, .agg #[nv, rv]] w fun e w' => Below w.heap.size w w' ∧ ∃ v1 v2, e = .returned (.tuple #[v1, v2]) ∧ T2 w.heap.size w' 4 3 v1 v2 (isV st ns) (ctV st ns) := by
  obtain ⟨ra, rn, rc, rfl⟩ := hr
  obtain ⟨b1, b2, rfl, h1, h2, hct⟩ := hs
  have HNA := hide hn
  have HM1 := hide h1
  have HM2 := hide h2
  obtain ⟨na, nc, rfl, hlen⟩ := hn.slice
  obtain ⟨m, hmm⟩ : ∃ m, m = ns.length := ⟨_, rfl⟩
  have HM := hide hmm
  rw [← hmm] at HNA hlen ⊢
  obtain ⟨wA, hwA⟩ : ∃ wA, wA = w.alloc (.cells #[.map (some b1), .map (some b2)] 123) := ⟨_, rfl⟩
  obtain ⟨wB, hwB⟩ : ∃ wB, wB = wA.alloc (.cells #[.slice na m nc, .slice ra rn rc] 45) := ⟨_, rfl⟩
  have zA : wA.heap.size = w.heap.size + 1 := by rw [hwA]; simp
  have zB : wB.heap.size = w.heap.size + 1 + 1 := by rw [hwB]; simp [zA]
  have bA : Below w.heap.size w wA := by rw [hwA]; exact (Below.refl _ _).alloc (Nat.le_refl _) _
  have bB : Below wA.heap.size wA wB := by rw [hwB]; exact (Below.refl _ _).alloc (Nat.le_refl _) _
  have HBB : Hid (Below w.heap.size w wB) := then_ bA bB
  have k0 : wB.heap[w.heap.size]? = some (.cells #[.map (some b1), .map (some b2)] 123 (0, 0)) := by
    rw [bB.block _ (by omega), hwA]; exact heap_alloc_new _ _
  have k1 : wB.heap[w.heap.size + 1]? = some (.cells #[.slice na m nc, .slice ra rn rc] 45 (0, 0)) := by
    rw [hwB, ← zA]; exact heap_alloc_new _ _
  have HBX : Hid (∀ W, Below wB.heap.size wB W → (W.cell? ⟨w.heap.size, 0, none⟩ = some (.map (some b1)) ∧ W.cell? ⟨w.heap.size, 1, none⟩ = some (.map (some b2))) ∧ (W.cell? ⟨w.heap.size + 1, 0, none⟩ = some (.slice na m nc) ∧ W.cell? ⟨w.heap.size + 1, 1, none⟩ = some (.slice ra rn rc))) := fun W h => by
    have e0 := (h.block w.heap.size (by omega)).trans k0
    have e1 := (h.block (w.heap.size + 1) (by omega)).trans k1
    refine ⟨⟨?_, ?_⟩, ⟨?_, ?_⟩⟩
    · rw [Lib.cell_of_heap e0]; rfl
    · rw [Lib.cell_of_heap e0]; rfl
    · rw [Lib.cell_of_heap e1]; rfl
    · rw [Lib.cell_of_heap e1]; rfl
  obtain ⟨⟨c0, c1⟩, ⟨c2, c3⟩⟩ := HBX.out wB (Below.refl _ _)
  have HWB : Hid (wB = (w.alloc (.cells #[.map (some b1), .map (some b2)] 123)).alloc (.cells #[.slice na m nc, .slice ra rn rc] 45)) := by rw [hwB, hwA]; rfl
  rw [HWB.out] at c0 c1 c2 c3
  clear hn h1 h2 hct hmm bA bB k0 k1 hwA hwB
  go_enter Tryz.func62, Tryz.ntmps62
  go_wp2_with fail
  rw [← HWB.out]
  go_loopw [6, 7, 13] (fun v1 v2 i wr => ∃ k : Nat, k ≤ m ∧ i = .int .i64 (k : Int) ∧ (∃ a c, v1 = .slice a k c) ∧ (∃ a c, v2 = .slice a k c) ∧ Hid (T2 wB.heap.size wr 4 3 v1 v2 (isV st (ns.take k)) (ctV st (ns.take k))) ∧ Hid (Below wB.heap.size wB wr)) (fun _ _ i _ => m - (intOf i).toNat)
  case atStart => exact ⟨0, Nat.zero_le _, rfl, ⟨_, _, rfl⟩, ⟨_, _, rfl⟩, ⟨World.ownsRow_nil _ _ _ _, World.ownsRow_nil _ _ _ _, fun g e => by cases e⟩, Below.refl _ _⟩
  case round =>
    obtain ⟨k, hk, rfl, ⟨a1, cc1, rfl⟩, ⟨a2, cc2, rfl⟩, HT, HB⟩ := hrel
    have hzB := HB.out.size
    by_cases hlt : k < m
    · have hkl : k < ns.length := by rw [← HM.out]; exact hlt
      obtain ⟨gN, rfl, hcp, e1, e2, e3, hnl, _, _⟩ := (HNA.out.below (HBB.out.trans (HB.out.mono HBB.out.size))).at_ (List.getElem?_eq_getElem hkl)
      have HIS := hide (isV_succ st ns k hkl)
      have HCS := hide (ctV_succ st ns k hkl)
      have hki : (k : Int) < (m : Int) := by omega
      generalize ns[k] = y at *
      obtain ⟨nm, kd, ct⟩ := y
      dsimp only at e1 e2 e3 hnl HIS HCS
      have HLI : Hid ((isV st (ns.take k)).length = k) := by have := HM.out; show _ = _; simp [isV]; omega
      have HLC : Hid ((ctV st (ns.take k)).length = k) := by have := HM.out; show _ = _; simp [ctV]; omega
      have hkb : k < 1000000 := by omega
      obtain ⟨i1, hi1, hz10, hz11, hz12⟩ := info_parts Tryz.infoBool
      obtain ⟨i2, hi2, hz20, hz21, hz22⟩ := info_parts Tryz.infoInt
      have hbw : Below w.heap.size w wr := HBB.out.trans (HB.out.mono HBB.out.size)
      have HNM : Hid (nm.length ≤ maxLen) := hnl
      obtain ⟨⟨x0, x1⟩, _⟩ := HBX.out wr HB.out
      obtain ⟨wN, hwN⟩ : ∃ wN, wN = wr.alloc (.cells #[.string ⟨nm.toArray⟩, .int .i64 kd, .int .i64 ct] 144) := ⟨_, rfl⟩
      have hbN : Below wr.heap.size wr wN := by rw [hwN]; exact (Below.refl _ _).alloc (Nat.le_refl _) _
      have hzN : wN.heap.size = wr.heap.size + 1 := by rw [hwN]; simp
      have hnb : wN.cell? ⟨wr.heap.size, 0, none⟩ = some (.string ⟨nm.toArray⟩) := by rw [hwN]; exact Lib.cell_of_heap (heap_alloc_new wr _) 0
      have hkeep : ∀ p v, wr.cell? p = some v → wN.cell? p = some v := fun p v e => (hbN.cell (World.block_lt_of_cell? _ _ e)).trans e
      have HTK : Hid (TK wN w.heap.size b1 b2 wr.heap.size n st nm) := ⟨⟨hkeep _ _ x0, hkeep _ _ x1, hnb⟩, (HM1.out.below hbw).below hbN, (HM2.out.below hbw).below hbN⟩
      have HQ : Hid (w.heap.size < wB.heap.size ∧ b1 < wB.heap.size ∧ b2 < wB.heap.size) := by
        have h1 := HM1.out.lt
        have h2 := HM2.out.lt
        refine ⟨?_, ?_, ?_⟩ <;> omega
      have HO1 : Hid (∀ g, (Value.slice a1 k cc1).ownBlock = some g → wB.heap.size ≤ g ∧ g < wr.heap.size) := fun g e => own_lt HT.out.o1 e
      have HO2 : Hid (∀ g, (Value.slice a2 k cc2).ownBlock = some g → wB.heap.size ≤ g ∧ g < wr.heap.size) := fun g e => own_lt HT.out.o2 e
      have HBN := hide hbN
      have HDN : Hid (Below wr.heap.size wr wN.drew) := ⟨hbN.os, hbN.tape, hbN.output, hbN.size, hbN.block⟩
      have HWN := hide hwN
      have HZN := hide hzN
      have HONE : Hid (∀ v : Value, v.oneCell' = true → ∀ u ∈ [v], u.oneCell' = true) := fun v hv u hu => by
        obtain rfl := List.mem_singleton.1 hu
        exact hv
      generalize isV st (ns.take k) = l1 at *
      generalize ctV st (ns.take k) = l2 at *
      have HFIN : Hid (∀ W g1 k1 g2 k2, T2 wB.heap.size W 4 3 (.slice (some ⟨g1, 0, none⟩) (k + 1) k1) (.slice (some ⟨g2, 0, none⟩) (k + 1) k2) (l1 ++ [.bool (st.is nm)]) (l2 ++ [.int .i64 (st.ct nm)]) → T2 wB.heap.size W 4 3 (.slice (some ⟨g1, 0, none⟩) (k + 1) k1) (.slice (some ⟨g2, 0, none⟩) (k + 1) k2) (isV st (ns.take (k + 1))) (ctV st (ns.take (k + 1)))) := fun W g1 k1 g2 k2 h => by rw [HIS.out, HCS.out]; exact h
      clear hbw hbN hzN hnb hkeep hwN x0 x1
      go_wp2_with fail
      rw [← HWN.out]
      clear HWN
      refine wp_region_noPanic ?_
      refine wp_region_held_drew (S := TKS w.heap.size b1 b2 wr.heap.size st nm) (by kernel_rfl) ((TK.below (W' := wN.drew) HTK.out ⟨rfl, rfl, rfl, Nat.le_refl _, fun _ _ => rfl⟩).s HNM.out) (fun hHeld => ?_)
      refine Rg.take_at 0 17 (.slice a1 k cc1) rfl rfl (by kernel_rfl) (by kernel_rfl) (by kernel_rfl) (fun _ _ _ h => h) hHeld (Or.inl ⟨by rfl, ?_⟩) ?_
      · rintro Z ⟨⟨z0, z1⟩, z2, z3, z4⟩
        go_simp
      try simp only [List.setIfInBounds_toArray, List.set_cons_zero, List.set_cons_succ]
      refine Rg.take_at 1 18 (.pointer (some ⟨w.heap.size, 0, none⟩)) rfl rfl (by kernel_rfl) (by kernel_rfl) (by kernel_rfl) (fun _ _ _ h => h) hHeld (Or.inl ⟨by rfl, ?_⟩) ?_
      · rintro Z ⟨⟨z0, z1⟩, z2, z3, z4⟩
        go_simp
      try simp only [List.setIfInBounds_toArray, List.set_cons_zero, List.set_cons_succ]
      refine Rg.take_at 2 19 (.map (some b1)) rfl rfl (by kernel_rfl) (by kernel_rfl) (by kernel_rfl) (fun _ _ _ h => h) hHeld (Or.inl ⟨by rfl, ?_⟩) ?_
      · rintro Z ⟨⟨z0, z1⟩, z2, z3, z4⟩
        go_simp
      try simp only [List.setIfInBounds_toArray, List.set_cons_zero, List.set_cons_succ]
      refine Rg.take_at 3 20 (.pointer (some ⟨wr.heap.size, 0, none⟩)) rfl rfl (by kernel_rfl) (by kernel_rfl) (by kernel_rfl) (fun _ _ _ h => h) hHeld (Or.inl ⟨by rfl, ?_⟩) ?_
      · rintro Z ⟨⟨z0, z1⟩, z2, z3, z4⟩
        go_simp
      try simp only [List.setIfInBounds_toArray, List.set_cons_zero, List.set_cons_succ]
      refine Rg.take_at 4 21 (.string ⟨nm.toArray⟩) rfl rfl (by kernel_rfl) (by kernel_rfl) (by kernel_rfl) (fun _ _ _ h => h) hHeld (Or.inl ⟨by rfl, ?_⟩) ?_
      · rintro Z ⟨⟨z0, z1⟩, z2, z3, z4⟩
        go_simp
      try simp only [List.setIfInBounds_toArray, List.set_cons_zero, List.set_cons_succ]
      refine Rg.take_at 5 22 (.bool (st.is nm)) rfl rfl (by kernel_rfl) (by kernel_rfl) (by kernel_rfl) (fun _ _ _ h => h) hHeld (Or.inl ⟨by rfl, ?_⟩) ?_
      · rintro Z ⟨⟨z0, z1⟩, z2, z3, z4⟩
        go_simp
      try simp only [List.setIfInBounds_toArray, List.set_cons_zero, List.set_cons_succ]
      refine Rg.take_at 8 25 (.slice a2 k cc2) rfl rfl (by kernel_rfl) (by kernel_rfl) (by kernel_rfl) (fun _ _ _ h => h) hHeld (Or.inl ⟨by rfl, ?_⟩) ?_
      · rintro Z ⟨⟨z0, z1⟩, z2, z3, z4⟩
        go_simp
      try simp only [List.setIfInBounds_toArray, List.set_cons_zero, List.set_cons_succ]
      refine Rg.take_at 9 26 (.pointer (some ⟨w.heap.size, 1, none⟩)) rfl rfl (by kernel_rfl) (by kernel_rfl) (by kernel_rfl) (fun _ _ _ h => h) hHeld (Or.inl ⟨by rfl, ?_⟩) ?_
      · rintro Z ⟨⟨z0, z1⟩, z2, z3, z4⟩
        go_simp
      try simp only [List.setIfInBounds_toArray, List.set_cons_zero, List.set_cons_succ]
      refine Rg.take_at 10 27 (.map (some b2)) rfl rfl (by kernel_rfl) (by kernel_rfl) (by kernel_rfl) (fun _ _ _ h => h) hHeld (Or.inl ⟨by rfl, ?_⟩) ?_
      · rintro Z ⟨⟨z0, z1⟩, z2, z3, z4⟩
        go_simp
      try simp only [List.setIfInBounds_toArray, List.set_cons_zero, List.set_cons_succ]
      refine Rg.take_at 11 28 (.pointer (some ⟨wr.heap.size, 0, none⟩)) rfl rfl (by kernel_rfl) (by kernel_rfl) (by kernel_rfl) (fun _ _ _ h => h) hHeld (Or.inl ⟨by rfl, ?_⟩) ?_
      · rintro Z ⟨⟨z0, z1⟩, z2, z3, z4⟩
        go_simp
      try simp only [List.setIfInBounds_toArray, List.set_cons_zero, List.set_cons_succ]
      refine Rg.take_at 12 29 (.string ⟨nm.toArray⟩) rfl rfl (by kernel_rfl) (by kernel_rfl) (by kernel_rfl) (fun _ _ _ h => h) hHeld (Or.inl ⟨by rfl, ?_⟩) ?_
      · rintro Z ⟨⟨z0, z1⟩, z2, z3, z4⟩
        go_simp
      try simp only [List.setIfInBounds_toArray, List.set_cons_zero, List.set_cons_succ]
      refine Rg.take_at 13 30 (.int .i64 (st.ct nm)) rfl rfl (by kernel_rfl) (by kernel_rfl) (by kernel_rfl) (fun _ _ _ h => h) hHeld (Or.inl ⟨by rfl, ?_⟩) ?_
      · rintro Z ⟨⟨z0, z1⟩, z2, z3, z4⟩
        go_simp
      try simp only [List.setIfInBounds_toArray, List.set_cons_zero, List.set_cons_succ]
      obtain ⟨wD, hwD⟩ : ∃ wD, wD = wN.drew := ⟨_, rfl⟩
      have HTD : Hid (TK wD w.heap.size b1 b2 wr.heap.size n st nm) := by rw [hwD]; exact TK.below (W' := wN.drew) HTK.out ⟨rfl, rfl, rfl, Nat.le_refl _, fun _ _ => rfl⟩
      rw [← hwD] at HDN ⊢
      have hzD : wr.heap.size ≤ wD.heap.size := by rw [hwD]; have := HZN.out; show wr.heap.size ≤ wN.heap.size; omega
      clear hwD hHeld HTK
      have HA1 : Hid (∀ (X W1 : World) (g1 k1 : Nat), Below wr.heap.size wr X → TK X w.heap.size b1 b2 wr.heap.size n st nm → W1.ownsRow wB.heap.size 4 1 (.slice (some ⟨g1, 0, none⟩) (k + 1) k1) (k + 1) (l1 ++ [.bool (st.is nm)]) → X.grownBy W1 (Value.slice a1 k cc1).ownBlock → ((Value.slice a1 k cc1).ownBlock = some g1 ∨ g1 = X.heap.size) →
          T2 wB.heap.size W1 4 3 (.slice (some ⟨g1, 0, none⟩) (k + 1) k1) (.slice a2 k cc2) (l1 ++ [.bool (st.is nm)]) l2 ∧ Below wB.heap.size wr W1 ∧ TK W1 w.heap.size b1 b2 wr.heap.size n st nm ∧ ∀ b, b < X.heap.size → wr.heap.size ≤ b → W1.heap[b]? = X.heap[b]?) := fun X W1 g1 k1 hX hK h1 h2 h3 => by
        have hz := hX.size
        obtain ⟨x1, x2, x3⟩ := HT.out.app hzB HLI.out hX h1 h2 (h3.imp id (fun e => by omega))
        exact ⟨x1, x2, hK.grow h2 HQ.out HO1.out, x3⟩
      have HA2 : Hid (∀ (W1 X W2 : World) (g1 k1 g2 k2 : Nat), T2 wB.heap.size W1 4 3 (.slice (some ⟨g1, 0, none⟩) (k + 1) k1) (.slice a2 k cc2) (l1 ++ [.bool (st.is nm)]) l2 → Below wB.heap.size wr W1 → Below W1.heap.size W1 X → TK X w.heap.size b1 b2 wr.heap.size n st nm → W2.ownsRow wB.heap.size 3 1 (.slice (some ⟨g2, 0, none⟩) (k + 1) k2) (k + 1) (l2 ++ [.int .i64 (st.ct nm)]) → X.grownBy W2 (Value.slice a2 k cc2).ownBlock → ((Value.slice a2 k cc2).ownBlock = some g2 ∨ W1.heap.size ≤ g2) →
          T2 wB.heap.size W2 4 3 (.slice (some ⟨g1, 0, none⟩) (k + 1) k1) (.slice (some ⟨g2, 0, none⟩) (k + 1) k2) (isV st (ns.take (k + 1))) (ctV st (ns.take (k + 1))) ∧ Below wB.heap.size wB W2 ∧ TK W2 w.heap.size b1 b2 wr.heap.size n st nm) := fun W1 X W2 g1 k1 g2 k2 hT hB hX hK h1 h2 h3 => by
        have hz1 := hB.size
        obtain ⟨x1, x2, x3⟩ := hT.rot.app (by omega) HLC.out hX h1 h2 h3
        exact ⟨HFIN.out _ _ _ _ _ x1.rot, HB.out.trans (hB.trans x2), hK.grow h2 HQ.out HO2.out⟩
      have HOW1 : Hid (∀ X, Below wr.heap.size wr X → X.ownsRow wB.heap.size 4 1 (.slice a1 k cc1) k l1) := fun X hX => by have h := own_below HT.out.o1 hX; rw [HLI.out] at h; exact h
      have HOW2 : Hid (∀ (W1 X : World) (g1 k1 : Nat), T2 wB.heap.size W1 4 3 (.slice (some ⟨g1, 0, none⟩) (k + 1) k1) (.slice a2 k cc2) (l1 ++ [.bool (st.is nm)]) l2 → Below W1.heap.size W1 X → X.ownsRow wB.heap.size 3 1 (.slice a2 k cc2) k l2) := fun W1 X g1 k1 hT hX => by have h := own_below hT.o2 hX; rw [HLC.out] at h; exact h
      have HAL : Hid (∀ (X : World) (o : Obj), Below wr.heap.size wr X → Below wr.heap.size wr (X.alloc o)) := fun X o h => h.alloc h.size o
      have HTA : Hid (∀ (X : World) (o : Obj), TK X w.heap.size b1 b2 wr.heap.size n st nm → TK (X.alloc o) w.heap.size b1 b2 wr.heap.size n st nm) := fun X o h => h.below ((Below.refl _ _).alloc (Nat.le_refl _) _)
      clear HIS HCS
      refine Rg.ready_two (i := 6) (j := 14) (by kernel_rfl) ?_ ?_
      · refine Rg.wpOp_k rfl (by rfl) (fun K' hK => ?_)
        go_simp
        refine hK _ _ ?_
        clear hK K'
        have HB6 := hide (HAL.out wD (.cells #[.bool (st.is nm)] 4) HDN.out)
        have HT6 := hide (HTA.out wD (.cells #[.bool (st.is nm)] 4) HTD.out)
        refine ⟨HT6.out.s HNM.out, ?_⟩
        try simp only [Act.put, List.setIfInBounds_toArray, List.set_cons_zero, List.set_cons_succ]
        refine Rg.ready_two (i := 7) (j := 14) (by kernel_rfl) ?_ ?_
        · have HBX := HB6
          have HTX := HT6
          have HZX : Hid (wB.heap.size ≤ (wD.alloc (.cells #[.bool (st.is nm)] 4)).heap.size) := by show _ ≤ _; simp; omega
          refine Rg.wpOp_k rfl (by rfl) (fun K' hK => ?_)
          refine wp_append_lies _ (.tmp 17) (.tmp 23) 51 rfl wB.heap.size 4 i1 _ 1 1 Tryz.underlying51 hi1 hz10 hz11 hz12 rfl (by decide) (.slice a1 k cc1) k l1 rfl (HOW1.out _ HBX.out) ⟨wD.heap.size, 0, none⟩ 1 1 [.bool (st.is nm)] rfl rfl (World.news_of_block (heap_alloc_new wD _)) (HONE.out _ rfl) (by decide) (by unfold maxLen; omega) (by omega) HZX.out _ rfl ?_
          intro g1 k1 W1 hown hgrow hat hltg
          obtain ⟨x1, x2, x3, x4⟩ := HA1.out _ W1 g1 k1 HBX.out HTX.out hown hgrow hat
          have HT1 := hide x1
          have HB1 := hide x2
          have HK1 := hide x3
          have HX4 := hide x4
          clear hown hgrow hat hltg x1 x2 x3 x4
          refine hK _ _ ?_
          clear hK K'
          refine ⟨HK1.out.s HNM.out, ?_⟩
          try simp only [Act.put, List.setIfInBounds_toArray, List.set_cons_zero, List.set_cons_succ]
          refine Rg.ready_one (i := 14) (by kernel_rfl) ?_
          refine Rg.wpOp_k rfl (by rfl) (fun K' hK => ?_)
          go_simp
          refine hK _ _ ?_
          clear hK K'
          have HBY : Hid (Below W1.heap.size W1 (W1.alloc (.cells #[.int .i64 (st.ct nm)] 3))) := (Below.refl _ _).alloc (Nat.le_refl _) _
          have HKY := hide (HTA.out W1 (.cells #[.int .i64 (st.ct nm)] 3) HK1.out)
          have HZY : Hid (wB.heap.size ≤ (W1.alloc (.cells #[.int .i64 (st.ct nm)] 3)).heap.size) := by have := HB1.out.size; show _ ≤ _; simp; omega
          refine ⟨HKY.out.s HNM.out, ?_⟩
          try simp only [Act.put, List.setIfInBounds_toArray, List.set_cons_zero, List.set_cons_succ]
          refine Rg.ready_one (i := 15) (by kernel_rfl) ?_
          refine Rg.wpOp_k rfl (by rfl) (fun K' hK => ?_)
          refine wp_append_lies _ (.tmp 25) (.tmp 31) 36 rfl wB.heap.size 3 i2 _ 1 8 Tryz.underlying36 hi2 hz20 hz21 hz22 rfl (by decide) (.slice a2 k cc2) k l2 rfl (HOW2.out W1 _ g1 k1 HT1.out HBY.out) ⟨W1.heap.size, 0, none⟩ 1 1 [.int .i64 (st.ct nm)] rfl rfl (World.news_of_block (heap_alloc_new W1 _)) (HONE.out _ rfl) (by decide) (by unfold maxLen; omega) (by omega) HZY.out _ rfl ?_
          intro g2 k2 W2 hown hgrow hat hltg
          obtain ⟨x1, x2, x3⟩ := HA2.out W1 _ W2 g1 k1 g2 k2 HT1.out HB1.out HBY.out HKY.out hown hgrow (hat.imp id (fun e => by have := HBY.out.size; omega))
          have HT2 := hide x1
          have HB2 := hide x2
          have hHeld := x3.s HNM.out
          clear hown hgrow hat hltg x1 x2 x3
          refine hK _ _ ?_
          clear hK K'
          refine ⟨hHeld, ?_⟩
          try simp only [Act.put, List.setIfInBounds_toArray, List.set_cons_zero, List.set_cons_succ]
          refine Rg.take_at 16 6 (.slice (some ⟨g1, 0, none⟩) (k + 1) k1) rfl rfl (by kernel_rfl) (by kernel_rfl) (by kernel_rfl) (fun _ _ _ h => h) hHeld (Or.inl ⟨by rfl, ?_⟩) ?_
          · rintro Z ⟨⟨z0, z1⟩, z2, z3, z4⟩
            go_simp
          try simp only [List.setIfInBounds_toArray, List.set_cons_zero, List.set_cons_succ]
          refine Rg.take_at 17 7 (.slice (some ⟨g2, 0, none⟩) (k + 1) k2) rfl rfl (by kernel_rfl) (by kernel_rfl) (by kernel_rfl) (fun _ _ _ h => h) hHeld (Or.inl ⟨by rfl, ?_⟩) ?_
          · rintro Z ⟨⟨z0, z1⟩, z2, z3, z4⟩
            go_simp
          try simp only [List.setIfInBounds_toArray, List.set_cons_zero, List.set_cons_succ]
          refine wpAnyH_done (by kernel_rfl) ?_ _
          refine NoPanic.normal ?_
          go_wp2_with fail
          go_roundw
          case rel => exact ⟨k + 1, by omega, by go_num, ⟨_, _, rfl⟩, ⟨_, _, rfl⟩, HT2.out, HB2.out⟩
          case measure => simp [intOf]; omega
        · refine Rg.wpOp_k rfl (by rfl) (fun K' hK => ?_)
          go_simp
          refine hK _ _ ?_
          clear hK K'
          have HBX := hide (HAL.out _ (.cells #[.int .i64 (st.ct nm)] 3) HB6.out)
          have HTX := hide (HTA.out _ (.cells #[.int .i64 (st.ct nm)] 3) HT6.out)
          have HZX : Hid (wB.heap.size ≤ ((wD.alloc (.cells #[.bool (st.is nm)] 4)).alloc (.cells #[.int .i64 (st.ct nm)] 3)).heap.size) := by show _ ≤ _; simp; omega
          refine ⟨HTX.out.s HNM.out, ?_⟩
          try simp only [Act.put, List.setIfInBounds_toArray, List.set_cons_zero, List.set_cons_succ]
          refine Rg.ready_one (i := 7) (by kernel_rfl) ?_
          refine Rg.wpOp_k rfl (by rfl) (fun K' hK => ?_)
          refine wp_append_lies _ (.tmp 17) (.tmp 23) 51 rfl wB.heap.size 4 i1 _ 1 1 Tryz.underlying51 hi1 hz10 hz11 hz12 rfl (by decide) (.slice a1 k cc1) k l1 rfl (HOW1.out _ HBX.out) ⟨wD.heap.size, 0, none⟩ 1 1 [.bool (st.is nm)] rfl rfl (World.news_of_block ((Below.heap_alloc (wD.alloc (.cells #[.bool (st.is nm)] 4)) _ wD.heap.size (by simp)).trans (heap_alloc_new wD _))) (HONE.out _ rfl) (by decide) (by unfold maxLen; omega) (by omega) HZX.out _ rfl ?_
          intro g1 k1 W1 hown hgrow hat hltg
          obtain ⟨x1, x2, x3, x4⟩ := HA1.out _ W1 g1 k1 HBX.out HTX.out hown hgrow hat
          have HT1 := hide x1
          have HB1 := hide x2
          have HK1 := hide x3
          have HX4 := hide x4
          clear hown hgrow hat hltg x1 x2 x3 x4
          refine hK _ _ ?_
          clear hK K'
          refine ⟨HK1.out.s HNM.out, ?_⟩
          try simp only [Act.put, List.setIfInBounds_toArray, List.set_cons_zero, List.set_cons_succ]
          have HBY : Hid (Below W1.heap.size W1 W1) := Below.refl _ _
          have HKY := HK1
          have HZY : Hid (wB.heap.size ≤ W1.heap.size) := by have := HB1.out.size; show _ ≤ _; omega
          have HN2 : Hid (W1.heap[wD.heap.size + 1]? = some (.cells #[.int .i64 (st.ct nm)] 3 (0, 0))) := by
            show _ = _
            rw [HX4.out _ (by simp; try omega) (by omega)]
            have h := heap_alloc_new (wD.alloc (.cells #[.bool (st.is nm)] 4)) (.cells #[.int .i64 (st.ct nm)] 3)
            rw [World.size_alloc] at h
            exact h
          refine Rg.ready_one (i := 15) (by kernel_rfl) ?_
          refine Rg.wpOp_k rfl (by rfl) (fun K' hK => ?_)
          refine wp_append_lies _ (.tmp 25) (.tmp 31) 36 rfl wB.heap.size 3 i2 _ 1 8 Tryz.underlying36 hi2 hz20 hz21 hz22 rfl (by decide) (.slice a2 k cc2) k l2 rfl (HOW2.out W1 _ g1 k1 HT1.out HBY.out) ⟨wD.heap.size + 1, 0, none⟩ 1 1 [.int .i64 (st.ct nm)] rfl rfl (World.news_of_block (HN2.out)) (HONE.out _ rfl) (by decide) (by unfold maxLen; omega) (by omega) HZY.out _ rfl ?_
          intro g2 k2 W2 hown hgrow hat hltg
          obtain ⟨x1, x2, x3⟩ := HA2.out W1 _ W2 g1 k1 g2 k2 HT1.out HB1.out HBY.out HKY.out hown hgrow (hat.imp id (fun e => by have := HBY.out.size; omega))
          have HT2 := hide x1
          have HB2 := hide x2
          have hHeld := x3.s HNM.out
          clear hown hgrow hat hltg x1 x2 x3
          refine hK _ _ ?_
          clear hK K'
          refine ⟨hHeld, ?_⟩
          try simp only [Act.put, List.setIfInBounds_toArray, List.set_cons_zero, List.set_cons_succ]
          refine Rg.take_at 16 6 (.slice (some ⟨g1, 0, none⟩) (k + 1) k1) rfl rfl (by kernel_rfl) (by kernel_rfl) (by kernel_rfl) (fun _ _ _ h => h) hHeld (Or.inl ⟨by rfl, ?_⟩) ?_
          · rintro Z ⟨⟨z0, z1⟩, z2, z3, z4⟩
            go_simp
          try simp only [List.setIfInBounds_toArray, List.set_cons_zero, List.set_cons_succ]
          refine Rg.take_at 17 7 (.slice (some ⟨g2, 0, none⟩) (k + 1) k2) rfl rfl (by kernel_rfl) (by kernel_rfl) (by kernel_rfl) (fun _ _ _ h => h) hHeld (Or.inl ⟨by rfl, ?_⟩) ?_
          · rintro Z ⟨⟨z0, z1⟩, z2, z3, z4⟩
            go_simp
          try simp only [List.setIfInBounds_toArray, List.set_cons_zero, List.set_cons_succ]
          refine wpAnyH_done (by kernel_rfl) ?_ _
          refine NoPanic.normal ?_
          go_wp2_with fail
          go_roundw
          case rel => exact ⟨k + 1, by omega, by go_num, ⟨_, _, rfl⟩, ⟨_, _, rfl⟩, HT2.out, HB2.out⟩
          case measure => simp [intOf]; omega
      · refine Rg.wpOp_k rfl (by rfl) (fun K' hK => ?_)
        go_simp
        refine hK _ _ ?_
        clear hK K'
        have HB6 := hide (HAL.out wD (.cells #[.int .i64 (st.ct nm)] 3) HDN.out)
        have HT6 := hide (HTA.out wD (.cells #[.int .i64 (st.ct nm)] 3) HTD.out)
        refine ⟨HT6.out.s HNM.out, ?_⟩
        try simp only [Act.put, List.setIfInBounds_toArray, List.set_cons_zero, List.set_cons_succ]
        refine Rg.ready_one (i := 6) (by kernel_rfl) ?_
        refine Rg.wpOp_k rfl (by rfl) (fun K' hK => ?_)
        go_simp
        refine hK _ _ ?_
        clear hK K'
        have HBX := hide (HAL.out _ (.cells #[.bool (st.is nm)] 4) HB6.out)
        have HTX := hide (HTA.out _ (.cells #[.bool (st.is nm)] 4) HT6.out)
        have HZX : Hid (wB.heap.size ≤ ((wD.alloc (.cells #[.int .i64 (st.ct nm)] 3)).alloc (.cells #[.bool (st.is nm)] 4)).heap.size) := by show _ ≤ _; simp; omega
        refine ⟨HTX.out.s HNM.out, ?_⟩
        try simp only [Act.put, List.setIfInBounds_toArray, List.set_cons_zero, List.set_cons_succ]
        refine Rg.ready_one (i := 7) (by kernel_rfl) ?_
        have HN1 : Hid (((wD.alloc (.cells #[.int .i64 (st.ct nm)] 3)).alloc (.cells #[.bool (st.is nm)] 4)).heap[wD.heap.size + 1]? = some (.cells #[.bool (st.is nm)] 4 (0, 0))) := by
          show _ = _
          have h := heap_alloc_new (wD.alloc (.cells #[.int .i64 (st.ct nm)] 3)) (.cells #[.bool (st.is nm)] 4)
          rw [World.size_alloc] at h
          exact h
        refine Rg.wpOp_k rfl (by rfl) (fun K' hK => ?_)
        refine wp_append_lies _ (.tmp 17) (.tmp 23) 51 rfl wB.heap.size 4 i1 _ 1 1 Tryz.underlying51 hi1 hz10 hz11 hz12 rfl (by decide) (.slice a1 k cc1) k l1 rfl (HOW1.out _ HBX.out) ⟨wD.heap.size + 1, 0, none⟩ 1 1 [.bool (st.is nm)] rfl rfl (World.news_of_block (HN1.out)) (HONE.out _ rfl) (by decide) (by unfold maxLen; omega) (by omega) HZX.out _ rfl ?_
        intro g1 k1 W1 hown hgrow hat hltg
        obtain ⟨x1, x2, x3, x4⟩ := HA1.out _ W1 g1 k1 HBX.out HTX.out hown hgrow hat
        have HT1 := hide x1
        have HB1 := hide x2
        have HK1 := hide x3
        have HX4 := hide x4
        clear hown hgrow hat hltg x1 x2 x3 x4
        refine hK _ _ ?_
        clear hK K'
        refine ⟨HK1.out.s HNM.out, ?_⟩
        try simp only [Act.put, List.setIfInBounds_toArray, List.set_cons_zero, List.set_cons_succ]
        have HBY : Hid (Below W1.heap.size W1 W1) := Below.refl _ _
        have HKY := HK1
        have HZY : Hid (wB.heap.size ≤ W1.heap.size) := by have := HB1.out.size; show _ ≤ _; omega
        have HN2 : Hid (W1.heap[wD.heap.size]? = some (.cells #[.int .i64 (st.ct nm)] 3 (0, 0))) := by
          show _ = _
          rw [HX4.out _ (by simp; try omega) (by omega)]
          exact (Below.heap_alloc (wD.alloc (.cells #[.int .i64 (st.ct nm)] 3)) _ wD.heap.size (by simp)).trans (heap_alloc_new wD _)
        refine Rg.ready_one (i := 15) (by kernel_rfl) ?_
        refine Rg.wpOp_k rfl (by rfl) (fun K' hK => ?_)
        refine wp_append_lies _ (.tmp 25) (.tmp 31) 36 rfl wB.heap.size 3 i2 _ 1 8 Tryz.underlying36 hi2 hz20 hz21 hz22 rfl (by decide) (.slice a2 k cc2) k l2 rfl (HOW2.out W1 _ g1 k1 HT1.out HBY.out) ⟨wD.heap.size, 0, none⟩ 1 1 [.int .i64 (st.ct nm)] rfl rfl (World.news_of_block (HN2.out)) (HONE.out _ rfl) (by decide) (by unfold maxLen; omega) (by omega) HZY.out _ rfl ?_
        intro g2 k2 W2 hown hgrow hat hltg
        obtain ⟨x1, x2, x3⟩ := HA2.out W1 _ W2 g1 k1 g2 k2 HT1.out HB1.out HBY.out HKY.out hown hgrow (hat.imp id (fun e => by have := HBY.out.size; omega))
        have HT2 := hide x1
        have HB2 := hide x2
        have hHeld := x3.s HNM.out
        clear hown hgrow hat hltg x1 x2 x3
        refine hK _ _ ?_
        clear hK K'
        refine ⟨hHeld, ?_⟩
        try simp only [Act.put, List.setIfInBounds_toArray, List.set_cons_zero, List.set_cons_succ]
        refine Rg.take_at 16 6 (.slice (some ⟨g1, 0, none⟩) (k + 1) k1) rfl rfl (by kernel_rfl) (by kernel_rfl) (by kernel_rfl) (fun _ _ _ h => h) hHeld (Or.inl ⟨by rfl, ?_⟩) ?_
        · rintro Z ⟨⟨z0, z1⟩, z2, z3, z4⟩
          go_simp
        try simp only [List.setIfInBounds_toArray, List.set_cons_zero, List.set_cons_succ]
        refine Rg.take_at 17 7 (.slice (some ⟨g2, 0, none⟩) (k + 1) k2) rfl rfl (by kernel_rfl) (by kernel_rfl) (by kernel_rfl) (fun _ _ _ h => h) hHeld (Or.inl ⟨by rfl, ?_⟩) ?_
        · rintro Z ⟨⟨z0, z1⟩, z2, z3, z4⟩
          go_simp
        try simp only [List.setIfInBounds_toArray, List.set_cons_zero, List.set_cons_succ]
        refine wpAnyH_done (by kernel_rfl) ?_ _
        refine NoPanic.normal ?_
        go_wp2_with fail
        go_roundw
        case rel => exact ⟨k + 1, by omega, by go_num, ⟨_, _, rfl⟩, ⟨_, _, rfl⟩, HT2.out, HB2.out⟩
        case measure => simp [intOf]; omega
    · have hkm : k = m := by omega
      subst hkm
      rw [HM.out, List.take_length] at HT
      go_wp2_with fail
      go_ret2
      have HF : Hid (T2 w.heap.size wr 4 3 (.slice a1 ns.length cc1) (.slice a2 ns.length cc2) (isV st ns) (ctV st ns)) := ⟨own_mono HT.out.o1 (by omega), own_mono HT.out.o2 (by omega), HT.out.d12⟩
      rw [← HM.out] at HF
      exact ⟨HBB.out.trans (HB.out.mono HBB.out.size), _, _, rfl, HF.out⟩
end Rf
end
section
namespace Rf
open Go.RowKit
/-- block b holds a state of the document's, made since W0 -/
def SV (b n : Nat) (W0 : World) (st : St) (W : World) : Prop := ∃ m1 m2, W.heap[b]? = some (.cells #[.map (some m1), .map (some m2)] 123 (0, 0)) ∧ StIs W (.agg #[.map (some m1), .map (some m2)]) n st ∧ Below b W0 W
theorem stored2 {W : World} {b : Nat} {x0 y0 : Value} {t : TypeId} (h : W.heap[b]? = some (.cells #[x0, y0] t (0, 0))) (x y : Value) :
    ((W.setCell ⟨b, 0, none⟩ x).setCell ⟨b, 1, none⟩ y).heap[b]? = some (.cells #[x, y] t (0, 0)) ∧ (∀ k, k ≠ b → ((W.setCell ⟨b, 0, none⟩ x).setCell ⟨b, 1, none⟩ y).heap[k]? = W.heap[k]?) ∧ Below b W ((W.setCell ⟨b, 0, none⟩ x).setCell ⟨b, 1, none⟩ y) :=
  ⟨by simp [World.setCell, Array.getElem?_modify, h], fun k hk => by
    have hne : ¬ b = k := fun e => hk e.symm
    simp [World.setCell, Array.getElem?_modify, hne], ((Below.refl b W).setCell (p := ⟨b, 0, none⟩) (Nat.le_refl _) _).setCell (p := ⟨b, 1, none⟩) (Nat.le_refl _) _⟩
theorem StIs.kept {W W' : World} {m1 m2 n : Nat} {st : St} (h : StIs W (.agg #[.map (some m1), .map (some m2)]) n st) (h1 : W'.heap[m1]? = W.heap[m1]?) (h2 : W'.heap[m2]? = W.heap[m2]?) : StIs W' (.agg #[.map (some m1), .map (some m2)]) n st := by
  obtain ⟨b1, b2, e, h3, h4, h5⟩ := h
  have e1 : b1 = m1 ∧ b2 = m2 := by
    simp only [Value.agg.injEq, List.toArray_eq_iff, List.cons.injEq, Value.map.injEq, Option.some.injEq, and_true] at e
    exact ⟨e.1.symm, e.2.symm⟩
  obtain ⟨rfl, rfl⟩ := e1
  exact ⟨b1, b2, rfl, h3.kept h1, h4.kept h2, h5⟩
/-- a new state is stored -/
theorem SV.put {b n : Nat} {W0 W : World} {st2 : St} {x0 y0 : Value} {m1 m2 : Nat} (hV : W.heap[b]? = some (.cells #[x0, y0] 123 (0, 0))) (h0 : Below b W0 W) (hs : StIs W (.agg #[.map (some m1), .map (some m2)]) n st2) :
    SV b n W0 st2 ((W.setCell ⟨b, 0, none⟩ (.map (some m1))).setCell ⟨b, 1, none⟩ (.map (some m2))) := by
  obtain ⟨q1, q2, q3⟩ := stored2 hV (.map (some m1)) (.map (some m2))
  refine ⟨m1, m2, q1, ?_, h0.trans q3⟩
  obtain ⟨b1, b2, e, h3, h4, h5⟩ := id hs
  have e1 : b1 = m1 ∧ b2 = m2 := by
    simp only [Value.agg.injEq, List.toArray_eq_iff, List.cons.injEq, Value.map.injEq, Option.some.injEq, and_true] at e
    exact ⟨e.1.symm, e.2.symm⟩
  obtain ⟨rfl, rfl⟩ := e1
  obtain ⟨es1, c1, o1⟩ := h3.obj
  obtain ⟨es2, c2, o2⟩ := h4.obj
  refine hs.kept (q2 _ (fun e => ?_)) (q2 _ (fun e => ?_))
  · subst e; rw [hV] at o1; cases o1
  · subst e; rw [hV] at o2; cases o2
theorem SV.below {b n : Nat} {W0 W W' : World} {st : St} (h : SV b n W0 st W) (hlt : b < W.heap.size) (hb : Below W.heap.size W W') : SV b n W0 st W' := by
  obtain ⟨m1, m2, h1, h2, h3⟩ := h
  exact ⟨m1, m2, (hb.block _ hlt).trans h1, h2.below hb, h3.trans (hb.mono (by omega))⟩
theorem SV.lt {b n : Nat} {W0 W : World} {st : St} (h : SV b n W0 st W) : b < W.heap.size := by
  obtain ⟨m1, m2, h1, _⟩ := h
  exact (Array.getElem?_eq_some_iff.1 h1).1
/-- at first -/
theorem SV.start {w : World} {m1 m2 : Nat} (h1 : w.ownsMap Tryz.prog 9 (plainElem Tryz.prog 4) m1 0 (.map [] : DataW Unit)) (h2 : w.ownsMap Tryz.prog 9 (plainElem Tryz.prog 3) m2 0 (.map [] : DataW Unit)) :
    SV w.heap.size 0 w start (w.alloc (.cells #[.map (some m1), .map (some m2)] 123)) := by
  have hb : Below w.heap.size w (w.alloc (.cells #[.map (some m1), .map (some m2)] 123)) := (Below.refl _ _).alloc (Nat.le_refl _) _
  exact ⟨m1, m2, heap_alloc_new _ _, ⟨m1, m2, rfl, ⟨.map [], om_below h1 hb, fun _ => rfl⟩, ⟨.map [], om_below h2 hb, fun _ => rfl⟩, fun s => by show _ ≤ (0 : Int) ∧ (0 : Int) ≤ _; omega⟩, hb⟩
theorem ints_of {q : Nat} {W : World} {u : Value} {b : List Int} (h : W.ownsRow q 3 1 u b.length (b.map iV)) (hl : ∀ c, c ∈ b → I64 c) : Ints W u b := by
  rcases h.2 with ⟨rfl, h0⟩ | ⟨g, cap, cur, rfl, _, hcur, hcap, _, _, htk⟩
  · exact .inl ⟨List.length_eq_zero_iff.1 h0, none, 0, rfl⟩
  · refine .inr ⟨g, 0, cap, rfl, hcap, fun i x hx => ?_⟩
    exact ⟨by rw [Nat.zero_add]; exact row_cell hcur htk (by rw [List.getElem?_map, hx]; rfl), hl x (List.mem_of_getElem? hx)⟩
theorem ints_st {W : World} {gi gc : Nat} {s : Sc.St} (h : StAt W gi gc s) (hl : ∀ c, c ∈ s.ct → I64 c) : Ints W (slV gc s.ct.length) s.ct := by
  by_cases h0 : s.ct = []
  · rw [h0]; exact .inl ⟨rfl, _, _, rfl⟩
  · refine .inr ⟨gc, 0, _, rfl, Nat.le_refl _, fun i x hx => ?_⟩
    obtain ⟨hi, hx2⟩ := List.getElem?_eq_some_iff.1 hx
    refine ⟨?_, hl x (List.mem_of_getElem? hx)⟩
    rw [Nat.zero_add]
    have := h.cellC i hi
    rw [this, List.getD_eq_getElem?_getD, List.getElem?_eq_getElem hi, hx2]
    rfl
/-- n cells alike -/
def cellsN (n : Nat) (v : Value) : Array Value := ⟨List.replicate n v⟩
theorem makeBN (n : Nat) (hn : n ≤ 1000000) (w : World) : (Instr.makeSlice 51 (.int .i64 (n : Int)) (.int .i64 (n : Int))).run Tryz.prog w = .ok (.slice (some ⟨w.heap.size, 0, none⟩) n n) (w.alloc (.cells (cellsN n (.bool false)) 4)) := makeBs n hn w
theorem makeIN (n : Nat) (hn : n ≤ 1000000) (w : World) : (Instr.makeSlice 36 (.int .i64 (n : Int)) (.int .i64 (n : Int))).run Tryz.prog w = .ok (.slice (some ⟨w.heap.size, 0, none⟩) n n) (w.alloc (.cells (cellsN n (.int .i64 0)) 3)) := makeIs n hn w
theorem makeBBN (n : Nat) (hn : n ≤ 1000000) (w : World) : (Instr.makeSlice 31 (.int .i64 (n : Int)) (.int .i64 (n : Int))).run Tryz.prog w = .ok (.slice (some ⟨w.heap.size, 0, none⟩) n n) (w.alloc (.cells (cellsN n (.slice none 0 0)) 51)) :=
  make_one Tryz.underlying31 Tryz.infoBools rfl (by decide) n hn w
theorem makeBB1001 (w : World) : (Instr.makeSlice 31 (.int .i64 1001) (.int .i64 1001)).run Tryz.prog w = .ok (.slice (some ⟨w.heap.size, 0, none⟩) 1001 1001) (w.alloc (.cells (cellsN 1001 (.slice none 0 0)) 51)) := makeBBN 1001 (by decide) w
/-- one row of inputs -/
theorem insAt_one {W : World} {g b k : Nat} (h1 : W.heap[g]? = some (.cells #[.slice (some ⟨b, 0, none⟩) k k] 51 (0, 0))) (h2 : W.heap[b]? = some (.cells (cellsN k (.bool false)) 4 (0, 0))) (hk : k ≤ 1000000) : InsAt W (.slice (some ⟨g, 0, none⟩) 1 1) [List.replicate k false] := by
  refine .inr ⟨g, 1, rfl, Nat.le_refl _, fun i l hl => ?_⟩
  cases i with
  | succ i => simp at hl
  | zero =>
    simp only [List.getElem?_cons_zero, Option.some.injEq] at hl
    subst hl
    refine ⟨.slice (some ⟨b, 0, none⟩) k k, by rw [Lib.cell_of_heap h1]; rfl, some ⟨b, 0, none⟩, k, by rw [List.length_replicate], by rw [List.length_replicate]; exact hk, fun j x hj => ⟨b, rfl, ?_⟩⟩
    have hjk : j < k := by have := (List.getElem?_eq_some_iff.1 hj).1; rwa [List.length_replicate] at this
    rw [List.getElem?_replicate, if_pos hjk] at hj
    rw [Lib.cell_of_heap h2]
    obtain rfl := Option.some.inj hj
    simp [cellsN, hjk]
theorem below_al (w : World) (o : Obj) : Below w.heap.size w (w.alloc o) := (Below.refl _ _).alloc (Nat.le_refl _) _
theorem lt_some {W : World} {k : Nat} {o : Obj} (h : W.heap[k]? = some o) : k < W.heap.size := (Array.getElem?_eq_some_iff.1 h).1
theorem at1 {w W : World} {o : Obj} (h : Below (w.alloc o).heap.size (w.alloc o) W) : W.heap[w.heap.size]? = some o := (h.block _ (by simp)).trans (heap_alloc_new _ _)
theorem at2 {w W : World} {o1 o2 : Obj} (h : Below ((w.alloc o1).alloc o2).heap.size ((w.alloc o1).alloc o2) W) : W.heap[w.heap.size]? = some o1 ∧ W.heap[w.heap.size + 1]? = some o2 := by
  have e := at1 h
  rw [World.size_alloc] at e
  exact ⟨at1 (then_ (below_al _ _) h), e⟩
theorem at3 {w W : World} {o1 o2 o3 : Obj} (h : Below (((w.alloc o1).alloc o2).alloc o3).heap.size (((w.alloc o1).alloc o2).alloc o3) W) : (W.heap[w.heap.size]? = some o1 ∧ W.heap[w.heap.size + 1]? = some o2) ∧ W.heap[w.heap.size + 1 + 1]? = some o3 := by
  have e := at1 h
  rw [World.size_alloc, World.size_alloc] at e
  exact ⟨at2 (then_ (below_al _ _) h), e⟩
theorem at4 {w W : World} {o1 o2 o3 o4 : Obj} (h : Below ((((w.alloc o1).alloc o2).alloc o3).alloc o4).heap.size ((((w.alloc o1).alloc o2).alloc o3).alloc o4) W) : ((W.heap[w.heap.size]? = some o1 ∧ W.heap[w.heap.size + 1]? = some o2) ∧ W.heap[w.heap.size + 1 + 1]? = some o3) ∧ W.heap[w.heap.size + 1 + 1 + 1]? = some o4 := by
  have e := at1 h
  rw [World.size_alloc, World.size_alloc, World.size_alloc] at e
  exact ⟨at3 (then_ (below_al _ _) h), e⟩
theorem un_drew {w W : World} (h : Below w.drew.heap.size w.drew W) : Below w.heap.size w W := then_ (b := w.drew) ⟨rfl, rfl, rfl, Nat.le_refl _, fun _ _ => rfl⟩ h
theorem at1d {w W : World} {o : Obj} (h : Below (w.alloc o).drew.heap.size (w.alloc o).drew W) : W.heap[w.heap.size]? = some o := at1 (un_drew h)
theorem at2d {w W : World} {o1 o2 : Obj} (h : Below ((w.alloc o1).alloc o2).drew.heap.size ((w.alloc o1).alloc o2).drew W) : W.heap[w.heap.size]? = some o1 ∧ W.heap[w.heap.size + 1]? = some o2 := at2 (un_drew h)
theorem at3d {w W : World} {o1 o2 o3 : Obj} (h : Below (((w.alloc o1).alloc o2).alloc o3).drew.heap.size (((w.alloc o1).alloc o2).alloc o3).drew W) : (W.heap[w.heap.size]? = some o1 ∧ W.heap[w.heap.size + 1]? = some o2) ∧ W.heap[w.heap.size + 1 + 1]? = some o3 := at3 (un_drew h)
theorem at4d {w W : World} {o1 o2 o3 o4 : Obj} (h : Below ((((w.alloc o1).alloc o2).alloc o3).alloc o4).drew.heap.size ((((w.alloc o1).alloc o2).alloc o3).alloc o4).drew W) : ((W.heap[w.heap.size]? = some o1 ∧ W.heap[w.heap.size + 1]? = some o2) ∧ W.heap[w.heap.size + 1 + 1]? = some o3) ∧ W.heap[w.heap.size + 1 + 1 + 1]? = some o4 := at4 (un_drew h)
theorem bools_st {W : World} {gi gc : Nat} {s : Sc.St} (h : StAt W gi gc s) (hl : s.is.length ≤ 1000000) : Bools W (slV gi s.is.length) s.is := ⟨some ⟨gi, 0, none⟩, s.is.length, rfl, hl, fun i b hb => ⟨gi, rfl, by
  obtain ⟨hi, hb2⟩ := List.getElem?_eq_some_iff.1 hb
  rw [h.cellI i hi, List.getD_eq_getElem?_getD, List.getElem?_eq_getElem hi, hb2]
  rfl⟩⟩
theorem isV_of (p : Ld.Prg) (hck : Ld.check p = none) (s : Sc.St) (hl : s.is.length = p.names.length) : isV (of p.names s) p.names = s.is.map boolV := by
  have h := tells_is p hck s.is hl
  have e : s.is.map boolV = (p.names.map (fun n => Sc.told p.names s.is n.name)).map boolV := by rw [h]
  rw [e, List.map_map]
  rfl
theorem ctV_of (p : Ld.Prg) (hck : Ld.check p = none) (s : Sc.St) (hl : s.ct.length = p.names.length) : ctV (of p.names s) p.names = s.ct.map iV := by
  have h := tells_ct p hck s.ct hl
  have e : s.ct.map iV = (p.names.map (fun n => toldC p.names s.ct n.name)).map iV := by rw [h]
  rw [e, List.map_map]
  rfl
end Rf
end
section
namespace Rf
open Go.RowKit
/-- rows of signs in a row of slices, all from block q on -/
structure BolR (q : Nat) (W : World) (o : Value) (us : List Value) (bs : List (List Bool)) : Prop where
  len : us.length = bs.length
  own : W.ownsRow q 51 1 o bs.length us
  at_ : ∀ (j : Nat) (u : Value) (b : List Bool), us[j]? = some u → bs[j]? = some b → W.ownsRow q 4 1 u b.length (b.map boolV)
theorem BolR.nil (q : Nat) (W : World) : BolR q W (.slice none 0 0) [] [] := ⟨rfl, World.ownsRow_nil _ _ _ _, fun j u b h => by simp at h⟩
theorem BolR.below {q : Nat} {W W' : World} {o : Value} {us : List Value} {bs : List (List Bool)} (h : BolR q W o us bs) (hb : Below W.heap.size W W') : BolR q W' o us bs :=
  ⟨h.len, own_below h.own hb, fun j u b h1 h2 => own_below (h.at_ j u b h1 h2) hb⟩
theorem BolR.put {q : Nat} {W W' : World} {o o' u : Value} {us : List Value} {bs : List (List Bool)} {b : List Bool} (h : BolR q W o us bs) (hu : W.ownsRow q 4 1 u b.length (b.map boolV)) (ob : Obj) (hown : W'.ownsRow q 51 1 o' (bs.length + 1) (us ++ [u])) (hg : (W.alloc ob).grownBy W' o.ownBlock) :
    BolR q W' o' (us ++ [u]) (bs ++ [b]) := by
  have hk : ∀ (u : Value) (b : List Bool), W.ownsRow q 4 1 u b.length (b.map boolV) → W'.ownsRow q 4 1 u b.length (b.map boolV) := fun u b hu =>
    (hu.alloc ob).kept hg (own_apart hu h.own (by decide))
  refine ⟨by simp [h.len], by simpa using hown, ?_⟩
  intro j x y hj hy
  by_cases hjl : j < bs.length
  · rw [List.getElem?_append_left (by rw [h.len]; exact hjl)] at hj
    rw [List.getElem?_append_left hjl] at hy
    exact hk _ _ (h.at_ j x y hj hy)
  · have hj2 : j < (bs ++ [b]).length := (List.getElem?_eq_some_iff.1 hy).1
    have : j = bs.length := by simp at hj2; omega
    subst this
    rw [List.getElem?_append_right (by rw [h.len]; exact Nat.le_refl _), h.len] at hj
    rw [List.getElem?_append_right (Nat.le_refl _)] at hy
    simp only [Nat.sub_self, List.getElem?_cons_zero, Option.some.injEq] at hj hy
    subst hj; subst hy
    exact hk _ _ hu
theorem own_rowB {W : World} {q n : Nat} {v : Value} {p : List Bool} (h : W.ownsRow q 4 1 v n (p.map boolV)) (hn : 0 < n) : ∃ b c, v = .slice (some ⟨b, 0, none⟩) n c ∧ q ≤ b ∧ n ≤ c ∧ ∀ (k : Nat) (x : Bool), p[k]? = some x → W.cell? ⟨b, k, none⟩ = some (.bool x) := by
  rcases h.2 with ⟨_, h0⟩ | ⟨g, cap, cur, rfl, hg, hcur, hcap, _, _, htk⟩
  · omega
  · exact ⟨g, cap, rfl, hg, hcap, fun k x hx => row_cell hcur htk (by rw [List.getElem?_map, hx]; rfl)⟩
/-- of each state and input a sign, in memory -/
def GoodAt (W : World) (o : Value) (S I : Nat) (row : Nat → List Bool) : Prop := ∃ b c, o = .slice (some ⟨b, 0, none⟩) S c ∧ S ≤ c ∧ ∀ s, s < S → ∃ a d, W.cell? ⟨b, s, none⟩ = some (.slice (some ⟨a, 0, none⟩) I d) ∧ I ≤ d ∧ ∀ i, i < I → W.cell? ⟨a, i, none⟩ = some (.bool ((row s).getD i false))
theorem GoodAt.below {W W' : World} {o : Value} {S I : Nat} {row : Nat → List Bool} (h : GoodAt W o S I row) (hb : Below W.heap.size W W') : GoodAt W' o S I row := by
  obtain ⟨b, c, h1, h2, h3⟩ := h
  refine ⟨b, c, h1, h2, fun s hs => ?_⟩
  obtain ⟨a, d, h4, h5, h6⟩ := h3 s hs
  exact ⟨a, d, (hb.cell (World.block_lt_of_cell? _ _ h4)).trans h4, h5, fun i hi => (hb.cell (World.block_lt_of_cell? _ _ (h6 i hi))).trans (h6 i hi)⟩
theorem BolR.goodAt {q : Nat} {W : World} {o : Value} {us : List Value} {S I : Nat} {row : Nat → List Bool} (h : BolR q W o us ((List.range S).map row)) (hS : 0 < S) (hI : 0 < I) (hr : ∀ s, (row s).length = I) : GoodAt W o S I row := by
  have hl : ((List.range S).map row).length = S := by simp
  have hown := h.own
  rw [hl] at hown
  rcases hown.2 with ⟨_, h0⟩ | ⟨g, cap, cur, rfl, _, hcur, hcap, _, _, htk⟩
  · omega
  · refine ⟨g, cap, rfl, hcap, fun s hs => ?_⟩
    have hul : s < us.length := by rw [h.len, hl]; exact hs
    have h1 := h.at_ s us[s] (row s) (List.getElem?_eq_getElem hul) (by simp [hs])
    rw [hr s] at h1
    obtain ⟨a, d, h2, _, h3, h4⟩ := own_rowB h1 hI
    refine ⟨a, d, by rw [← h2]; exact row_cell hcur htk (List.getElem?_eq_getElem hul), h3, fun i hi => ?_⟩
    have hil : i < (row s).length := by rw [hr s]; exact hi
    refine h4 i _ ?_
    rw [List.getElem?_eq_getElem hil]
    simp [hil]
/-- block b, made since w0, holds a state of the document's -/
def BX (w0 : World) (n : Nat) (st : St) (b : Nat) (W : World) : Prop := ∃ m1 m2, W.heap[b]? = some (.cells #[.map (some m1), .map (some m2)] 123 (0, 0)) ∧ StIs W (.agg #[.map (some m1), .map (some m2)]) n st ∧ Below w0.heap.size w0 W ∧ w0.heap.size ≤ b
theorem BX.below {w0 W W' : World} {n b : Nat} {st : St} (h : BX w0 n st b W) (hb : Below W.heap.size W W') : BX w0 n st b W' := by
  obtain ⟨m1, m2, h1, h2, h3, h4⟩ := h
  exact ⟨m1, m2, (hb.block _ (lt_some h1)).trans h1, h2.below hb, then_ h3 hb, h4⟩
theorem BX.new {w0 W : World} {n m1 m2 : Nat} {st : St} (hb : Below w0.heap.size w0 W) (hs : StIs W (.agg #[.map (some m1), .map (some m2)]) n st) : BX w0 n st W.heap.size (W.alloc (.cells #[.map (some m1), .map (some m2)] 123)) :=
  ⟨m1, m2, heap_alloc_new _ _, hs.below (below_al _ _), then_ hb (below_al _ _), hb.size⟩
theorem BX.put {w0 W : World} {b n m1 m2 : Nat} {st : St} {x0 y0 : Value} (hV : W.heap[b]? = some (.cells #[x0, y0] 123 (0, 0))) (hb : Below w0.heap.size w0 W) (hl : w0.heap.size ≤ b) (hs : StIs W (.agg #[.map (some m1), .map (some m2)]) n st) :
    BX w0 n st b ((W.setCell ⟨b, 0, none⟩ (.map (some m1))).setCell ⟨b, 1, none⟩ (.map (some m2))) := by
  obtain ⟨k1, k2, h1, h2, h3⟩ := SV.put (W0 := W) hV (Below.refl b W) hs
  exact ⟨k1, k2, h1, h2, hb.trans (h3.mono hl), hl⟩
end Rf
/-- what the document says of a scan is what the program's own says -/
theorem Rf.doc_good (p : Ld.Prg) (hck : Ld.check p = none) (x : Ex) (s i : Nat) : x.eval (Rf.step p (Rf.state p s) (bitsTo i (Ld.kindL p.names 1).length)).is (Rf.state p s).is = Pr.good p x s i := by
  rw [Rf.nxt_of p hck, Rf.state_is p hck]
  rfl
end
end Go.Proofs.YtgldbliohpfljaaGreatDoor
