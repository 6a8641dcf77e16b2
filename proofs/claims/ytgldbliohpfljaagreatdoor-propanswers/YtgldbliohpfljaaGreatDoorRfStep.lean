/-
  The walk of the document's own Step (3.1).
-/
import Derived.Test.YtgldbliohpfljaaGreatDoorNaEdgesAll
import Derived.Test.YtgldbliohpfljaaGreatDoorRpPieceAll
import Derived.Test.YtgldbliohpfljaaGreatDoorRlStayAll
import Derived.Test.YtgldbliohpfljaaGreatDoorScStepAll
import Derived.Deep.RegionHeld3
import Derived.Deep.CutRange
namespace Go.Proofs.YtgldbliohpfljaaGreatDoor
namespace Rf
open Go.RowKit Go.Maps
theorem cell_alloc_keep (W : World) (o : Obj) (p : Addr) (v : Value) (h : W.cell? p = some v) : (W.alloc o).cell? p = some v := (World.cell?_alloc_some W p o (by rw [h]; rfl)).trans h
theorem Fr.grown_new {a b r : Nat} {A B C : World} (h : Fr a b A B) (hg : B.grownBy C (some r)) (hr : A.heap.size ≤ r) : Fr a b A C :=
  ⟨hg.os.trans h.os, hg.tape.trans h.tape, hg.output.trans h.output, Nat.le_trans h.size hg.size, fun k hk h1 h2 => (hg.block k (Nat.lt_of_lt_of_le hk h.size) (fun e => by have := Option.some.inj e; omega)).trans (h.block k hk h1 h2)⟩
theorem Fr.grown_a {a b : Nat} {A B C : World} (h : Fr a b A B) (hg : B.grownBy C (some a)) : Fr a b A C :=
  ⟨hg.os.trans h.os, hg.tape.trans h.tape, hg.output.trans h.output, Nat.le_trans h.size hg.size, fun k hk h1 h2 => (hg.block k (Nat.lt_of_lt_of_le hk h.size) (fun e => h1 (Option.some.inj e))).trans (h.block k hk h1 h2)⟩
theorem Fr.grown_b {a b : Nat} {A B C : World} (h : Fr a b A B) (hg : B.grownBy C (some b)) : Fr a b A C :=
  ⟨hg.os.trans h.os, hg.tape.trans h.tape, hg.output.trans h.output, Nat.le_trans h.size hg.size, fun k hk h1 h2 => (hg.block k (Nat.lt_of_lt_of_le hk h.size) (fun e => h2 (Option.some.inj e))).trans (h.block k hk h1 h2)⟩
theorem Fr.grown_none {a b : Nat} {A B C : World} (h : Fr a b A B) (hg : B.grownBy C none) : Fr a b A C :=
  ⟨hg.os.trans h.os, hg.tape.trans h.tape, hg.output.trans h.output, Nat.le_trans h.size hg.size, fun k hk h1 h2 => (hg.block k (Nat.lt_of_lt_of_le hk h.size) (by simp)).trans (h.block k hk h1 h2)⟩
theorem grown_heap {A B : World} {r k : Nat} (hg : A.grownBy B (some r)) (hk : k < A.heap.size) (h : k ≠ r) : B.heap[k]? = A.heap[k]? := hg.block k hk (fun e => h (Option.some.inj e))
theorem Fr.drew (a b : Nat) (W : World) : Fr a b W W.drew := ⟨rfl, rfl, rfl, Nat.le_refl _, fun _ _ _ _ => rfl⟩
theorem fold_succ {α β : Type} (f : β → α → β) (l : List α) (b : β) (k : Nat) (h : k < l.length) : (l.take (k + 1)).foldl f b = f ((l.take k).foldl f b) l[k] := by
  rw [List.take_succ_eq_append_getElem h, List.foldl_append]; rfl
theorem fits (n : List UInt8) (h : Nm.name n = true) : n.length ≤ maxLen := by
  unfold Nm.name at h
  simp only [Bool.and_eq_true, decide_eq_true_eq] at h
  have := h.1.1.1.2
  unfold maxLen
  omega
theorem Fr.im2 {a b n : Nat} {A B : World} {f : List UInt8 → Int} (_ : Fr a b A B) (hm : IM A b n f) (h1 : b ≠ a) (h : ∀ k, k ≠ a → B.heap[k]? = A.heap[k]?) : IM B b n f := hm.kept (h b h1)
theorem Fr.bm2 {a b n : Nat} {A B : World} {f : List UInt8 → Bool} (_ : Fr a b A B) (hm : BM A a n f) (h1 : a ≠ b) (h : ∀ k, k ≠ b → B.heap[k]? = A.heap[k]?) : BM B a n f := hm.kept (h a h1)
theorem upd_at {β : Type} (f : List UInt8 → β) (n : List UInt8) (v : β) : upd f n v n = v := by unfold upd; rw [if_pos rfl]
theorem upd_in (f : List UInt8 → Int) (n : List UInt8) (v : Int) (h : ∀ s, -9223372036854775808 ≤ f s ∧ f s ≤ 9223372036854775807) (hv : -9223372036854775808 ≤ v ∧ v ≤ 9223372036854775807) : ∀ s, -9223372036854775808 ≤ upd f n v s ∧ upd f n v s ≤ 9223372036854775807 := fun s => by
  unfold upd
  by_cases e : s = n
  · rw [if_pos e]; exact hv
  · rw [if_neg e]; exact h s
/-- the first k inputs are read -/
def readsTo (ns : List Ld.Nme) (l : List Nat) (inp : List Bool) (f : List UInt8 → Bool) (k : Nat) : List UInt8 → Bool := ((l.zip inp).take k).foldl (fun acc p => upd acc (ns.getD p.1 ⟨[], 0, 0⟩).name p.2) f
theorem readsTo_succ (ns : List Ld.Nme) (l : List Nat) (inp : List Bool) (f : List UInt8 → Bool) (k : Nat) (h1 : k < l.length) (h2 : k < inp.length) : readsTo ns l inp f (k + 1) = upd (readsTo ns l inp f k) (ns.getD l[k] ⟨[], 0, 0⟩).name inp[k] := by
  unfold readsTo
  have hz : k < (l.zip inp).length := by rw [List.length_zip]; omega
  rw [List.take_succ_eq_append_getElem hz, List.foldl_append, List.getElem_zip]
  rfl
theorem readsTo_all (ns : List Ld.Nme) (l : List Nat) (inp : List Bool) (f : List UInt8 → Bool) (h : inp.length = l.length) : readsTo ns l inp f l.length = reads ns l inp f := by
  unfold readsTo reads
  rw [List.take_of_length_le (by rw [List.length_zip]; omega)]
theorem Bools.at_ {W : World} {a : Option Addr} {n c : Nat} {l : List Bool} (h : Bools W (.slice a n c) l) {k : Nat} (hk : k < l.length) : ∃ g, a = some ⟨g, 0, none⟩ ∧ W.cell? ⟨g, k, none⟩ = some (.bool l[k]) := by
  obtain ⟨a', c', h1, _, h3⟩ := h
  obtain ⟨g, h4, h5⟩ := h3 k l[k] (List.getElem?_eq_getElem hk)
  simp only [Value.slice.injEq] at h1
  exact ⟨g, h1.1.trans h4, h5⟩
theorem row_at {W : World} {q : Nat} {a : Option Addr} {n c : Nat} {l : List Nat} (h : W.ownsRow q 3 1 (.slice a n c) l.length (l.map intV)) {k : Nat} (hk : k < l.length) : ∃ g, a = some ⟨g, 0, none⟩ ∧ n = l.length ∧ n ≤ c ∧ q ≤ g ∧ W.cell? ⟨g, k, none⟩ = some (.int .i64 (l[k] : Int)) := by
  rcases h.2 with ⟨_, h0⟩ | ⟨g, cap, cur, h1, h2, h3, h4, h5, h6, h7⟩
  · omega
  · simp only [Value.slice.injEq] at h1
    refine ⟨g, h1.1, h1.2.1, by omega, h2, ?_⟩
    rw [Lib.cell_of_heap h3]
    have h9 := congrArg (·[k]?) h7
    simp only [List.getElem?_map, List.getElem?_eq_getElem hk, Option.map_some] at h9
    rw [List.getElem?_take_of_lt (by omega)] at h9
    simpa [intV] using h9
theorem getD_of {α : Type} {l : List α} {d : α} {k : Nat} (h : k < l.length) : l.getD k d = l[k] := by simp [h]
set_option maxHeartbeats 16000000 in
set_option maxRecDepth 100000 in
theorem Step_any (p : Ld.Prg) (pv sv iv : Value) (n : Nat) (st : St) (inp : List Bool) (w : World) (hp : IsRPrg w p pv) (hck : Ld.check p = none) (hs : StIs w sv n st) (hn : n ≤ 1000000) (hi : Bools w iv inp) (hl : inp.length = (Ld.kindL p.names 1).length) :
    Calls Tryz.prog 46 #[pv, sv, iv] w fun e w' => Below w.heap.size w w' ∧ ∃ v', e = .returned v' ∧ StIs w' v' (n + 200) (step p st inp) := by
  obtain ⟨m1, m2, rfl, hm1, hm2, hct⟩ := hs
  obtain ⟨nv, rv, rfl, hnm, hrg⟩ := hp
  obtain ⟨na, nc, rfl, _⟩ := hnm.slice
  obtain ⟨ra, rc, rfl, _⟩ := hrg.slice
  obtain ⟨ia, ic, rfl, hil, hic⟩ := hi
  have hmm := @run_makeMap Tryz.prog
  obtain ⟨wA, hwA⟩ : ∃ wA, wA = w.alloc (.cells #[.slice na p.names.length nc, .slice ra p.rungs.length rc] 45) := ⟨_, rfl⟩
  obtain ⟨wB, hwB⟩ : ∃ wB, wB = wA.alloc (.cells #[.map (some m1), .map (some m2)] 123) := ⟨_, rfl⟩
  obtain ⟨wC, hwC⟩ : ∃ wC, wC = wB.alloc (.cells #[.map none, .map none] 123) := ⟨_, rfl⟩
  have zA : wA.heap.size = w.heap.size + 1 := by rw [hwA]; simp
  have zB : wB.heap.size = w.heap.size + 1 + 1 := by rw [hwB]; simp [zA]
  have zC : wC.heap.size = w.heap.size + 1 + 1 + 1 := by rw [hwC]; simp [zB]
  have bA : Below w.heap.size w wA := by rw [hwA]; exact (Below.refl _ _).alloc (Nat.le_refl _) _
  have bB : Below wA.heap.size wA wB := by rw [hwB]; exact (Below.refl _ _).alloc (Nat.le_refl _) _
  have bC : Below wB.heap.size wB wC := by rw [hwC]; exact (Below.refl _ _).alloc (Nat.le_refl _) _
  have HBC : Hid (Below w.heap.size w wC) := then_ bA (then_ bB bC)
  have k0 : wC.heap[w.heap.size]? = some (.cells #[.slice na p.names.length nc, .slice ra p.rungs.length rc] 45 (0, 0)) := by
    rw [(then_ bB bC).block _ (by omega), hwA]; exact heap_alloc_new _ _
  have k1 : wC.heap[w.heap.size + 1]? = some (.cells #[.map (some m1), .map (some m2)] 123 (0, 0)) := by
    rw [bC.block _ (by omega), hwB, ← zA]; exact heap_alloc_new _ _
  have k2 : wC.heap[w.heap.size + 1 + 1]? = some (.cells #[.map none, .map none] 123 (0, 0)) := by
    rw [hwC, ← zB]; exact heap_alloc_new _ _
  have HK0 := hide k0
  have HK1 := hide k1
  have HK2 := hide k2
  have HNM := hide hnm
  have HRG := hide hrg
  have HM1 := hide hm1
  have HM2 := hide hm2
  have HCT := hide hct
  have HCK := hide hck
  have HIC := hide hic
  have HLI := hide hl
  have hlm1 := hm1.lt
  have hlm2 := hm2.lt
  have HST := hide (Start_any wC)
  clear bA bB bC k0 k1 k2 hnm hrg hm1 hm2 hct hck hic hl
  go_enter Tryz.func46, Tryz.ntmps46
  go_wp2_with fail
  rw [← hwA, ← hwB, ← hwC]
  clear hwA hwB hwC
  refine HST.out.mono ?_
  rintro e wD ⟨hbD, b1, b2, rfl, hb1, hb2, hne, hn1, hn2⟩
  obtain ⟨wE, hwE⟩ : ∃ wE, wE = wD.alloc (.cells #[.map (some b1), .map (some b2)] 123) := ⟨_, rfl⟩
  have zE : wE.heap.size = wD.heap.size + 1 := by rw [hwE]; simp
  have bE : Below wD.heap.size wD wE := by rw [hwE]; exact (Below.refl _ _).alloc (Nat.le_refl _) _
  have hlb1 := hn1.lt
  have hlb2 := hn2.lt
  have zD := hbD.size
  have HZE := hide zE
  clear zE
  have HBE := hide (then_ hbD bE)
  have HKT : Hid (wE.heap[wD.heap.size]? = some (.cells #[.map (some b1), .map (some b2)] 123 (0, 0))) := by rw [hwE]; exact heap_alloc_new _ _
  have HN1 := hide (om_below hn1 bE)
  have HN2 := hide (om_below hn2 bE)
  obtain ⟨D1, ho1, hd1⟩ := HM1.out.below (then_ HBC.out HBE.out)
  obtain ⟨D2, ho2, hd2⟩ := HM2.out.below (then_ HBC.out HBE.out)
  have HO1 := hide ho1
  have HO2 := hide ho2
  have HD1 := hide hd1
  have HD2 := hide hd2
  have hsz1 := ho1.size_le
  have hsz2 := ho2.size_le
  have hkE : ∀ i v, wC.cell? ⟨w.heap.size + 1, i, none⟩ = some v → wE.cell? ⟨w.heap.size + 1, i, none⟩ = some v := fun i v h => (HBE.out.cell (World.block_lt_of_cell? _ _ h)).trans h
  have s0 : wE.cell? ⟨w.heap.size + 1, 0, none⟩ = some (.map (some m1)) := hkE _ _ (by rw [Lib.cell_of_heap HK1.out]; rfl)
  have s0D : wD.cell? ⟨w.heap.size + 1, 0, none⟩ = some (.map (some m1)) := (hbD.cell (World.block_lt_of_cell? wC _ (by rw [Lib.cell_of_heap HK1.out]; rfl))).trans (by rw [Lib.cell_of_heap HK1.out]; rfl)
  have s0E := fun o => cell_alloc_keep wD o _ _ s0D
  clear hkE ho1 ho2 hd1 hd2 hn1 hn2 hbD bE HST
  go_wp2_with (at_range; rw [← hwE]; refine wpList_range_own _ rfl _ 120 rfl 9 4 lawS Tryz.underlying120 (plainElem Tryz.prog 4) m1 n D1 rfl HO1.out ?_; intro w0 hrg0 hg0 hs0)
  go_frame
  have hF0 : Fr b1 b2 wE w0 := (Fr.refl b1 b2 wE).grown_none hg0
  have HF0 := hide hF0
  have HS0 : Hid (wE.heap.size + 1 = w0.heap.size) := hs0.symm
  have HB10 := hide (om_block HN1.out (hg0.block b1 (by have := HZE.out; omega) (by simp)))
  have HB20 := hide (om_block HN2.out (hg0.block b2 (by have := HZE.out; omega) (by simp)))
  have HRG0 := hide hrg0
  have hto : ∀ W, Fr b1 b2 wE W → (W.cell? ⟨wD.heap.size, 0, none⟩ = some (.map (some b1)) ∧ W.cell? ⟨wD.heap.size, 1, none⟩ = some (.map (some b2)) ∧ W.cell? ⟨w.heap.size + 1, 1, none⟩ = some (.map (some m2))) := fun W h => by
    have e0 := HZE.out
    have e1 := h.block wD.heap.size (by omega) (by omega) (by omega)
    have e2 := h.block (w.heap.size + 1) (by omega) (by omega) (by omega)
    have e3 := HBE.out.block (w.heap.size + 1) (by omega)
    refine ⟨?_, ?_, ?_⟩
    · rw [Lib.cell_of_heap (e1.trans HKT.out)]; rfl
    · rw [Lib.cell_of_heap (e1.trans HKT.out)]; rfl
    · rw [Lib.cell_of_heap (e2.trans (e3.trans HK1.out))]; rfl
  have HTO := hide hto
  have hm1b : m1 < w.heap.size := hlm1
  clear hwE hF0 hs0 hg0 hrg0 s0 s0D s0E hto
  have hne2 : b1 ≠ b2 := hne
  go_loopw [8] (fun _ wr => ∃ (left : Lit → Bool) (cnt : Nat) (Dout : DataW Unit), Hid (wr.ranges Tryz.prog 9 (plainElem Tryz.prog 4) m1 wE.heap.size n D1 left cnt) ∧ cnt ≤ Maps.size D1 ∧ Hid (wr.ownsMap Tryz.prog 9 (plainElem Tryz.prog 4) b1 (Maps.size D1 - cnt) Dout) ∧ Hid (Agree Dout D1 left) ∧ Hid (Fr b1 b2 wE wr) ∧ Hid (wr.ownsMap Tryz.prog 9 (plainElem Tryz.prog 3) b2 0 (.map [] : DataW Unit)) ∧ Hid (wE.heap.size < wr.heap.size))
    (fun _ wr => wr.rangeLeft m1 wE.heap.size)
  case atStart => exact ⟨_, _, .map [], HRG0.out, Nat.le_refl _, HB10.out.mono (Nat.zero_le _), agree_start D1, HF0.out, HB20.out, by have := HS0.out; show _ < _; omega⟩
  case round =>
    obtain ⟨left, cnt, Dout, HRG, hcs, HOUT, HA, HF, HB2, HZ⟩ := hrel
    have hrg := HRG.out
    obtain ⟨t0, t1, t2⟩ := HTO.out _ HF.out
    go_wp2_with (at_next; refine next_sb _ rfl _ rfl m1 wE.heap.size n _ _ _ rfl hrg ?_ ?_)
    · intro hc0 hl0
      subst hc0
      have e := agree_end HA.out hl0 (HOUT.out.canon lawS) (HO1.out.canon lawS)
      subst e
      obtain ⟨wL, hwL⟩ : ∃ wL, wL = wr := ⟨_, rfl⟩
      subst hwL
      have hlE : wE.heap.size < wL.heap.size := HZ.out
      have HBF := hide (HBE.out)
      have ho2r := om_block HO2.out (HF.out.block m2 (by have := HZE.out; omega) (by have := HZE.out; omega) (by have := HZE.out; omega))
      have HOF := hide HOUT.out
      have hcd : Maps.size Dout ≤ Maps.size Dout := Nat.le_refl _
      have HOA : Hid (∀ W, Fr b1 b2 wE W → W.ownsMap Tryz.prog 9 (plainElem Tryz.prog 3) m2 n D2) := fun W h => om_block HO2.out (h.block m2 (by have := HZE.out; omega) (by have := HZE.out; omega) (by have := HZE.out; omega))
      clear hrg hcs HRG0 HB10 HB20 HF0 HS0 HRG HOUT HA
      go_wp2_with (at_range; refine wpList_range_own _ rfl _ 121 rfl 9 3 lawS Tryz.underlying121 (plainElem Tryz.prog 3) m2 n D2 rfl ho2r ?_; intro w4 hrg4 hg4 hs4)
      go_frame
      have HF4 := hide (HF.out.grown_none hg4)
      have HM4 := hide (om_block HOF.out (hg4.block b1 (by have := HZE.out; omega) (by simp)))
      have HI4 := hide (om_block HB2.out (hg4.block b2 (by have := HZE.out; omega) (by simp)))
      have HRG4 := hide hrg4
      have HS4 : Hid (wL.heap.size + 1 = w4.heap.size) := hs4.symm
      clear hrg4 hg4 hs4 ho2r HB2 HOF
      go_loopw [10] (fun _ wr => ∃ (left : Lit → Bool) (cnt : Nat) (Dk : DataW Unit), Hid (wr.ranges Tryz.prog 9 (plainElem Tryz.prog 3) m2 wL.heap.size n D2 left cnt) ∧ cnt ≤ Maps.size D2 ∧ Hid (wr.ownsMap Tryz.prog 9 (plainElem Tryz.prog 3) b2 (Maps.size D2 - cnt) Dk) ∧ Hid (Agree Dk D2 left) ∧ Hid (Fr b1 b2 wE wr) ∧ Hid (wr.ownsMap Tryz.prog 9 (plainElem Tryz.prog 4) b1 (Maps.size Dout) Dout) ∧ Hid (wL.heap.size < wr.heap.size))
        (fun _ wr => wr.rangeLeft m2 wL.heap.size)
      case atStart => exact ⟨_, _, .map [], HRG4.out, Nat.le_refl _, HI4.out.mono (Nat.zero_le _), agree_start D2, HF4.out, HM4.out, by have := HS4.out; show _ < _; omega⟩
      case round =>
        obtain ⟨left, cnt, Dk, HRG, hcs, HOUT, HA, HFq, HM, HZq⟩ := hrel
        have hrg := HRG.out
        obtain ⟨t0, t1, t2⟩ := HTO.out _ HFq.out
        go_wp2_with (at_next; refine next_si _ rfl _ rfl m2 wL.heap.size n _ _ _ rfl hrg ?_ ?_)
        · intro hc0 hl0
          subst hc0
          have e := agree_end HA.out hl0 (HOUT.out.canon lawS) (HO2.out.canon lawS)
          subst e
          have HBM : Hid (BM wr b1 n st.is) := ⟨Dout, HM.out.mono hsz1, HD1.out⟩
          have HIM : Hid (IM wr b2 n st.ct) := ⟨Dk, HOUT.out.mono (by omega), HD2.out⟩
          obtain ⟨wM, hwM⟩ : ∃ wM, wM = wr := ⟨_, rfl⟩
          subst hwM
          have HFM := HFq
          have hzM : wE.heap.size ≤ wM.heap.size := HFM.out.size
          have HBW : Hid (Below w.heap.size w wM) := (HBC.out.trans (HBE.out.mono HBC.out.size)).trans (HFM.out.below (by have := HZE.out; omega) (by omega) (by omega))
          have HBX : Hid (∀ W, Fr b1 b2 wM W → (W.cell? ⟨w.heap.size, 0, none⟩ = some (.slice na p.names.length nc) ∧ W.cell? ⟨w.heap.size, 1, none⟩ = some (.slice ra p.rungs.length rc)) ∧ (W.cell? ⟨w.heap.size + 1, 0, none⟩ = some (.map (some m1)) ∧ W.cell? ⟨w.heap.size + 1, 1, none⟩ = some (.map (some m2))) ∧ (W.cell? ⟨wD.heap.size, 0, none⟩ = some (.map (some b1)) ∧ W.cell? ⟨wD.heap.size, 1, none⟩ = some (.map (some b2))) ∧ W.heap[w.heap.size + 1 + 1]? = some (.cells #[.map none, .map none] 123 (0, 0))) := fun W h => by
            have e0 := HZE.out
            have h' := HFM.out.trans h
            have e1 := (h'.block w.heap.size (by omega) (by omega) (by omega)).trans ((HBE.out.block w.heap.size (by omega)).trans HK0.out)
            have e2 := (h'.block (w.heap.size + 1) (by omega) (by omega) (by omega)).trans ((HBE.out.block (w.heap.size + 1) (by omega)).trans HK1.out)
            have e3 := (h'.block (w.heap.size + 1 + 1) (by omega) (by omega) (by omega)).trans ((HBE.out.block (w.heap.size + 1 + 1) (by omega)).trans HK2.out)
            have e4 := (h'.block wD.heap.size (by omega) (by omega) (by omega)).trans HKT.out
            refine ⟨⟨?_, ?_⟩, ⟨?_, ?_⟩, ⟨?_, ?_⟩, e3⟩
            · rw [Lib.cell_of_heap e1]; rfl
            · rw [Lib.cell_of_heap e1]; rfl
            · rw [Lib.cell_of_heap e2]; rfl
            · rw [Lib.cell_of_heap e2]; rfl
            · rw [Lib.cell_of_heap e4]; rfl
            · rw [Lib.cell_of_heap e4]; rfl
          have HZL : Hid (wC.heap.size ≤ b1 ∧ wC.heap.size ≤ b2 ∧ b1 < wD.heap.size ∧ b2 < wD.heap.size ∧ wD.heap.size < wM.heap.size) := by have := HZE.out; exact ⟨hb1, hb2, hlb1, hlb2, by omega⟩
          obtain ⟨⟨p0, p1⟩, _⟩ := HBX.out wM (Fr.refl _ _ _)
          have HKI := hide (rKind_any p.names (.slice na p.names.length nc) (.slice ra p.rungs.length rc) 1 wM (HNM.out.below HBW.out) ⟨_, _, _, rfl⟩)
          clear hrg hcs HRG4 HM4 HI4 HF4 HS4 HOA HTO HF HFq HM HOUT HA HRG hl0
          go_wp2_with fail
          refine HKI.out.mono ?_
          rintro e wN ⟨kv, rfl, hown, hbN⟩
          obtain ⟨ka, kc, rfl⟩ := own_slice hown
          have HOW := hide hown
          have HBN := hide hbN
          have HFN : Hid (Fr b1 b2 wM wN) := Fr.of_below hbN
          have HBMN := hide (HBM.out.below hbN)
          have HIMN := hide (HIM.out.below hbN)
          obtain ⟨k1, k2, _⟩ := Ld.check_names p HCK.out
          have hkl : (Ld.kindL p.names 1).length ≤ 12 := Nat.le_trans (Ld.placesTo_le _ _ _) k1
          obtain ⟨q, hqq⟩ : ∃ q, q = (Ld.kindL p.names 1).length := ⟨_, rfl⟩
          have HQ := hide hqq
          have hzN := hbN.size
          rw [← hqq] at hkl ⊢
          clear hown hbN HKI hqq p0 p1
          go_wp2_with fail
          go_loopw [46] (fun i wr => ∃ k : Nat, k ≤ q ∧ i = .int .i64 (k : Int) ∧ Hid (BM wr b1 (n + k) (readsTo p.names (Ld.kindL p.names 1) inp st.is k)) ∧ Hid (IM wr b2 n st.ct) ∧ Hid (Fr b1 b2 wN wr)) (fun i _ => q - (intOf i).toNat)
          case atStart => exact ⟨0, Nat.zero_le _, rfl, HBMN.out, HIMN.out, Fr.refl _ _ _⟩
          case round =>
            obtain ⟨k, hk, rfl, HB, HI, HF⟩ := hrel
            have HFM2 := hide (HFN.out.trans HF.out)
            have hki : (k : Int) < (q : Int) ∨ ¬ (k : Int) < (q : Int) := by omega
            by_cases hlt : k < q
            · have hkl2 : k < (Ld.kindL p.names 1).length := by rw [← HQ.out]; exact hlt
              have hik : k < inp.length := by rw [HLI.out, ← HQ.out]; exact hlt
              have HSU := hide (readsTo_succ p.names (Ld.kindL p.names 1) inp st.is k hkl2 hik)
              obtain ⟨hjn, _⟩ := Ld.kindL_at p.names 1 _ (List.getElem_mem hkl2)
              have HGD := hide (getD_of (d := (⟨[], 0, 0⟩ : Ld.Nme)) hjn)
              have z := HZL.out
              obtain ⟨g, rfl, _, hcp, hgq, c0⟩ := row_at HOW.out hkl2
              have hgl : g < wN.heap.size := World.block_lt_of_cell? _ _ c0
              have f0 : wr.cell? ⟨g, k, none⟩ = some (.int .i64 ((Ld.kindL p.names 1)[k] : Int)) := by
                rw [World.cell?_of_block (w' := wr) (w := wN) (HF.out.block g hgl (by omega) (by omega))]; exact c0
              obtain ⟨gi, rfl, c1⟩ := Bools.at_ (c := ic) ⟨_, _, rfl, hil, HIC.out⟩ hik
              have hgi : gi < w.heap.size := World.block_lt_of_cell? _ _ c1
              have f1 : wr.cell? ⟨gi, k, none⟩ = some (.bool inp[k]) := by
                rw [World.cell?_of_block (w' := wr) (w := wM) (HFM2.out.block gi (by omega) (by omega) (by omega)), World.cell?_of_block (w' := wM) (w := w) (HBW.out.block gi hgi)]; exact c1
              obtain ⟨gN, rfl, hncp, e1, e2, e3, hnl, _, _⟩ := HNM.out.at_ (List.getElem?_eq_getElem hjn)
              have hgn : gN < w.heap.size := World.block_lt_of_cell? _ _ e1
              have f2 : wr.cell? ⟨gN, (Ld.kindL p.names 1)[k] * 3, none⟩ = some (.string ⟨p.names[(Ld.kindL p.names 1)[k]].name.toArray⟩) := by
                rw [World.cell?_of_block (w' := wr) (w := wM) (HFM2.out.block gN (by omega) (by omega) (by omega)), World.cell?_of_block (w' := wM) (w := w) (HBW.out.block gN hgn)]; exact e1
              obtain ⟨⟨p0, p1⟩, _, ⟨t0, t1⟩, _⟩ := HBX.out wr HFM2.out
              rw [HGD.out] at HSU
              generalize p.names[(Ld.kindL p.names 1)[k]] = y at *
              generalize (Ld.kindL p.names 1)[k] = j at *
              generalize inp[k] = bk at *
              obtain ⟨nm, kd, ct⟩ := y
              dsimp only at f2 hnl HSU
              obtain ⟨wP, hput, hbm, htn⟩ := BM.put (W := wr.drew) (HB.out.kept rfl) (by unfold maxLen; omega) nm hnl bk
              have HBMP := hide hbm
              have HTN := hide htn
              rw [← HSU.out] at HBMP
              have hjl : (j : Int) < (p.names.length : Int) := by omega
              clear hbm htn c0 c1 e1 e2 e3
              go_wp2_with fail
              go_region
              all_goals go_wp2_with fail
              all_goals go_roundw
              case rel => exact ⟨k + 1, by omega, by go_num, HBMP.out, (HI.out.kept (by obtain ⟨_, _, _, _, h5⟩ := turned_two HTN.out; exact h5 b2 (fun e => hne e.symm))), (HF.out.trans (Fr.drew b1 b2 wr)).trans (Fr.turned1 HTN.out)⟩
              case measure => simp [intOf]; omega
            · have hkq : k = q := by omega
              subst hkq
              have HB0 : Hid (BM wr b1 (n + 12) (reads p.names (Ld.kindL p.names 1) inp st.is)) := by
                have h := HB.out
                rw [HQ.out, readsTo_all _ _ _ _ HLI.out] at h
                exact h.more (by have := HQ.out; omega)
              have HI0 := hide (HI.out.more (n' := n + 12) (by omega))
              obtain ⟨wQ, hwQ⟩ : ∃ wQ, wQ = wr := ⟨_, rfl⟩
              subst hwQ
              obtain ⟨⟨p0, p1⟩, _⟩ := HBX.out wQ HFM2.out
              obtain ⟨m, hmm2⟩ : ∃ m, m = p.rungs.length := ⟨_, rfl⟩
              have HM := hide hmm2
              rw [← hmm2] at p1 k2 ⊢
              clear hmm2 hlt hki
              go_wp2_with fail
              go_loopw [67] (fun i wr => ∃ k : Nat, k ≤ m ∧ i = .int .i64 (k : Int) ∧ Hid (BM wr b1 (n + 12 + k) ((p.rungs.take k).foldl (rung p.names st.is) ⟨reads p.names (Ld.kindL p.names 1) inp st.is, st.ct⟩).is) ∧ Hid (IM wr b2 (n + 12 + k) ((p.rungs.take k).foldl (rung p.names st.is) ⟨reads p.names (Ld.kindL p.names 1) inp st.is, st.ct⟩).ct) ∧ Hid (∀ s, -9223372036854775808 ≤ ((p.rungs.take k).foldl (rung p.names st.is) ⟨reads p.names (Ld.kindL p.names 1) inp st.is, st.ct⟩).ct s ∧ ((p.rungs.take k).foldl (rung p.names st.is) ⟨reads p.names (Ld.kindL p.names 1) inp st.is, st.ct⟩).ct s ≤ 9223372036854775807) ∧ Hid (Fr b1 b2 wM wr)) (fun i _ => m - (intOf i).toNat)
              case atStart => exact ⟨0, Nat.zero_le _, rfl, HB0.out, HI0.out, HCT.out, HFM2.out⟩
              case round =>
                obtain ⟨k, hk, rfl, HBk, HIk, HCk, HFk⟩ := hrel
                by_cases hlt : k < m
                · have hkl3 : k < p.rungs.length := by rw [← HM.out]; exact hlt
                  have hmem := List.getElem_mem hkl3
                  obtain ⟨r1, r2, r3, _, _⟩ := Ld.check_rungs p HCK.out _ hmem
                  obtain ⟨_, _, r6, x, rx, rxn⟩ := (Ld.check_names p HCK.out).2.2.2 _ hmem
                  have HTS := hide (fold_succ (rung p.names st.is) p.rungs ⟨reads p.names (Ld.kindL p.names 1) inp st.is, st.ct⟩ k hkl3)
                  generalize (p.rungs.take k).foldl (rung p.names st.is) ⟨reads p.names (Ld.kindL p.names 1) inp st.is, st.ct⟩ = t at *
                  have z := HZL.out
                  have hzr := HFk.out.size
                  have HOLD : Hid (∀ b i v, b < w.heap.size → w.cell? ⟨b, i, none⟩ = some v → wr.cell? ⟨b, i, none⟩ = some v) := fun b i v hb hc => by
                    rw [World.cell?_of_block (w' := wr) (w := wM) (HFk.out.block b (by omega) (by omega) (by omega)), World.cell?_of_block (w' := wM) (w := w) (HBW.out.block b hb)]; exact hc
                  obtain ⟨j, hjn, hnj, hjnm, _⟩ : ∃ (j : Nat) (h : j < p.names.length), Ld.number p.names (p.rungs[k]).name = (j : Int) ∧ p.names[j].name = (p.rungs[k]).name ∧ True := by
                    rcases Ld.number_cases p.names (p.rungs[k]).name with ⟨h6, _⟩ | ⟨j, hj, h6, h7, _⟩
                    · omega
                    · exact ⟨j, hj, h6, h7, trivial⟩
                  obtain ⟨gR, rfl, hrcp, u, d1, d2, d3, hrl, hri, hrc⟩ := HRG.out.at_ (List.getElem?_eq_getElem hkl3)
                  obtain ⟨gN, rfl, hncp, e1, e2, e3, hnl, hni, hncc⟩ := HNM.out.at_ (List.getElem?_eq_getElem hjn)
                  have HTOP : Hid (top p.names (p.rungs[k]).name = p.names[j].count) := by show _ = _; unfold top; rw [hnj, Int.toNat_natCast]; exact congrArg Ld.Nme.count (getD_of hjn)
                  have g1 := HOLD.out _ _ _ (World.block_lt_of_cell? _ _ d1) d1
                  have g2 := HOLD.out _ _ _ (World.block_lt_of_cell? _ _ d1) d2
                  have g3 := HOLD.out _ _ _ (World.block_lt_of_cell? _ _ d1) d3
                  have g4 := HOLD.out _ _ _ (World.block_lt_of_cell? _ _ e1) e3
                  have HNWr : Hid (NamesAt w (.slice (some ⟨gN, 0, none⟩) p.names.length nc) p.names) := HNM.out
                  have hgRl : gR < w.heap.size := World.block_lt_of_cell? _ _ d1
                  have hgNl : gN < w.heap.size := World.block_lt_of_cell? _ _ e1
                  generalize p.rungs[k] = r at *
                  obtain ⟨rk, rn, rcd⟩ := r
                  dsimp only at *
                  generalize p.names[j] = y at *
                  obtain ⟨nm, kd, mst⟩ := y
                  dsimp only at *
                  subst rx
                  obtain ⟨gx, rfl, hx, hxs, hxt⟩ := hrc
                  obtain ⟨wX, hwX⟩ : ∃ wX, wX = wr.alloc (.cells #[.int .i64 rk, .string ⟨rn.toArray⟩, .pointer (some ⟨gx, 0, none⟩)] 195) := ⟨_, rfl⟩
                  have hbX : Below wr.heap.size wr wX := by rw [hwX]; exact (Below.refl _ _).alloc (Nat.le_refl _) _
                  have hnX : wX.heap[wr.heap.size]? = some (.cells #[.int .i64 rk, .string ⟨rn.toArray⟩, .pointer (some ⟨gx, 0, none⟩)] 195 (0, 0)) := by rw [hwX]; exact heap_alloc_new _ _
                  have hzX : wX.heap.size = wr.heap.size + 1 := by rw [hwX]; simp
                  have HFX : Hid (Fr b1 b2 wM wX) := HFk.out.trans (Fr.of_below hbX)
                  have HWX : Hid (Below w.heap.size w wX) := HBW.out.trans (HFX.out.below (by omega) (by omega) (by omega))
                  have HBX2 := hide (HBk.out.below hbX)
                  have HIX2 := hide (HIk.out.below hbX)
                  obtain ⟨⟨p0, p1⟩, ⟨s0, s1⟩, ⟨t0, t1⟩, _⟩ := HBX.out wX HFX.out
                  have HTI : Hid (R3.Tells (fun nm => nm.length ≤ maxLen) (.func (.func 98) #[] #[.pointer (some ⟨wD.heap.size, 0, none⟩)]) t.is wX) := ⟨_, _, rfl, fun _ _ => by kernel_rfl, fun W hW nm hn => ask_any _ (.inl rfl) wD.heap.size b1 _ _ W ((hW.cell (World.block_lt_of_cell? _ _ t0)).trans t0) (HBX2.out.below hW) nm hn⟩
                  have HTW : Hid (R3.Tells (fun nm => nm.length ≤ maxLen) (.func (.func 99) #[] #[.pointer (some ⟨w.heap.size + 1, 0, none⟩)]) st.is wX) := ⟨_, _, rfl, fun _ _ => by kernel_rfl, fun W hW nm hn => ask_any _ (.inr rfl) (w.heap.size + 1) m1 _ _ W ((hW.cell (World.block_lt_of_cell? _ _ s0)).trans s0) ((HM1.out.below HWX.out).below hW) nm hn⟩
                  have HEV := hide (R3.reval_any (fun nm => nm.length ≤ maxLen) x gx _ _ t.is st.is wX (fun n hn => fits n (rxn n hn)) (IsRx.stay (Stay.below HWX.out) (fun _ h => h) x gx hx) HTI.out HTW.out)
                  have hrkI : (rk : Int) = rk := rfl
                  have hki : (k : Int) < (m : Int) := by omega
                  obtain ⟨⟨v0, v1⟩, _, _, _⟩ := HBX.out wr HFk.out
                  have HBXX := hide hbX
                  have HNX := hide hnX
                  have HWE2 := hide hwX
                  rw [hwX] at HEV
                  clear hbX hnX p0 p1 s0 s1 t0 t1 d1 d2 d3 e1 e2 e3 hx hwX hrkI
                  go_wp2_with fail
                  refine HEV.out.mono ?_
                  rintro e wZ ⟨rfl, hbZ⟩
                  rw [← HWE2.out] at hbZ
                  have HFZ : Hid (Fr b1 b2 wM wZ) := HFX.out.trans (Fr.of_below hbZ)
                  have HBZ := hide (HBX2.out.below hbZ)
                  have HIZ := hide (HIX2.out.below hbZ)
                  have HNZ : Hid (wZ.heap[wr.heap.size]? = some (.cells #[.int .i64 rk, .string ⟨rn.toArray⟩, .pointer (some ⟨gx, 0, none⟩)] 195 (0, 0))) := (hbZ.block _ (by omega)).trans HNX.out
                  have HOZ : Hid (Below wr.heap.size wr wZ) := HBXX.out.trans (hbZ.mono HBXX.out.size)
                  have hzZ := hbZ.size
                  generalize heb : x.eval t.is st.is = eb at *
                  have HEB := hide heb
                  clear heb
                  have HKS : Hid (∀ W, Below wZ.heap.size wZ W → W.cell? ⟨w.heap.size, 0, none⟩ = some (.slice (some ⟨gN, 0, none⟩) p.names.length nc) ∧ W.cell? ⟨w.heap.size, 1, none⟩ = some (.slice (some ⟨gR, 0, none⟩) m rc) ∧ W.cell? ⟨wr.heap.size, 1, none⟩ = some (.string ⟨rn.toArray⟩) ∧ W.cell? ⟨gN, j * 3 + 2, none⟩ = some (.int .i64 mst)) := fun W hW => by
                    obtain ⟨⟨p0, p1⟩, _⟩ := HBX.out W (HFZ.out.trans (Fr.of_below hW))
                    have c2 : wZ.cell? ⟨wr.heap.size, 1, none⟩ = some (.string ⟨rn.toArray⟩) := by rw [Lib.cell_of_heap HNZ.out]; rfl
                    have c3 := (HOZ.out.cell (World.block_lt_of_cell? _ _ g4)).trans g4
                    exact ⟨p0, by rw [HM.out]; exact p1, (hW.cell (World.block_lt_of_cell? _ _ c2)).trans c2, (hW.cell (World.block_lt_of_cell? _ _ c3)).trans c3⟩
                  have HNU : Hid (∀ W, Below wZ.heap.size wZ W → Calls Tryz.prog 23 #[.agg #[.slice (some ⟨gN, 0, none⟩) p.names.length nc, .slice (some ⟨gR, 0, none⟩) m rc], .string ⟨rn.toArray⟩] W fun e w' => e = .returned (.int .i64 (j : Int)) ∧ Below W.heap.size W w') := fun W hW => by
                    have h := rNumber_any p.names (.slice (some ⟨gN, 0, none⟩) p.names.length nc) (.slice (some ⟨gR, 0, none⟩) m rc) rn W (HNWr.out.below (HBW.out.trans ((HFZ.out.trans (Fr.of_below hW)).below (by omega) (by omega) (by omega)))) ⟨_, _, _, rfl⟩
                    rw [hnj] at h
                    exact h
                  have HD : Hid (Below wZ.heap.size wZ wZ.drew) := ⟨rfl, rfl, rfl, Nat.le_refl _, fun _ _ => rfl⟩
                  have hjl : (j : Int) < (p.names.length : Int) := by omega
                  clear hbZ HEV g1 g2 g3 g4 v0 v1
                  go_upto_region 19 with fail
                  go_cut [17] from 76 to 160 (fun c wx => c = .int .i64 mst ∧ Below wZ.heap.size wZ wx)
                  case first =>
                    go_region_held3 (fun W => W.cell? ⟨w.heap.size, 0, none⟩ = some (.slice (some ⟨gN, 0, none⟩) p.names.length nc) ∧ W.cell? ⟨w.heap.size, 1, none⟩ = some (.slice (some ⟨gR, 0, none⟩) m rc) ∧ W.cell? ⟨wr.heap.size, 1, none⟩ = some (.string ⟨rn.toArray⟩) ∧ W.cell? ⟨gN, j * 3 + 2, none⟩ = some (.int .i64 mst)) ((refine HKS.out _ ?_; first | exact HD.out | exact HB6.out | exact Below.refl _ _)) ((go_at_call 23; (with_reducible refine (HNU.out _ HD.out).mono ?_); rintro e w6 ⟨rfl, hb6⟩; have HB6 : Hid (Below wZ.heap.size wZ w6) := HD.out.trans hb6; clear hb6))
                    all_goals go_wp2_with fail
                    all_goals go_meet
                    all_goals exact ⟨rfl, HB6.out⟩
                  case rest =>
                    obtain ⟨rfl, hbc⟩ := hcut
                    have HFC : Hid (Fr b1 b2 wM wc) := HFZ.out.trans (Fr.of_below hbc)
                    have HBc := hide (HBZ.out.below hbc)
                    have HIc := hide (HIZ.out.below hbc)
                    have hNc : wc.heap[wr.heap.size]? = some (.cells #[.int .i64 rk, .string ⟨rn.toArray⟩, .pointer (some ⟨gx, 0, none⟩)] 195 (0, 0)) := (hbc.block _ (by omega)).trans HNZ.out
                    have HBOX : Hid (∀ W, Fr b1 b2 wc W → W.cell? ⟨wD.heap.size, 0, none⟩ = some (.map (some b1)) ∧ W.cell? ⟨wD.heap.size, 1, none⟩ = some (.map (some b2)) ∧ W.cell? ⟨wr.heap.size, 0, none⟩ = some (.int .i64 rk) ∧ W.cell? ⟨wr.heap.size, 1, none⟩ = some (.string ⟨rn.toArray⟩)) := fun W hW => by
                      obtain ⟨_, _, ⟨t0, t1⟩, _⟩ := HBX.out W (HFC.out.trans hW)
                      have e := (hW.block wr.heap.size (Array.getElem?_eq_some_iff.1 hNc).1 (by omega) (by omega)).trans hNc
                      exact ⟨t0, t1, by rw [Lib.cell_of_heap e]; rfl, by rw [Lib.cell_of_heap e]; rfl⟩
                    have HEND : Hid (∀ (W : World) (t' : St), rung p.names st.is t ⟨rk, rn, some x⟩ = t' → BM W b1 (n + 12 + (k + 1)) t'.is → IM W b2 (n + 12 + (k + 1)) t'.ct → (∀ s, -9223372036854775808 ≤ t'.ct s ∧ t'.ct s ≤ 9223372036854775807) → Fr b1 b2 wc W →
                        Hid (BM W b1 (n + 12 + (k + 1)) ((p.rungs.take (k + 1)).foldl (rung p.names st.is) ⟨reads p.names (Ld.kindL p.names 1) inp st.is, st.ct⟩).is) ∧ Hid (IM W b2 (n + 12 + (k + 1)) ((p.rungs.take (k + 1)).foldl (rung p.names st.is) ⟨reads p.names (Ld.kindL p.names 1) inp st.is, st.ct⟩).ct) ∧ Hid (∀ s, -9223372036854775808 ≤ ((p.rungs.take (k + 1)).foldl (rung p.names st.is) ⟨reads p.names (Ld.kindL p.names 1) inp st.is, st.ct⟩).ct s ∧ ((p.rungs.take (k + 1)).foldl (rung p.names st.is) ⟨reads p.names (Ld.kindL p.names 1) inp st.is, st.ct⟩).ct s ≤ 9223372036854775807) ∧ Hid (Fr b1 b2 wM W)) := fun W t' h1 h2 h3 h4 h5 => by
                      rw [HTS.out, h1]
                      exact ⟨h2, h3, h4, HFC.out.trans h5⟩
                    obtain ⟨t0, t1, n0, n1⟩ := HBOX.out wc (Fr.refl _ _ _)
                    have hkm : n + 12 + k < maxLen := by unfold maxLen; omega
                    have hrk : rk = 1 ∨ rk = 2 ∨ rk = 3 ∨ (rk = 4 ∨ rk = 5) ∨ rk = 6 := by omega
                    have HCB := hide (HCk.out rn)
                    have HNI := hide hncc
                    clear hNc hbc hncc r1 r2 r3 hri
                    rcases hrk with rfl | rfl | rfl | hrk | rfl
                    · obtain ⟨wP, hput, hbm, htn⟩ := HBc.out.put hkm rn hrl eb
                      have HFP := hide (Fr.turned1 (b := b2) htn)
                      have HRel := hide (HEND.out wP ⟨upd t.is rn eb, t.ct⟩ (by unfold rung; dsimp only; rw [HEB.out]; rfl) hbm ((HFP.out.im2 HIc.out (fun e => hne e.symm) (turned_two htn).2.2.2.2).more (by omega)) HCk.out HFP.out)
                      clear hbm htn
                      go_wp2_with fail
                      go_roundw
                      case rel => exact ⟨k + 1, by omega, by go_num, HRel.out⟩
                      case measure => simp [intOf]; omega
                    · cases eb with
                      | true =>
                        obtain ⟨wP, hput, hbm, htn⟩ := HBc.out.put hkm rn hrl true
                        have HFP := hide (Fr.turned1 (b := b2) htn)
                        have HRel := hide (HEND.out wP ⟨upd t.is rn true, t.ct⟩ (by unfold rung; dsimp only; rw [HEB.out]; rfl) hbm ((HFP.out.im2 HIc.out (fun e => hne e.symm) (turned_two htn).2.2.2.2).more (by omega)) HCk.out HFP.out)
                        clear hbm htn
                        go_wp2_with fail
                        go_roundw
                        case rel => exact ⟨k + 1, by omega, by go_num, HRel.out⟩
                        case measure => simp [intOf]; omega
                      | false =>
                        have HRel := hide (HEND.out wc t (by unfold rung; dsimp only; rw [HEB.out]; rfl) (HBc.out.more (by omega)) (HIc.out.more (by omega)) HCk.out (Fr.refl _ _ _))
                        go_wp2_with fail
                        go_roundw
                        case rel => exact ⟨k + 1, by omega, by go_num, HRel.out⟩
                        case measure => simp [intOf]; omega
                    · cases eb with
                      | true =>
                        obtain ⟨wP, hput, hbm, htn⟩ := HBc.out.put hkm rn hrl false
                        have HFP := hide (Fr.turned1 (b := b2) htn)
                        have HRel := hide (HEND.out wP ⟨upd t.is rn false, t.ct⟩ (by unfold rung; dsimp only; rw [HEB.out]; rfl) hbm ((HFP.out.im2 HIc.out (fun e => hne e.symm) (turned_two htn).2.2.2.2).more (by omega)) HCk.out HFP.out)
                        clear hbm htn
                        go_wp2_with fail
                        go_roundw
                        case rel => exact ⟨k + 1, by omega, by go_num, HRel.out⟩
                        case measure => simp [intOf]; omega
                      | false =>
                        have HRel := hide (HEND.out wc t (by unfold rung; dsimp only; rw [HEB.out]; rfl) (HBc.out.more (by omega)) (HIc.out.more (by omega)) HCk.out (Fr.refl _ _ _))
                        go_wp2_with fail
                        go_roundw
                        case rel => exact ⟨k + 1, by omega, by go_num, HRel.out⟩
                        case measure => simp [intOf]; omega
                    · obtain ⟨c, hc⟩ : ∃ c, t.ct rn = c := ⟨_, rfl⟩
                      have HC0 := hide hc
                      have hlk := HIc.out.look rn hrl
                      have hcb := HCB.out
                      have hni := HNI.out
                      unfold I64 at hni
                      rw [hc] at hlk hcb
                      clear hc
                      cases eb with
                      | true =>
                        by_cases hcm : c < mst
                        · have HRU : Hid (rung p.names st.is t ⟨rk, rn, some x⟩ = ⟨upd t.is rn (c + 1 == mst), upd t.ct rn (c + 1)⟩) := by
                            show _ = _
                            unfold rung
                            dsimp only
                            rw [HEB.out, HTOP.out, HC0.out]
                            have hg : goes true rk c mst = c + 1 := by unfold goes; simp [hcm]
                            rw [hg, if_neg (by omega), if_neg (by omega), if_neg (by omega), if_pos hrk]
                          obtain ⟨wP, hput, him, htn⟩ := HIc.out.put hkm rn hrl (c + 1) (by omega) (by omega)
                          have HFP : Hid (Fr b1 b2 wc wP) := Fr.turned2 htn
                          have hlk2 := him.look rn hrl
                          rw [upd_at] at hlk2
                          have HBP := hide (HFP.out.bm2 HBc.out hne (turned_two htn).2.2.2.2)
                          obtain ⟨wQ, hput2, hbm, htn2⟩ := HBP.out.put hkm rn hrl (c + 1 == mst)
                          have HFQ : Hid (Fr b1 b2 wP wQ) := Fr.turned1 htn2
                          have HRel := hide (HEND.out wQ ⟨upd t.is rn (c + 1 == mst), upd t.ct rn (c + 1)⟩ HRU.out hbm (HFQ.out.im2 him (fun e => hne e.symm) (turned_two htn2).2.2.2.2) (upd_in _ _ _ HCk.out (by omega)) (HFP.out.trans HFQ.out))
                          obtain ⟨y0, y1, y2, y3⟩ := HBOX.out wP HFP.out
                          clear hbm htn htn2 him
                          go_wp2_with fail
                          all_goals go_roundw
                          all_goals first | exact ⟨k + 1, by omega, by go_num, HRel.out⟩ | (simp [intOf]; omega)
                        · have HRU : Hid (rung p.names st.is t ⟨rk, rn, some x⟩ = ⟨upd t.is rn (c == mst), t.ct⟩) := by
                            show _ = _
                            unfold rung
                            dsimp only
                            rw [HEB.out, HTOP.out, HC0.out]
                            have hg : goes true rk c mst = c := by unfold goes; simp [hcm]
                            rw [hg, if_neg (by omega), if_neg (by omega), if_neg (by omega), if_pos hrk, show upd t.ct rn c = t.ct from by rw [← HC0.out]; exact upd_same _ _]
                          obtain ⟨wP, hput, hbm, htn⟩ := HBc.out.put hkm rn hrl (c == mst)
                          have HFP := hide (Fr.turned1 (b := b2) htn)
                          have HRel := hide (HEND.out wP ⟨upd t.is rn (c == mst), t.ct⟩ HRU.out hbm ((HFP.out.im2 HIc.out (fun e => hne e.symm) (turned_two htn).2.2.2.2).more (by omega)) HCk.out HFP.out)
                          clear hbm htn
                          go_wp2_with fail
                          all_goals go_roundw
                          all_goals first | exact ⟨k + 1, by omega, by go_num, HRel.out⟩ | (simp [intOf]; omega)
                      | false =>
                        rcases hrk with rfl | rfl
                        · have hrk : (4 : Int) = 4 ∨ (4 : Int) = 5 := .inl rfl
                          have HRU : Hid (rung p.names st.is t ⟨4, rn, some x⟩ = ⟨upd t.is rn (0 == mst), upd t.ct rn (0)⟩) := by
                            show _ = _
                            unfold rung
                            dsimp only
                            rw [HEB.out, HTOP.out, HC0.out]
                            have hg : goes false 4 c mst = 0 := by unfold goes; simp 
                            rw [hg, if_neg (by omega), if_neg (by omega), if_neg (by omega), if_pos hrk]
                          obtain ⟨wP, hput, him, htn⟩ := HIc.out.put hkm rn hrl (0) (by omega) (by omega)
                          have HFP : Hid (Fr b1 b2 wc wP) := Fr.turned2 htn
                          have hlk2 := him.look rn hrl
                          rw [upd_at] at hlk2
                          have HBP := hide (HFP.out.bm2 HBc.out hne (turned_two htn).2.2.2.2)
                          obtain ⟨wQ, hput2, hbm, htn2⟩ := HBP.out.put hkm rn hrl (0 == mst)
                          have HFQ : Hid (Fr b1 b2 wP wQ) := Fr.turned1 htn2
                          have HRel := hide (HEND.out wQ ⟨upd t.is rn (0 == mst), upd t.ct rn (0)⟩ HRU.out hbm (HFQ.out.im2 him (fun e => hne e.symm) (turned_two htn2).2.2.2.2) (upd_in _ _ _ HCk.out (by omega)) (HFP.out.trans HFQ.out))
                          obtain ⟨y0, y1, y2, y3⟩ := HBOX.out wP HFP.out
                          clear hbm htn htn2 him
                          go_wp2_with fail
                          go_roundw
                          case rel => exact ⟨k + 1, by omega, by go_num, HRel.out⟩
                          case measure => simp [intOf]; omega
                        · have hrk : (5 : Int) = 4 ∨ (5 : Int) = 5 := .inr rfl
                          have HRU : Hid (rung p.names st.is t ⟨5, rn, some x⟩ = ⟨upd t.is rn (c == mst), t.ct⟩) := by
                            show _ = _
                            unfold rung
                            dsimp only
                            rw [HEB.out, HTOP.out, HC0.out]
                            have hg : goes false 5 c mst = c := by unfold goes; simp 
                            rw [hg, if_neg (by omega), if_neg (by omega), if_neg (by omega), if_pos hrk, show upd t.ct rn c = t.ct from by rw [← HC0.out]; exact upd_same _ _]
                          obtain ⟨wP, hput, hbm, htn⟩ := HBc.out.put hkm rn hrl (c == mst)
                          have HFP := hide (Fr.turned1 (b := b2) htn)
                          have HRel := hide (HEND.out wP ⟨upd t.is rn (c == mst), t.ct⟩ HRU.out hbm ((HFP.out.im2 HIc.out (fun e => hne e.symm) (turned_two htn).2.2.2.2).more (by omega)) HCk.out HFP.out)
                          clear hbm htn
                          go_wp2_with fail
                          go_roundw
                          case rel => exact ⟨k + 1, by omega, by go_num, HRel.out⟩
                          case measure => simp [intOf]; omega
                    · cases eb with
                      | true =>
                        obtain ⟨wA1, hputA1, himA1, htnA1⟩ := IM.put (W := wc.drew) (HIc.out.kept rfl) hkm rn hrl 0 (by omega) (by omega)
                        have HFA1 : Hid (Fr b1 b2 wc wA1) := (Fr.drew b1 b2 wc).trans (Fr.turned2 htnA1)
                        have HBA1 : Hid (BM wA1 b1 (n + 12 + k) t.is) := HBc.out.kept ((turned_two htnA1).2.2.2.2 b1 hne)
                        obtain ⟨wA2, hputA2, hbmA2, htnA2⟩ := HBA1.out.put hkm rn hrl false
                        have HFA2 : Hid (Fr b1 b2 wA1 wA2) := Fr.turned1 htnA2
                        have HRA := hide (HEND.out wA2 ⟨upd t.is rn false, upd t.ct rn 0⟩ (by unfold rung; dsimp only; rw [HEB.out]; rfl) hbmA2 (himA1.kept ((turned_two htnA2).2.2.2.2 b2 (fun e => hne e.symm))) (upd_in _ _ _ HCk.out (by omega)) (HFA1.out.trans HFA2.out))
                        obtain ⟨wB1, hputB1, hbmB1, htnB1⟩ := BM.put (W := wc.drew) (HBc.out.kept rfl) hkm rn hrl false
                        have HFB1 : Hid (Fr b1 b2 wc wB1) := (Fr.drew b1 b2 wc).trans (Fr.turned1 htnB1)
                        have HIB1 : Hid (IM wB1 b2 (n + 12 + k) t.ct) := HIc.out.kept ((turned_two htnB1).2.2.2.2 b2 (fun e => hne e.symm))
                        obtain ⟨wB2, hputB2, himB2, htnB2⟩ := HIB1.out.put hkm rn hrl 0 (by omega) (by omega)
                        have HFB2 : Hid (Fr b1 b2 wB1 wB2) := Fr.turned2 htnB2
                        have HRB := hide (HEND.out wB2 ⟨upd t.is rn false, upd t.ct rn 0⟩ (by unfold rung; dsimp only; rw [HEB.out]; rfl) (hbmB1.kept ((turned_two htnB2).2.2.2.2 b1 hne)) himB2 (upd_in _ _ _ HCk.out (by omega)) (HFB1.out.trans HFB2.out))
                        obtain ⟨ya0, ya1, ya2, ya3⟩ := HBOX.out wA1 HFA1.out
                        obtain ⟨yb0, yb1, yb2, yb3⟩ := HBOX.out wB1 HFB1.out
                        clear htnA1 htnA2 htnB1 htnB2 himA1 hbmA2 hbmB1 himB2
                        go_wp2_with fail
                        go_region
                        all_goals go_wp2_with fail
                        all_goals go_roundw
                        all_goals first | exact ⟨k + 1, by omega, by go_num, HRA.out⟩ | exact ⟨k + 1, by omega, by go_num, HRB.out⟩ | (simp [intOf]; omega)
                      | false =>
                        have HRel := hide (HEND.out wc t (by unfold rung; dsimp only; rw [HEB.out]; rfl) (HBc.out.more (by omega)) (HIc.out.more (by omega)) HCk.out (Fr.refl _ _ _))
                        go_wp2_with fail
                        go_roundw
                        case rel => exact ⟨k + 1, by omega, by go_num, HRel.out⟩
                        case measure => simp [intOf]; omega
                · have hkm : k = m := by omega
                  have HBE2 := hide HBk.out
                  have HIE2 := hide HIk.out
                  have HCE2 := hide HCk.out
                  rw [hkm, HM.out, List.take_length] at HBE2 HIE2 HCE2
                  have z := HZL.out
                  obtain ⟨_, _, ⟨t0, t1⟩, hcc⟩ := HBX.out wr HFk.out
                  have z0 : wr.cell? ⟨w.heap.size + 1 + 1, 0, none⟩ = some (.map none) := by rw [Lib.cell_of_heap hcc]; rfl
                  have z1 : wr.cell? ⟨w.heap.size + 1 + 1, 1, none⟩ = some (.map none) := by rw [Lib.cell_of_heap hcc]; rfl
                  have z2 : wr.frozen? ⟨w.heap.size + 1 + 1, 0, none⟩ = false := Lib.frozen_of_heap hcc 0
                  have z3 : wr.frozen? ⟨w.heap.size + 1 + 1, 1, none⟩ = false := Lib.frozen_of_heap hcc 1
                  have HBWr : Hid (Below w.heap.size w wr) := HBW.out.trans (HFk.out.below (by omega) (by omega) (by omega))
                  clear hcc
                  go_wp2_with fail
                  refine bodyPost_ret_by (v := .agg #[.map (some b1), .map (some b2)]) ?_ rfl ?_
                  · simp [results, Tryz.results46, go_sem, z0, z1]
                  · refine ⟨(HBWr.out.setCell (p := ⟨w.heap.size + 1 + 1, 0, none⟩) (by show w.heap.size ≤ w.heap.size + 1 + 1; omega) _).setCell (p := ⟨w.heap.size + 1 + 1, 1, none⟩) (by show w.heap.size ≤ w.heap.size + 1 + 1; omega) _, _, rfl, b1, b2, rfl, ?_, ?_, HCE2.out⟩
                    · refine BM.kept (HBE2.out.more (by have := HM.out; omega)) ?_
                      rw [Below.heap_setCell _ _ _ _ (fun e => by simp at e; omega), Below.heap_setCell _ _ _ _ (fun e => by simp at e; omega)]
                    · refine IM.kept (HIE2.out.more (by have := HM.out; omega)) ?_
                      rw [Below.heap_setCell _ _ _ _ (fun e => by simp at e; omega), Below.heap_setCell _ _ _ _ (fun e => by simp at e; omega)]
        · intro x c w1 cnt1 hwx hwc hlx hat hrg1 hlt hg1 hs1 hen
          have hlq : wL.heap.size < wr.heap.size := HZq.out
          have HF1 := hide (HFq.out.grown_new hg1 (by have := HZE.out; omega))
          obtain ⟨u0, u1, u2⟩ := HTO.out _ HF1.out
          have hout1 := om_block HOUT.out (hg1.block b2 (by have := HZE.out; omega) (fun e => by have := Option.some.inj e; have := HZE.out; omega))
          have HM1 := hide (om_block HM.out (hg1.block b1 (by have := HZE.out; omega) (fun e => by have := Option.some.inj e; have := HZE.out; omega)))
          have HAT := hide hat
          have HWC := hide hwc
          clear hat hwc
          go_wp2_with (at_mapUpdate; refine wpList_mapUpdate_own _ rfl _ _ _ 121 rfl 9 3 lawS Tryz.underlying121 _ b2 _ _ rfl hout1 (by unfold maxLen; omega) _ _ _ rfl rfl (keyS x hwx) _ [] (plainElem_int Tryz.underlying3 HWC.out) ?_; intro w2 hout2 hg2; go_frame)
          have hrg2 := hrg1.kept hg2 (fun e => by have := Option.some.inj e; have := HZE.out; omega) (fun e => by have := Option.some.inj e; have := HZE.out; omega)
          have HF2 := hide (HF1.out.grown_b hg2)
          have HM2' := hide (om_block HM1.out (hg2.block b1 (by have := HZE.out; omega) (fun e => by have := Option.some.inj e; have := HZE.out; omega)))
          go_roundw
          case rel => exact ⟨_, cnt1, _, hrg2, by omega, hout2.mono (by omega), agree_step HA.out HOUT.out.isMap trivial HAT.out, HF2.out, HM2'.out, by have := hg2.size; show _ < _; omega⟩
          case measure => rw [hrg2.left_eq, hrg.left_eq]; exact hlt
    · intro x v w1 cnt1 hwx hlx HAT hrg1 hlt hg1 hs1 hen
      have hlE : wE.heap.size < wr.heap.size := HZ.out
      have HF1 := hide (HF.out.grown_new hg1 (by have := HZE.out; omega))
      obtain ⟨u0, u1, u2⟩ := HTO.out _ HF1.out
      have hout1 := om_block HOUT.out (hg1.block b1 (by have := HZE.out; omega) (fun e => by have := Option.some.inj e; have := HZE.out; omega))
      have HB21 := hide (om_block HB2.out (hg1.block b2 (by have := HZE.out; omega) (fun e => by have := Option.some.inj e; have := HZE.out; omega)))
      obtain ⟨c, rfl, hat⟩ := HAT
      have HAT := hide hat
      clear hat
      go_wp2_with (at_mapUpdate; refine wpList_mapUpdate_own _ rfl _ _ _ 120 rfl 9 4 lawS Tryz.underlying120 _ b1 _ _ rfl hout1 (by unfold maxLen; omega) _ _ _ rfl rfl (keyS x hwx) _ [] (plainElem_bool Tryz.underlying4 c) ?_; intro w2 hout2 hg2; go_frame)
      have hrg2 := hrg1.kept hg2 (fun e => by have := Option.some.inj e; have := HZE.out; omega) (fun e => by have := Option.some.inj e; have := HZE.out; omega)
      have HF2 := hide (HF1.out.grown_a hg2)
      have HB22 := hide (om_block HB21.out (hg2.block b2 (by have := HZE.out; omega) (fun e => by have := Option.some.inj e; have := HZE.out; omega)))
      go_roundw
      case rel => exact ⟨_, cnt1, _, hrg2, by omega, hout2.mono (by omega), agree_step HA.out HOUT.out.isMap trivial HAT.out, HF2.out, HB22.out, by have := hg2.size; show _ < _; omega⟩
      case measure => rw [hrg2.left_eq, hrg.left_eq]; exact hlt
end Rf
end Go.Proofs.YtgldbliohpfljaaGreatDoor
