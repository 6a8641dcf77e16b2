/-
  What a round of fill's inner loop lays. The walk of package machine's fill. The walk of package machine's Of: a machine of a program, in memory. The walk of the statements' own great: how many states and inputs a program has. What is refused, and what is too much to be tried. The walk of the statements' own machines: the program's, and the document's.
-/
import Derived.Test.YtgldbliohpfljaaGreatDoorRfStateMAll
import Derived.Deep.RegionHeld3
import Derived.Test.YtgldbliohpfljaaGreatDoorMcOffAll
import Derived.Test.YtgldbliohpfljaaGreatDoorNaEdgesAll
import Derived.Test.YtgldbliohpfljaaGreatDoorScBoundAll
import Derived.Test.YtgldbliohpfljaaGreatDoorRfMachOfAll
namespace Go.Proofs.YtgldbliohpfljaaGreatDoor
section
open Go.RowKit
/-- the state that Do has made lies behind a pointer -/
def D7 (V : World) (n : Nat) (st : Sc.St) (t7 : Value) (W : World) : Prop := ∃ b7 gi gc, t7 = .pointer (some ⟨b7, 0, none⟩) ∧ W.heap[b7]? = some (.cells #[.slice (some ⟨gi, 0, none⟩) n n, .slice (some ⟨gc, 0, none⟩) n n] 105 (0, 0)) ∧ StAt W gi gc st ∧ (V.heap.size ≤ b7 ∧ V.heap.size ≤ gi ∧ V.heap.size ≤ gc) ∧ Below V.heap.size V W
theorem d7_a {V W : World} {n gi gc : Nat} {st : Sc.St} (hs : StAt W gi gc st) (hb : Below V.heap.size V W) (h1 : V.heap.size ≤ gi) (h2 : V.heap.size ≤ gc) : D7 V n st (.pointer (some ⟨W.heap.size, 0, none⟩)) (W.alloc (.cells #[.slice (some ⟨gi, 0, none⟩) n n, .slice (some ⟨gc, 0, none⟩) n n] 105)) :=
  ⟨_, gi, gc, rfl, heap_alloc_new _ _, hs.kept (Below.heap_alloc _ _ _ hs.lt.1) (Below.heap_alloc _ _ _ hs.lt.2), ⟨hb.size, h1, h2⟩, hb.alloc hb.size _⟩
theorem d7_b {V W : World} {n gi gc : Nat} {st : Sc.St} (ht : W.heap[V.heap.size]? = some (.cells #[.slice none 0 0, .slice none 0 0] 105 (0, 0))) (hs : StAt W gi gc st) (hb : Below V.heap.size V W) (h1 : V.heap.size < gi) (h2 : V.heap.size < gc) : D7 V n st (.pointer (some ⟨V.heap.size, 0, none⟩)) ((W.setCell ⟨V.heap.size, 0, none⟩ (.slice (some ⟨gi, 0, none⟩) n n)).setCell ⟨V.heap.size, 1, none⟩ (.slice (some ⟨gc, 0, none⟩) n n)) :=
  ⟨_, gi, gc, rfl, by simp [World.setCell, Array.getElem?_modify, ht], hs.kept (by rw [Below.heap_setCell _ _ _ _ (by dsimp only; omega), Below.heap_setCell _ _ _ _ (by dsimp only; omega)]) (by rw [Below.heap_setCell _ _ _ _ (by dsimp only; omega), Below.heap_setCell _ _ _ _ (by dsimp only; omega)]), ⟨Nat.le_refl _, by omega, by omega⟩, Below.setCell (Below.setCell hb (Nat.le_refl _) _) (Nat.le_refl _) _⟩
/-- a round is done -/
def D8 (V0 : World) (gN gS S I a b s : Nat) (cN cS rN rS : List Value) (V : World) (i : Nat) (W : World) : Prop := Fi V0 gN gS S I a b s cN cS rN rS W (i + 1) ∧ V.heap.size ≤ W.heap.size ∧ ∀ j, j < V.heap.size → j ≠ a → j ≠ b → W.heap[j]? = V.heap[j]?
theorem d8_ab {V0 V W : World} {gN gS S I a b s i : Nat} {cN cS rN rS : List Value} {x y : Value} (h : Fi V0 gN gS S I a b s cN cS rN rS V i) (hb : Below V.heap.size V W) (hi : i < I) (hNl : rN.length = I) (hSl : rS.length = I) (hx : rN[i]? = some x) (hy : rS[i]? = some y) (hgN : gN < V0.heap.size) (hgS : gS < V0.heap.size) :
    D8 V0 gN gS S I a b s cN cS rN rS V i ((W.setCell ⟨a, i, none⟩ x).setCell ⟨b, i, none⟩ y) := by
  refine ⟨(h.below hb).put hi hNl hSl hx hy hgN hgS (fun _ _ => rfl) (by simp [World.setCell]) ⟨rfl, rfl, rfl⟩, by have := hb.size; simpa [World.setCell] using this, fun j hj h1 h2 => ?_⟩
  rw [Below.heap_setCell _ _ _ _ (fun e => h2 e), Below.heap_setCell _ _ _ _ (fun e => h1 e)]
  exact hb.block j hj
theorem d8_ba {V0 V W : World} {gN gS S I a b s i : Nat} {cN cS rN rS : List Value} {x y : Value} (h : Fi V0 gN gS S I a b s cN cS rN rS V i) (hb : Below V.heap.size V W) (hi : i < I) (hNl : rN.length = I) (hSl : rS.length = I) (hx : rN[i]? = some x) (hy : rS[i]? = some y) (hgN : gN < V0.heap.size) (hgS : gS < V0.heap.size) :
    D8 V0 gN gS S I a b s cN cS rN rS V i ((W.setCell ⟨b, i, none⟩ y).setCell ⟨a, i, none⟩ x) := by
  have hab := h.ln.2.2
  refine ⟨(h.below hb).put hi hNl hSl hx hy hgN hgS (fun k _ => ?_) (by simp [World.setCell]) ⟨rfl, rfl, rfl⟩, by have := hb.size; simpa [World.setCell] using this, fun j hj h1 h2 => ?_⟩
  · by_cases ha : k = a
    · subst ha
      rw [Below.heap_setCell (W.setCell ⟨k, i, none⟩ x) _ _ _ (by dsimp only; exact hab)]
      exact setCell_congr _ _ (Below.heap_setCell _ _ _ _ (by dsimp only; exact hab))
    · rw [Below.heap_setCell (W.setCell ⟨b, i, none⟩ y) _ _ _ (fun e => ha e)]
      exact setCell_congr _ _ (Below.heap_setCell _ _ _ _ (fun e => ha e)).symm
  · rw [Below.heap_setCell _ _ _ _ (fun e => h1 e), Below.heap_setCell _ _ _ _ (fun e => h2 e)]
    exact hb.block j hj
theorem Fi.cells {V W : World} {gN gS S I a b s i : Nat} {cN cS rN rS : List Value} (h : Fi V gN gS S I a b s cN cS rN rS W i) (hs : s < cN.length) (hs2 : s < cS.length) (hi : i < I) (hNl : rN.length = I) (hSl : rS.length = I) :
    W.cell? ⟨gN, s, none⟩ = some (slV a I) ∧ W.cell? ⟨gS, s, none⟩ = some (slV b I) ∧ (W.cell? ⟨a, i, none⟩ = some (.int .i64 0) ∧ W.frozen? ⟨a, i, none⟩ = false) ∧ W.cell? ⟨b, i, none⟩ = some (.int .i64 0) ∧ W.frozen? ⟨b, i, none⟩ = false := by
  have hr : ∀ (r : List Value), r.length = I → (r.take i ++ List.replicate (I - i) (Value.int .i64 0))[i]? = some (.int .i64 0) := fun r hl => by
    have h1 : (r.take i).length = i := by rw [List.length_take]; omega
    rw [List.getElem?_append_right (by omega), h1, Nat.sub_self, List.getElem?_replicate, if_pos (by omega)]
  exact ⟨h.tN.cell s _ (List.getElem?_set_self hs), h.tS.cell s _ (List.getElem?_set_self hs2), ⟨h.lN.cell i _ (hr rN hNl), h.lN.frozen i⟩, h.lS.cell i _ (hr rS hSl), h.lS.frozen i⟩
theorem RowIs.len_of {W : World} {g i : Nat} {t : TypeId} {l : List Value} {v : Value} (h : RowIs W g t l) (hc : W.cell? ⟨g, i, none⟩ = some v) : i < l.length := by
  rw [Lib.cell_of_heap h] at hc
  exact (Array.getElem?_eq_some_iff.1 hc).1
/-- the cells that a round of the inner loop reads -/
def K7 (bm g n gN gS S s a b I b7 gi gc : Nat) (W : World) : Prop := W.cell? ⟨bm, 4, none⟩ = some (.slice (some ⟨gN, 0, none⟩) S S) ∧ W.cell? ⟨bm, 6, none⟩ = some (.slice (some ⟨gS, 0, none⟩) S S) ∧ W.cell? ⟨bm, 5, none⟩ = some (.slice (some ⟨g, 0, none⟩) n n) ∧ W.cell? ⟨gN, s, none⟩ = some (.slice (some ⟨a, 0, none⟩) I I) ∧ W.cell? ⟨gS, s, none⟩ = some (.slice (some ⟨b, 0, none⟩) I I) ∧ W.cell? ⟨b7, 0, none⟩ = some (.slice (some ⟨gi, 0, none⟩) n n) ∧ W.cell? ⟨b7, 1, none⟩ = some (.slice (some ⟨gc, 0, none⟩) n n)
theorem K7.below {bm g n gN gS S s a b I b7 gi gc : Nat} {V W : World} (h : K7 bm g n gN gS S s a b I b7 gi gc V) (hb : Below V.heap.size V W) : K7 bm g n gN gS S s a b I b7 gi gc W := by
  have key : ∀ (p : Addr) v, V.cell? p = some v → W.cell? p = some v := fun p v hv => (hb.cell (World.block_lt_of_cell? _ _ hv)).trans hv
  exact ⟨key _ _ h.1, key _ _ h.2.1, key _ _ h.2.2.1, key _ _ h.2.2.2.1, key _ _ h.2.2.2.2.1, key _ _ h.2.2.2.2.2.1, key _ _ h.2.2.2.2.2.2⟩
theorem K7.set {bm g n gN gS S s a b I b7 gi gc : Nat} {W : World} (c j : Nat) (x : Value) (e1 : bm ≠ c) (e2 : gN ≠ c) (e3 : gS ≠ c) (e4 : b7 ≠ c) (h : K7 bm g n gN gS S s a b I b7 gi gc W) : K7 bm g n gN gS S s a b I b7 gi gc (W.setCell ⟨c, j, none⟩ x) :=
  ⟨cell_set_blk _ _ _ _ _ _ _ e1 h.1, cell_set_blk _ _ _ _ _ _ _ e1 h.2.1, cell_set_blk _ _ _ _ _ _ _ e1 h.2.2.1, cell_set_blk _ _ _ _ _ _ _ e2 h.2.2.2.1, cell_set_blk _ _ _ _ _ _ _ e3 h.2.2.2.2.1, cell_set_blk _ _ _ _ _ _ _ e4 h.2.2.2.2.2.1, cell_set_blk _ _ _ _ _ _ _ e4 h.2.2.2.2.2.2⟩
/-- what fill has done -/
def Filled (w : World) (bm : Nat) (p : Ld.Prg) (nv rv : Value) (g S I q : Nat) (e : Ending) (w' : World) : Prop := e = .returned (.tuple #[]) ∧ ∃ gN gS lo uN uS, MachAt w' bm nv rv S I (slV gN S) (slV g p.names.length) (slV gS S) ∧ ((uN.length = S ∧ uS.length = S) ∧ LL w' gN 36 3 S I lo uN (Mc.nextRow p q I) ∧ LL w' gS 36 3 S I lo uS (Mc.seesRow p q I)) ∧ (IsPrg w' p (.agg #[nv, rv]) ∧ RowIs w' g 234 ((Mc.parts p).flatMap ptCells)) ∧ (∀ k, k < w.heap.size → k ≠ bm → w'.heap[k]? = w.heap[k]?) ∧ w.heap.size ≤ w'.heap.size ∧ w'.os = w.os ∧ w'.tape = w.tape ∧ w'.output = w.output
theorem filled_of {w wr wc W : World} {bm : Nat} {p : Ld.Prg} {nv rv : Value} {g gN gS gI S I q lo : Nat} {us : List Nat} (hB : Below w.heap.size w wr) (hm : Made2 wr bm nv rv (slV g p.names.length) S I gN gS wc) (hf : Fl wc gN gS S I p q W S) (hs : Std bm p nv rv g gN gS gI S I q lo us W) : Filled w bm p nv rv g S I q (.returned (.tuple #[])) W := by
  obtain ⟨uN, uS, h1, h2, h3⟩ := hf.tabs
  obtain ⟨n1, n2, _⟩ := hm.ln
  have hz := hB.size
  have hz2 := hm.size
  have hz3 := hf.size
  exact ⟨rfl, gN, gS, _, uN, uS, hs.mach, ⟨h1, h2, h3⟩, ⟨hs.prg, hs.row⟩, fun k hk hne => (hf.old k (by omega) (by omega) (by omega)).trans ((hm.old k (by omega) hne).trans (hB.block k hk)), by omega, hf.os.1.trans (hm.os.1.trans hB.os), hf.os.2.1.trans (hm.os.2.1.trans hB.tape), hf.os.2.2.trans (hm.os.2.2.trans hB.output)⟩
end
section
open Go.RowKit
set_option maxHeartbeats 8000000 in
set_option maxRecDepth 100000 in
theorem fill_any (bm : Nat) (p : Ld.Prg) (nv rv : Value) (g S I : Nat) (w : World) (h : MachAt w bm nv rv S I (.slice none 0 0) (slV g p.names.length) (.slice none 0 0)) (hp : IsPrg w p (.agg #[nv, rv])) (hck : Ld.check p = none) (hr : RowIs w g 234 ((Mc.parts p).flatMap ptCells)) (hS : S = Mc.total (Mc.parts p)) (hS4 : S ≤ 4096) (hI : I = 2 ^ (Ld.kindL p.names 1).length) (hI6 : I ≤ 64) :
    Calls Tryz.prog 78 #[.pointer (some ⟨bm, 0, none⟩)] w (Filled w bm p nv rv g S I (Ld.kindL p.names 1).length) := by
  have HP := hide hp
  have HPL := hide (Ld.check_names p hck).1
  have HM := hide h
  have HR := hide hr
  have m1 := fun w => makeBss I (by omega) w
  have m2 := fun w => makeIss S (by omega) w
  have m3 := fun w => makeIs I (by omega) w
  obtain ⟨q, hq⟩ : ∃ q, q = (Ld.kindL p.names 1).length := ⟨_, rfl⟩
  have HQ := hide hq
  obtain ⟨cI, hcI⟩ : ∃ c, c = List.replicate I (Value.slice none 0 0) := ⟨_, rfl⟩
  obtain ⟨cS, hcS⟩ : ∃ c, c = List.replicate S (Value.slice none 0 0) := ⟨_, rfl⟩
  obtain ⟨cZ, hcZ⟩ : ∃ c, c = List.replicate I (Value.int .i64 0) := ⟨_, rfl⟩
  rw [← hcI] at m1
  rw [← hcS] at m2
  rw [← hcZ] at m3
  have HCI := hide hcI
  have HCS := hide hcS
  have HCZ := hide hcZ
  have HSS := hide hS
  have HII := hide hI
  obtain ⟨⟨c0, c1⟩, ⟨c2, c3⟩, c4, c5, c6⟩ := h.cells
  have hbm : bm < w.heap.size := (Array.getElem?_eq_some_iff.1 h).1
  have HIN := hide (fun (W : World) (i : Nat) (hW : Below w.heap.size w W) (hi : i < I) => Input_any bm p nv rv _ (slV g p.names.length) _ S I i W (HM.out.below hW) (HP.out.below hW) hi hck)
  rw [← hq] at HIN ⊢
  clear hp h hr hq hcI hcS hcZ hS hI
  obtain ⟨w1, hw1⟩ : ∃ w1, w1 = w.alloc (.cells ⟨cI⟩ 51) := ⟨_, rfl⟩
  have HL1 : Hid (LL w1 w.heap.size 51 4 I q (w.heap.size + 1) [] (fun i => (bitsTo i q).map boolV)) := LL.empty (by rw [hw1, ← HCI.out]; exact RowIs.new _ _ _)
  have HB1 : Hid (Below w.heap.size w w1) := by rw [hw1]; exact (Below.refl _ _).alloc (Nat.le_refl _) _
  have hz1 : w1.heap.size = w.heap.size + 1 := by rw [hw1]; simp
  go_enter Tryz.func78, Tryz.ntmps78
  go_wp2_with fail
  rw [← hw1]
  clear hw1
  go_loopw [17] (fun i wr => ∃ k : Nat, k ≤ I ∧ i = .int .i64 (k : Int) ∧ Hid (∃ us : List Nat, us.length = k ∧ LL wr w.heap.size 51 4 I q (w.heap.size + 1) us (fun i => (bitsTo i q).map boolV)) ∧ Hid (Below w.heap.size w wr)) (fun i _ => I - (intOf i).toNat)
  case atStart => exact ⟨0, Nat.zero_le _, rfl, ⟨[], rfl, HL1.out⟩, HB1.out⟩
  case round =>
    obtain ⟨k, hk, rfl, HU, HB⟩ := hrel
    obtain ⟨us, hul, hll⟩ := HU.out
    by_cases hlt : k < I
    · have HLL := hide hll
      obtain ⟨r0, r1⟩ := hll.next (by omega)
      have HC := hide (HIN.out wr k HB.out hlt)
      have hgl := hll.top.lt
      rw [hul] at r0 r1
      have HUL := hide hul
      clear hll hul HU HL1 HB1
      go_wp2_with fail
      refine HC.out.mono ?_
      rintro e w2 ⟨gb, rfl, hrow, hgb, hb2⟩
      have r2 := (hb2.cell (p := ⟨w.heap.size, k, none⟩) hgl).trans r0
      have r3 := (hb2.frozen (p := ⟨w.heap.size, k, none⟩) hgl).trans r1
      have HROW := hide hrow
      have HB2 := hide hb2
      have hz2 := hb2.size
      clear hrow hb2 HC
      unfold slV
      go_wp2_with fail
      go_roundw
      case rel =>
        refine ⟨k + 1, by omega, by go_num, ⟨us ++ [gb], by simp [HUL.out], ?_⟩, ?_⟩
        · refine HLL.out.put (by rw [HUL.out]; exact hlt) (by omega) (by have := HB.out.size; omega) ?_ (fun j hj => ?_)
          · rw [HUL.out]; exact HROW.out.other w.heap.size k _ (by omega)
          · rw [HUL.out]; exact setCell_congr _ _ (HB2.out.block j hj)
        · exact (HB.out.trans (HB2.out.mono HB.out.size)).setCell (p := ⟨w.heap.size, k, none⟩) (Nat.le_refl _) _
      case measure => simp [intOf]; omega
    · have hkI : k = I := by omega
      subst hkI
      have HLL := hide hll
      have HMW := hide (HM.out.below HB.out)
      have hbmw : bm < wr.heap.size := Nat.lt_of_lt_of_le hbm HB.out.size
      obtain ⟨⟨e0, e1⟩, ⟨e2, e3⟩, e4, e5, e6⟩ := HMW.out.cells
      have f4 : wr.frozen? ⟨bm, 4, none⟩ = false := Lib.frozen_of_heap HMW.out 4
      have f6 : wr.frozen? ⟨bm, 6, none⟩ = false := Lib.frozen_of_heap HMW.out 6
      clear hll HU HL1 HB1
      have HKD : Hid (∀ W : World, W.cell? ⟨bm, 2, none⟩ = some (.int .i64 (S : Int)) → W.drew.cell? ⟨bm, 2, none⟩ = some (.int .i64 (S : Int))) := fun _ h => h
      go_upto_region 6 with fail
      go_cut [33] (fun _ wx => ∃ gN gS, Made2 wr bm nv rv (slV g p.names.length) S k gN gS wx)
      case first =>
        go_region_held3 (fun W => W.cell? ⟨bm, 2, none⟩ = some (.int .i64 (S : Int))) ((repeat (first | exact e2 | refine HKD.out _ ?_ | refine cell_alloc_keep _ _ _ _ ?_ | refine cell_set_other _ _ _ _ _ _ (by decide) ?_))) (fail)
        all_goals go_wp2_with fail
        all_goals go_meet
        all_goals first
          | exact ⟨_, _, made2_of HMW.out _ _ (.inl ⟨rfl, rfl⟩) cS HCS.out⟩
          | exact ⟨_, _, made2_of HMW.out _ _ (.inr ⟨rfl, rfl⟩) cS HCS.out⟩
      case rest =>
        obtain ⟨gN, gS, hmd⟩ := hcut
        have HMD := hide hmd
        have hmw := hmd.mach
        have HMC := hide hmw
        obtain ⟨⟨d0, d1⟩, ⟨d2, d3⟩, d4, d5, d6⟩ := hmw.cells
        have hbmc : bm < wc.heap.size := (Array.getElem?_eq_some_iff.1 hmw).1
        have hgN := hmd.nx.lt
        have hgS := hmd.se.lt
        obtain ⟨n1, n2, n3⟩ := hmd.ln
        have hz2 := hmd.size
        have HSD := hide (Std.made hmd HMW.out (HP.out.below HB.out) (HR.out.below HB.out) HLL.out)
        have HSO := hide (fun (W : World) (h : ∀ k, k < wc.heap.size → k ≠ gN → k ≠ gS → W.heap[k]? = wc.heap[k]?) => HSD.out.old HMD.out.nx HMD.out.se h)
        clear hmd hmw HMW HP HR HLL HM HCI HCS c0 c1 c2 c3 c4 c5 c6 e0 e1 e2 e3 e4 e5 e6 f4 f6 HKD HIN m1 m2
        go_wp2_with fail
        go_loopw [47] (fun i wr2 => ∃ s : Nat, s ≤ S ∧ i = .int .i64 (s : Int) ∧ Hid (Fl wc gN gS S k p q wr2 s)) (fun i _ => S - (intOf i).toNat)
        case atStart => exact ⟨0, Nat.zero_le _, rfl, Fl.start HMD.out⟩
        case round =>
          obtain ⟨V, rfl⟩ : ∃ V, V = wr := ⟨_, rfl⟩
          obtain ⟨s, hs, rfl, HF⟩ := hrel
          by_cases hlt : s < S
          · have HMV := hide (HF.out.mach HMC.out (by omega) (by omega))
            obtain ⟨cN, cS, hcN, hcS, r0, r1, r2, r3⟩ := HF.out.tops hlt
            have HCN := hide hcN
            have HLN := hide (hcN.len_of r0)
            have HLT := hide (hcS.len_of r2)
            have HCT := hide hcS
            obtain ⟨⟨d0, d1⟩, ⟨d2, d3⟩, d4, d5, d6⟩ := HMV.out.cells
            have hsz := HF.out.size
            have hgNr : gN < V.heap.size := by omega
            have hgSr : gS < V.heap.size := by omega
            have hbmr : bm < V.heap.size := by omega
            have ne1 : bm ≠ gN := by omega
            have ne2 : bm ≠ gS := by omega
            have ne3 : gS ≠ gN := by omega
            have hs0 : (0 : Int) ≤ (s : Int) := by omega
            have hsS : (s : Int) < (S : Int) := by omega
            clear hcN hcS
            unfold slV at d4 d6
            have HKD : Hid (∀ W : World, K3 W bm k gN gS S → K3 W.drew bm k gN gS S) := fun _ h => h
            go_upto_region 10 with fail
            go_cut [64] (fun _ wx => ∃ a b, Fi V gN gS S k a b s cN cS (Mc.nextRow p q k s) (Mc.seesRow p q k s) wx 0)
            case first =>
              go_region_held3 (fun W => (W.cell? ⟨bm, 3, none⟩ = some (.int .i64 (k : Int)) ∧ W.cell? ⟨bm, 4, none⟩ = some (.slice (some ⟨gN, 0, none⟩) S S) ∧ W.cell? ⟨bm, 6, none⟩ = some (.slice (some ⟨gS, 0, none⟩) S S))) (first | exact ⟨d3, d4, d6⟩ | (show K3 _ bm k gN gS S; (repeat (first | exact ⟨d3, d4, d6⟩ | refine HKD.out _ ?_ | refine k3_alloc _ ?_ | refine k3_set _ _ _ (by omega) ?_)))) (fail)
              all_goals go_wp2_with fail
              all_goals go_meet
              all_goals first
                | exact ⟨_, _, fi_of _ _ HCN.out HCT.out n3 _ _ (.inl ⟨rfl, rfl⟩) cZ HCZ.out⟩
                | exact ⟨_, _, fi_of _ _ HCN.out HCT.out n3 _ _ (.inr ⟨rfl, rfl⟩) cZ HCZ.out⟩
            case rest =>
              obtain ⟨a, b, hfi⟩ := hcut
              have HFI := hide hfi
              have HST := hide (state_any (Mc.parts p) g s wc (HSO.out wc (fun k h1 h2 h3 => (HFI.out.old k (by omega) h2 h3).trans (HF.out.old k h1 h2 h3))).row (by rw [Mc.parts_len]; exact HPL.out) (Mc.parts_ok p) (Mc.parts_le p hck) (by omega))
              rw [Mc.parts_len] at HST
              have hsz2 := HFI.out.size
              have hbmv : bm < wc.heap.size := by omega
              obtain ⟨⟨d0', d1'⟩, ⟨d2', d3'⟩, d4', d5', d6'⟩ := ((HSO.out wc (fun k h1 h2 h3 => (HFI.out.old k (by omega) h2 h3).trans (HF.out.old k h1 h2 h3))).mach).cells
              clear hfi d2 d3 d4 d5 d6 r0 r1 r2 r3
              go_wp2_with fail
              refine HST.out.mono ?_
              rintro e w4 ⟨gi, gc, rfl, hst, hg1, hg2, hb4⟩
              rw [show (Mc.state (Mc.parts p) s).is.length = p.names.length from (Mc.stateI_len _ _).trans (Mc.parts_len p)]
              have HS4 := hide hst
              have HB4 := hide hb4
              have hz4 := hb4.size
              have d3w := (hb4.cell (p := ⟨bm, 3, none⟩) hbmv).trans d3'
              have hbm4 : bm < w4.heap.size := by omega
              obtain ⟨n, hn⟩ : ∃ n, n = p.names.length := ⟨_, rfl⟩
              obtain ⟨w5, hw5⟩ : ∃ w5, w5 = w4.alloc (.cells #[.slice (some ⟨gi, 0, none⟩) n n, .slice (some ⟨gc, 0, none⟩) n n] 105) := ⟨_, rfl⟩
              have HW5 := hide hw5
              rw [← hn]
              have HN := hide hn
              clear hst hb4 hn hw5 HST d2' d3' d4' d5' d6' d0' d1'
              have hz5 : w5.heap.size = w4.heap.size + 1 := by rw [HW5.out]; simp
              have HQ6 : Hid (q ≤ 64) := by have h1 := HII.out; rw [← HQ.out] at h1; have h2 := @Nat.lt_two_pow_self q; show q ≤ 64; omega
              have HBD := hide (Mc.state_bd p hck s)
              have hal := HFI.out.lN.lt
              have hbl := HFI.out.lS.lt
              have HI0 : Hid (Fi V gN gS S k a b s cN cS (Mc.nextRow p q k s) (Mc.seesRow p q k s) w5 0) := HFI.out.below (by rw [HW5.out]; exact HB4.out.alloc hz4 _)
              unfold stV
              go_wp2_with fail
              rw [← HW5.out]
              go_loopw [82] (fun x W => ∃ i : Nat, i ≤ k ∧ x = .int .i64 (i : Int) ∧ Hid (Fi V gN gS S k a b s cN cS (Mc.nextRow p q k s) (Mc.seesRow p q k s) W i) ∧ Hid ((∀ j, wc.heap.size ≤ j → j < w5.heap.size → W.heap[j]? = w5.heap[j]?) ∧ w5.heap.size ≤ W.heap.size)) (fun x _ => k - (intOf x).toNat)
              case atStart => exact ⟨0, Nat.zero_le _, rfl, HI0, ⟨fun _ _ _ => rfl, Nat.le_refl _⟩⟩
              case round =>
                obtain ⟨i, hi, rfl, HI, HX⟩ := hrel
                by_cases hil : i < k
                · have HSW := hide (HSO.out wr (fun j h1 h2 h3 => (HI.out.old j (by omega) h2 h3).trans (HF.out.old j h1 h2 h3)))
                  obtain ⟨⟨x0, x1⟩, ⟨x2, x3⟩, x4, x5, x6⟩ := HSW.out.mach.cells
                  obtain ⟨bb, hbb⟩ : ∃ bb, us[i]? = some bb := ⟨_, List.getElem?_eq_getElem (by omega)⟩
                  have y0 := HSW.out.ins.cell i bb hbb
                  have hzr := HX.out.2
                  have hbf : wr.heap[w4.heap.size]? = some (.cells #[.slice (some ⟨gi, 0, none⟩) n n, .slice (some ⟨gc, 0, none⟩) n n] 105 (0, 0)) := (HX.out.1 _ (by omega) (by omega)).trans (by rw [HW5.out]; exact heap_alloc_new _ _)
                  obtain ⟨z0, z1, _, _⟩ := two_cells hbf
                  have hstl := HS4.out.lt
                  have HSA : Hid (StAt wr gi gc (Mc.state (Mc.parts p) s)) := HS4.out.kept ((HX.out.1 gi hg1 (by omega)).trans (by rw [HW5.out]; exact Below.heap_alloc _ _ _ hstl.1)) ((HX.out.1 gc hg2 (by omega)).trans (by rw [HW5.out]; exact Below.heap_alloc _ _ _ hstl.2))
                  have HBO : Hid (Bools wr (slV bb q) (bitsTo i q)) := by
                    have h1 := bools_row (W := wr) (l := bitsTo i q) (HSW.out.ins.row i bb hbb).1 (by rw [bitsTo_len]; have := HQ6.out; omega)
                    rw [bitsTo_len] at h1
                    exact h1
                  have HDO := hide (fun (W : World) (hW : Below wr.heap.size wr W) => Do_any p (.agg #[nv, rv]) (slV bb q) gi gc (Mc.state (Mc.parts p) s) (bitsTo i q) W (HSW.out.prg.below hW) hck (HSA.out.below hW) HBD.out.li HBD.out.lc (Mc.state_ct p hck _ HBD.out) (HBO.out.below hW) (by rw [bitsTo_len]; exact HQ.out))
                  rw [← HN.out] at HDO
                  have hbmr2 : bm < wr.heap.size := by omega
                  have hilI : (i : Int) < (k : Int) := by omega
                  have hwsr : w.heap.size < wr.heap.size := World.block_lt_of_cell? _ _ y0
                  have hw4r : w4.heap.size < wr.heap.size := by omega
                  clear hbf hbb
                  unfold stV slV at HDO
                  unfold slV at y0
                  go_upto_region 15 with fail
                  go_cut [7] (fun t7 wx => D7 wr n (Mc.after1 p q s i) t7 wx)
                  case first =>
                    have HK5 : Hid (∀ W, Below wr.heap.size wr W → W.cell? ⟨bm, 0, none⟩ = some nv ∧ W.cell? ⟨bm, 1, none⟩ = some rv ∧ W.cell? ⟨w4.heap.size, 0, none⟩ = some (.slice (some ⟨gi, 0, none⟩) n n) ∧ W.cell? ⟨w4.heap.size, 1, none⟩ = some (.slice (some ⟨gc, 0, none⟩) n n) ∧ W.cell? ⟨w.heap.size, i, none⟩ = some (.slice (some ⟨bb, 0, none⟩) q q)) := fun W hW => ⟨(hW.cell (p := ⟨bm, 0, none⟩) hbmr2).trans x0, (hW.cell (p := ⟨bm, 1, none⟩) hbmr2).trans x1, (hW.cell (p := ⟨w4.heap.size, 0, none⟩) hw4r).trans z0, (hW.cell (p := ⟨w4.heap.size, 1, none⟩) hw4r).trans z1, (hW.cell (p := ⟨w.heap.size, i, none⟩) hwsr).trans y0⟩
                    have HDA : Hid (Below wr.heap.size wr wr.drew) := ⟨rfl, rfl, rfl, Nat.le_refl _, fun _ _ => rfl⟩
                    have HDB : Hid (∀ o, Below wr.heap.size wr (wr.drew.alloc o)) := fun o => HDA.out.alloc (Nat.le_refl _) _
                    have HDC : Hid (∀ o, Below wr.heap.size wr (wr.alloc o).drew) := fun o => HDB.out o
                    go_region_held3 (fun W => W.cell? ⟨bm, 0, none⟩ = some nv ∧ W.cell? ⟨bm, 1, none⟩ = some rv ∧ W.cell? ⟨w4.heap.size, 0, none⟩ = some (.slice (some ⟨gi, 0, none⟩) n n) ∧ W.cell? ⟨w4.heap.size, 1, none⟩ = some (.slice (some ⟨gc, 0, none⟩) n n) ∧ W.cell? ⟨w.heap.size, i, none⟩ = some (.slice (some ⟨bb, 0, none⟩) q q)) ((refine HK5.out _ ?_; repeat (first | exact HB6 | exact HDA.out | exact HDB.out _ | exact HDC.out _ | exact Below.refl _ _ | refine Below.setCell ?_ (by first | exact Nat.le_refl _ | (dsimp only; omega)) _ | refine Below.alloc ?_ (by first | omega | (simp; omega)) _))) ((go_at_call 126; first
                      | ((with_reducible refine (HDO.out _ HDA.out).mono ?_); rintro e w6 ⟨gi', gc', rfl, hst6, hg6, hg7, hb6⟩; have HB6 : Below wr.heap.size wr w6 := HDA.out.trans hb6; have hz6 := HB6.size)
                      | ((with_reducible refine (HDO.out _ (HDB.out _)).mono ?_); rintro e w6 ⟨gi', gc', rfl, hst6, hg6, hg7, hb6⟩; have hz6 := hb6.size; have HB6 : Below wr.heap.size wr w6 := (HDB.out _).trans (hb6.mono (by simp)); simp at hz6; have t6 : w6.heap[wr.heap.size]? = some (.cells #[.slice none 0 0, .slice none 0 0] 105 (0, 0)) := (hb6.block _ (by simp)).trans (heap_alloc_new _ _); obtain ⟨s0, s1, s2, s3⟩ := two_cells t6)
                      | ((with_reducible refine (HDO.out _ (HDC.out _)).mono ?_); rintro e w6 ⟨gi', gc', rfl, hst6, hg6, hg7, hb6⟩; have hz6 := hb6.size; have HB6 : Below wr.heap.size wr w6 := (HDC.out _).trans (hb6.mono (by simp)); simp at hz6; have t6 : w6.heap[wr.heap.size]? = some (.cells #[.slice none 0 0, .slice none 0 0] 105 (0, 0)) := (hb6.block _ (by simp)).trans (heap_alloc_new _ _); obtain ⟨s0, s1, s2, s3⟩ := two_cells t6)))
                    all_goals go_wp2_with fail
                    all_goals go_meet
                    · exact d7_a hst6 HB6 hg6 hg7
                    · exact d7_b t6 hst6 HB6 (by simp at hg6; omega) (by simp at hg7; omega)
                  case rest =>
                    obtain ⟨b7, gi', gc', rfl, h7, hst7, ⟨g71, g72, g73⟩, hb7⟩ := hcut
                    have HI7 := hide (HI.out.below hb7)
                    have HB7 := hide hb7
                    have HBA := hide (Sc.step_bd p hck _ (bitsTo i q) HBD.out (by rw [bitsTo_len]; exact HQ.out)).1
                    have HNU : Hid (∀ W, Below wc.heap.size wc W → Calls Tryz.prog 127 #[.slice (some ⟨g, 0, none⟩) n n, .agg #[.slice (some ⟨gi', 0, none⟩) n n, .slice (some ⟨gc', 0, none⟩) n n]] W fun e w' => e = .returned (.int .i64 (Mc.number (Mc.parts p) (Mc.after1 p q s i).is (Mc.after1 p q s i).ct : Int)) ∧ Below W.heap.size W w') := fun W hW => by
                      have h1 := number_any (Mc.parts p) g gi' gc' (Mc.after1 p q s i) W ((HSW.out.row.below hb7).below hW) (by rw [Mc.parts_len]; exact HPL.out) (hst7.below hW) (by rw [Mc.parts_len]; exact HBA.out.li) (by rw [Mc.parts_len]; exact HBA.out.lc) (Mc.parts_ok p) (by rw [← HSS.out]; exact hS4) (Mc.parts_le p hck) (Mc.ok_bd p _ HBA.out)
                      rw [Mc.parts_len, ← HN.out] at h1
                      exact h1
                    have HFB : Hid (∀ W, Below wc.heap.size wc W → Calls Tryz.prog 128 #[.slice (some ⟨gi', 0, none⟩) n n] W fun e w' => e = .returned (.int .i64 (Mc.val (Mc.after1 p q s i).is : Int)) ∧ w' = W) := fun W hW => by
                      have hl : (Mc.after1 p q s i).is.length = n := HBA.out.li.trans HN.out.symm
                      have h1 := fromBools_any (Mc.after1 p q s i).is gi' W (hst7.below hW).rowI (by rw [hl, HN.out]; have := HPL.out; omega)
                      rw [hl] at h1
                      exact h1
                    obtain ⟨⟨v0, v1⟩, ⟨v2, v3⟩, v4, v5, v6⟩ := (HSW.out.mach.below hb7).cells
                    obtain ⟨k1, k2, ⟨k3, k4⟩, k5, k6⟩ := HI7.out.cells HLN.out HLT.out hil (Mc.nextRow_length ..) (Mc.seesRow_length ..)
                    obtain ⟨j0, j1, _, _⟩ := two_cells h7
                    rw [← HN.out] at v5
                    unfold slV at v4 v5 v6 k1 k2
                    have hz7 := hb7.size
                    have lb7 : b7 < wc.heap.size := (Array.getElem?_eq_some_iff.1 h7).1
                    clear hst7 hb7 h7 x0 x1 x2 x3 x4 x5 x6 y0 z0 z1 HDO HBO
                    go_upto_region 16 with fail
                    have HK7 : Hid (K7 bm g n gN gS S s a b k b7 gi' gc' wc) := ⟨v4, v6, v5, k1, k2, j0, j1⟩
                    have HDA : Hid (Below wc.heap.size wc wc.drew) := ⟨rfl, rfl, rfl, Nat.le_refl _, fun _ _ => rfl⟩
                    have hla : a < wc.heap.size := by omega
                    have hlb : b < wc.heap.size := by omega
                    have nab : a ≠ b := HFI.out.ln.2.2
                    have m1 := HFI.out.ln.1
                    have m2 := HFI.out.ln.2.1
                    have ea1 : bm ≠ a := by omega
                    have ea2 : gN ≠ a := by omega
                    have ea3 : gS ≠ a := by omega
                    have ea4 : b7 ≠ a := by omega
                    have eb1 : bm ≠ b := by omega
                    have eb2 : gN ≠ b := by omega
                    have eb3 : gS ≠ b := by omega
                    have eb4 : b7 ≠ b := by omega
                    go_region_held3 (fun W => W.cell? ⟨bm, 4, none⟩ = some (.slice (some ⟨gN, 0, none⟩) S S) ∧ W.cell? ⟨bm, 6, none⟩ = some (.slice (some ⟨gS, 0, none⟩) S S) ∧ W.cell? ⟨bm, 5, none⟩ = some (.slice (some ⟨g, 0, none⟩) n n) ∧ W.cell? ⟨gN, s, none⟩ = some (.slice (some ⟨a, 0, none⟩) k k) ∧ W.cell? ⟨gS, s, none⟩ = some (.slice (some ⟨b, 0, none⟩) k k) ∧ W.cell? ⟨b7, 0, none⟩ = some (.slice (some ⟨gi', 0, none⟩) n n) ∧ W.cell? ⟨b7, 1, none⟩ = some (.slice (some ⟨gc', 0, none⟩) n n)) ((show K7 bm g n gN gS S s a b k b7 gi' gc' _; repeat (first | exact HK7.out | exact HK7.out.below HDA.out | exact HK7.out.below HB8.out | refine K7.set _ _ _ ea1 ea2 ea3 ea4 ?_ | refine K7.set _ _ _ eb1 eb2 eb3 eb4 ?_))) ((first
                      | (go_at_call 127; (with_reducible refine (HNU.out _ HDA.out).mono ?_); rintro e w8 ⟨rfl, hb8⟩; have HB8 : Hid (Below wc.heap.size wc w8) := HDA.out.trans hb8; have q3 := (HB8.out.cell (p := ⟨a, i, none⟩) hla).trans k3; have q4 := (HB8.out.frozen (p := ⟨a, i, none⟩) hla).trans k4; have q5 := (HB8.out.cell (p := ⟨b, i, none⟩) hlb).trans k5; have q6 := (HB8.out.frozen (p := ⟨b, i, none⟩) hlb).trans k6)
                      | (go_at_call 128; (with_reducible refine (HFB.out _ HDA.out).mono ?_); rintro e w9 ⟨rfl, rfl⟩)
                      | (go_at_call 128; (with_reducible refine (HFB.out _ HB8.out).mono ?_); rintro e w9 ⟨rfl, rfl⟩)))
                    have HD8 := hide (d8_ab HI7.out HB8.out hil (Mc.nextRow_length ..) (Mc.seesRow_length ..) (Mc.nextRow_at p q k s i hil) (Mc.seesRow_at p q k s i hil) hgNr hgSr)
                    go_wp2_with fail
                    go_roundw
                    case rel =>
                      refine ⟨i + 1, by omega, by go_num, HD8.out.1, fun j h1 h2 => ?_, ?_⟩
                      · exact (HD8.out.2.2 j (by omega) (by omega) (by omega)).trans ((HB7.out.block j (by omega)).trans (HX.out.1 j h1 h2))
                      · have := HD8.out.2.1; omega
                    case measure => simp [intOf]; omega
                · have hik : i = k := by omega
                  have HFE : Hid (Fi V gN gS S k a b s cN cS (Mc.nextRow p q k s) (Mc.seesRow p q k s) wr k) := hik ▸ HI.out
                  go_wp2_with fail
                  go_roundw
                  case rel => exact ⟨s + 1, by omega, by go_num, HF.out.next hlt hgN hgS HCN.out HCT.out HFE.out⟩
                  case measure => simp [intOf]; omega
          · have hsS : s = S := by omega
            have HFE : Hid (Fl wc gN gS S k p q V S) := hsS ▸ HF.out
            go_wp2_with fail
            refine bodyPost_end (v := .tuple #[]) ?_ rfl ?_
            · simp [results, Tryz.results78, go_sem]
            · exact filled_of HB.out HMD.out HFE.out (HSO.out V (fun j h1 h2 h3 => HFE.out.old j h1 h2 h3))
end
section
open Go.RowKit
/-- block bm is the machine of a program -/
def IsMach (W : World) (bm : Nat) (p : Ld.Prg) : Prop := ∃ nv rv g gN gS lo uN uS, MachAt W bm nv rv (Mc.total (Mc.parts p)) (2 ^ (Ld.kindL p.names 1).length) (slV gN (Mc.total (Mc.parts p))) (slV g p.names.length) (slV gS (Mc.total (Mc.parts p))) ∧ ((uN.length = Mc.total (Mc.parts p) ∧ uS.length = Mc.total (Mc.parts p)) ∧ LL W gN 36 3 (Mc.total (Mc.parts p)) (2 ^ (Ld.kindL p.names 1).length) lo uN (Mc.nextRow p (Ld.kindL p.names 1).length (2 ^ (Ld.kindL p.names 1).length)) ∧ LL W gS 36 3 (Mc.total (Mc.parts p)) (2 ^ (Ld.kindL p.names 1).length) lo uS (Mc.seesRow p (Ld.kindL p.names 1).length (2 ^ (Ld.kindL p.names 1).length))) ∧ (IsPrg W p (.agg #[nv, rv]) ∧ RowIs W g 234 ((Mc.parts p).flatMap ptCells))
theorem IsMach.below {W W' : World} {bm : Nat} {p : Ld.Prg} (h : IsMach W bm p) (hb : Below W.heap.size W W') : IsMach W' bm p := by
  obtain ⟨nv, rv, g, gN, gS, lo, uN, uS, h1, ⟨h2, h3, h4⟩, h5, h6⟩ := h
  exact ⟨nv, rv, g, gN, gS, lo, uN, uS, h1.below hb, ⟨h2, h3.below hb, h4.below hb⟩, h5.below hb, h6.below hb⟩
theorem IsMach.lt {W : World} {bm : Nat} {p : Ld.Prg} (h : IsMach W bm p) : bm < W.heap.size := by
  obtain ⟨nv, rv, g, gN, gS, lo, uN, uS, h1, _⟩ := h
  exact (Array.getElem?_eq_some_iff.1 h1).1
/-- what Of comes to -/
def Ofed (w : World) (p : Ld.Prg) (e : Ending) (w' : World) : Prop := Below w.heap.size w w' ∧ (if (Ld.kindL p.names 1).length ≤ 6 ∧ Mc.total (Mc.parts p) ≤ 4096 then ∃ bm, e = .returned (.tuple #[.pointer (some ⟨bm, 0, none⟩), .nilIface]) ∧ w.heap.size ≤ bm ∧ IsMach w' bm p else e = .returned (.tuple #[.pointer none, .iface 40 (.int .i64 4)]))
theorem below_but {w w' : World} {k : Nat} (h : ∀ j, j < w.heap.size → j ≠ k → w'.heap[j]? = w.heap[j]?) (hz : w.heap.size ≤ w'.heap.size) (h1 : w'.os = w.os) (h2 : w'.tape = w.tape) (h3 : w'.output = w.output) (hk : k ≤ w.heap.size) : Below k w w' := ⟨h1, h2, h3, hz, fun j hj => h j (by omega) (by omega)⟩
set_option maxHeartbeats 4000000 in
set_option maxRecDepth 100000 in
theorem Of_any (p : Ld.Prg) (v : Value) (w : World) (h : IsPrg w p v) (hck : Ld.check p = none) :
    Calls Tryz.prog 30 #[v] w (Ofed w p) := by
  have HCK := hide hck
  have HPR := hide h
  obtain ⟨nv, rv, rfl, hn, hr⟩ := h
  obtain ⟨na, nk, nc, rfl⟩ := slice_of hn
  obtain ⟨ra, rk, rc, rfl⟩ := slice_ofR hr
  have HNA := hide hn
  obtain ⟨wA, hwA⟩ : ∃ wA, wA = w.alloc (.cells #[.slice na nk nc, .slice ra rk rc] 83) := ⟨_, rfl⟩
  have hbA : Below w.heap.size w wA := by rw [hwA]; exact (Below.refl _ _).alloc (Nat.le_refl _) _
  have hsA : wA.heap.size = w.heap.size + 1 := by rw [hwA]; simp
  have hA : wA.heap[w.heap.size]? = some (.cells #[.slice na nk nc, .slice ra rk rc] 83 (0, 0)) := by rw [hwA]; exact heap_alloc_new _ _
  have HX : Hid (∀ W, Below wA.heap.size wA W → W.cell? ⟨w.heap.size, 0, none⟩ = some (.slice na nk nc) ∧ W.cell? ⟨w.heap.size, 1, none⟩ = some (.slice ra rk rc) ∧ Below w.heap.size w W) := by
    intro W hW
    have e0 := (hW.block w.heap.size (by omega)).trans hA
    exact ⟨by rw [Lib.cell_of_heap e0]; rfl, by rw [Lib.cell_of_heap e0]; rfl, hbA.trans (hW.mono (by omega))⟩
  have HC := hide (Check_any p _ wA (HPR.out.below hbA))
  rw [hck] at HC
  rw [hwA] at HC
  have HWA := hide hwA
  have hq12 : (Ld.kindL p.names 1).length ≤ 12 := Nat.le_trans (Ld.placesTo_le _ _ _) (Ld.check_names p hck).1
  obtain ⟨q, hqq⟩ : ∃ q, q = (Ld.kindL p.names 1).length := ⟨_, rfl⟩
  have HQ := hide hqq
  rw [← hqq] at hq12
  clear hwA hn hr hbA hA hqq hck
  go_enter Tryz.func30, Tryz.ntmps30
  go_wp2_with fail
  refine HC.out.mono ?_
  rintro e w1 ⟨er, rfl, he, hb1⟩
  obtain rfl : er = .nilIface := he
  rw [← HWA.out] at hb1
  have HB1 := hide hb1
  obtain ⟨c0, c1, hw1⟩ := HX.out w1 hb1
  have HKI := hide (Kind_any p.names (.slice na nk nc) (.slice ra rk rc) 1 w1 (HNA.out.below hw1) ⟨_, _, _, rfl⟩)
  rw [← HQ.out] at HKI
  clear hb1 HC hw1
  go_wp2_with fail
  refine HKI.out.mono ?_
  rintro e w2 ⟨kv, rfl, hown, hb2⟩
  obtain ⟨ka, kc, rfl⟩ := own_slice hown
  have HB2 := hide (HB1.out.trans (hb2.mono HB1.out.size))
  obtain ⟨d0, d1, hw2⟩ := HX.out w2 HB2.out
  have HW2 := hide hw2
  clear hown hb2 HKI c0 c1 hw2
  by_cases hq6 : 6 < q
  · have hq6' : (6 : Int) < (q : Int) := by omega
    go_wp2_with fail
    refine bodyPost_ret (results_tmp2 rfl _ _ _) rfl ?_
    exact ⟨HW2.out, by rw [if_neg (by rw [← HQ.out]; omega)]; rfl⟩
  have hq6' : ¬ (6 : Int) < (q : Int) := by omega
  have HPA := hide (partsOf_any p _ w2 (HPR.out.below HW2.out) HCK.out)
  go_wp2_with fail
  refine HPA.out.mono ?_
  rintro e w3 ⟨g, rfl, hrow, hg, hb3⟩
  have HB3 := hide (HB2.out.trans (hb3.mono HB2.out.size))
  obtain ⟨f0, f1, hw3⟩ := HX.out w3 HB3.out
  have HROW := hide hrow
  have hpl : (Mc.parts p).length = p.names.length := Mc.parts_len p
  have HSA := hide (states_any (Mc.parts p) g w3 hrow (by rw [hpl]; exact (Ld.check_names p HCK.out).1) (Mc.parts_ok p) (Mc.parts_le p HCK.out))
  rw [hpl] at HSA
  have hgl := hrow.lt
  obtain ⟨n, hnn⟩ : ∃ n, n = p.names.length := ⟨_, rfl⟩
  have HN := hide hnn
  rw [← hnn] at HSA ⊢
  clear hpl hrow hb3 HPA hw3 d0 d1 hnn
  unfold slV at *
  go_wp2_with fail
  refine HSA.out.mono ?_
  rintro e w4 ⟨rfl, hb4⟩
  have HB4 := hide (HB3.out.trans (hb4.mono HB3.out.size))
  obtain ⟨g0, g1, hw4⟩ := HX.out w4 HB4.out
  have HW4 := hide hw4
  have HROW4 := hide (HROW.out.below hb4)
  obtain ⟨S, hSS⟩ : ∃ S, S = Mc.total (Mc.parts p) := ⟨_, rfl⟩
  have HS := hide hSS
  rw [← hSS]
  clear hb4 HSA hw4 f0 f1 HROW hSS
  by_cases hS4 : S ≤ 4096
  · rw [if_pos hS4]
    have HD4 : Hid (Below w4.heap.size w4 w4.drew) := ⟨rfl, rfl, rfl, Nat.le_refl _, fun _ _ => rfl⟩
    have HCO := hide (copied_any p _ w4.drew (HPR.out.below (HW4.out.trans (HD4.out.mono HW4.out.size))))
    have hp : (2 : Nat) ^ q ≤ 2 ^ 6 := Nat.pow_le_pow_right (by decide) (by omega)
    obtain ⟨I, hII⟩ : ∃ I, I = 2 ^ q := ⟨_, rfl⟩
    have HII := hide hII
    have HP2 : Hid (IntKind.i64.wrap ((2 : Int) ^ q) = (I : Int)) := by
      show IntKind.i64.wrap _ = _
      have e : ((2 : Int) ^ q) = (I : Int) := by rw [hII, Int.natCast_pow]; rfl
      rw [e, IntKind.wrap_i64]
      rw [← hII] at hp
      omega
    rw [← hII] at hp
    clear hII
    go_wp2_with fail
    go_region_with (go_at_call 77; (with_reducible refine HCO.out.mono ?_); rintro e w5 ⟨u, rfl, hp5, hb5⟩; obtain ⟨nv5, rv5, hu5, hn5, hr5⟩ := hp5; subst hu5; obtain ⟨na5, nk5, nc5, hna5⟩ := slice_of hn5; obtain ⟨ra5, rk5, rc5, hra5⟩ := slice_ofR hr5; subst hna5; subst hra5)
    rw [HP2.out]
    obtain ⟨w6, hw6⟩ : ∃ w6, w6 = w5.alloc (.cells #[.slice na5 nk5 nc5, .slice ra5 rk5 rc5, .int .i64 (S : Int), .int .i64 (I : Int), .slice none 0 0, .slice (some ⟨g, 0, none⟩) n n, .slice none 0 0] 102) := ⟨_, rfl⟩
    have hb6 : Below w5.heap.size w5 w6 := by rw [hw6]; exact (Below.refl _ _).alloc (Nat.le_refl _) _
    have hz6 : w6.heap.size = w5.heap.size + 1 := by rw [hw6]; simp
    have hM6 : MachAt w6 w5.heap.size (.slice na5 nk5 nc5) (.slice ra5 rk5 rc5) S I (.slice none 0 0) (slV g n) (.slice none 0 0) := by rw [hw6]; exact heap_alloc_new _ _
    have hb45 : Below w4.heap.size w4 w5 := HD4.out.trans hb5
    have hr6 := (HROW4.out.below hb45).below hb6
    have hp6 : IsPrg w6 p (.agg #[.slice na5 nk5 nc5, .slice ra5 rk5 rc5]) := IsPrg.below ⟨_, _, rfl, hn5, hr5⟩ hb6
    rw [HN.out] at hM6
    have HFI := hide (fill_any w5.heap.size p _ _ g S I w6 hM6 hp6 HCK.out hr6 HS.out hS4 (by rw [HII.out, HQ.out]) (by omega))
    rw [hw6] at HFI
    have HW6 := hide hw6
    have HB46 := hide (HW4.out.trans ((hb45.trans (hb6.mono hb45.size)).mono HW4.out.size))
    have hz5 : w.heap.size ≤ w5.heap.size := Nat.le_trans HW4.out.size hb45.size
    clear hw6 hM6 hr6 hp6 hb45 hb5 hb6 hn5 hr5 HCO g0 g1
    go_wp2_with fail
    refine HFI.out.mono ?_
    rintro e w7 ⟨rfl, gN, gS, lo, uN, uS, hm, ⟨⟨hu1, hu2⟩, ht1, ht2⟩, ⟨hpr, hro⟩, hold, hsz, ho1, ho2, ho3⟩
    rw [← HW6.out] at hold hsz ho1 ho2 ho3
    have HB7 : Hid (Below w.heap.size w w7) := by
      refine HB46.out.trans ⟨ho1, ho2, ho3, hsz, fun k hk => hold k ?_ ?_⟩
      · have := HB46.out.size; omega
      · omega
    have HMA : Hid (IsMach w7 w5.heap.size p) := by
      rw [HII.out, HQ.out, HS.out] at hm ht1 ht2
      rw [HS.out] at hu1 hu2
      exact ⟨_, _, g, gN, gS, lo, uN, uS, hm, ⟨⟨hu1, hu2⟩, ht1, ht2⟩, hpr, hro⟩
    clear hm ht1 ht2 hpr hro hold HFI
    go_wp2_with fail
    refine bodyPost_ret (results_tmp2 rfl _ _ _) rfl ?_
    refine ⟨HB7.out, ?_⟩
    rw [if_pos ⟨by rw [← HQ.out]; omega, by rw [← HS.out]; exact hS4⟩]
    exact ⟨w5.heap.size, rfl, hz5, HMA.out⟩
  · rw [if_neg hS4]
    go_wp2_with fail
    refine bodyPost_ret (results_tmp2 rfl _ _ _) rfl ?_
    exact ⟨HW4.out, by rw [if_neg (by rw [← HS.out]; omega)]; rfl⟩
end
section
namespace Rf
open Go.RowKit
def refused (p : Ld.Prg) : Bool := decide (4096 < Mc.total (Mc.parts p)) || decide (6 < (Ld.kindL p.names 1).length)
def much (p : Ld.Prg) (most : Nat) : Bool := !refused p && (decide (most < Mc.total (Mc.parts p)) || decide (4 < (Ld.kindL p.names 1).length))
set_option maxHeartbeats 8000000 in
set_option maxRecDepth 100000 in
theorem great_any (p : Ld.Prg) (v : Value) (most : Nat) (w : World) (h : IsRPrg w p v) (hL : RLaid w) (hck : Ld.check p = none) :
    Calls Tryz.prog 29 #[v, .int .i64 (most : Int)] w fun e w' => e = .returned (.tuple #[.bool (refused p), .bool (much p most)]) ∧ Below w.heap.size w w' := by
  have HCK := hide hck
  have HRP := hide h
  have hqle : (Ld.kindL p.names 1).length ≤ 12 := Nat.le_trans (Ld.placesTo_le _ _ _) (Ld.check_names p hck).1
  obtain ⟨nv, rv, rfl, hn, hr⟩ := h
  have HNA := hide hn
  obtain ⟨na, nc, rfl, _⟩ := hn.slice
  obtain ⟨ra, rc, rfl, _⟩ := hr.slice
  obtain ⟨n, hnn⟩ : ∃ n, n = p.names.length := ⟨_, rfl⟩
  obtain ⟨m, hmm⟩ : ∃ m, m = p.rungs.length := ⟨_, rfl⟩
  obtain ⟨q, hqq⟩ : ∃ q, q = (Ld.kindL p.names 1).length := ⟨_, rfl⟩
  have h12 : n ≤ 12 := by rw [hnn]; exact (Ld.check_names p hck).1
  have HN := hide hnn
  have HQ := hide hqq
  rw [← hqq] at hqle
  rw [← hnn] at HRP HNA ⊢
  rw [← hmm] at HRP ⊢
  obtain ⟨wA, hwA⟩ : ∃ wA, wA = w.alloc (.cells #[.slice na n nc, .slice ra m rc] 45) := ⟨_, rfl⟩
  have hbA : Below w.heap.size w wA := by rw [hwA]; exact (Below.refl _ _).alloc (Nat.le_refl _) _
  have hsA : wA.heap.size = w.heap.size + 1 := by rw [hwA]; simp
  have hA : wA.heap[w.heap.size]? = some (.cells #[.slice na n nc, .slice ra m rc] 45 (0, 0)) := by rw [hwA]; exact heap_alloc_new _ _
  have HX : Hid (∀ W, Below wA.heap.size wA W → (W.cell? ⟨w.heap.size, 0, none⟩ = some (.slice na n nc) ∧ W.cell? ⟨w.heap.size, 1, none⟩ = some (.slice ra m rc)) ∧ Below w.heap.size w W) := fun W hW => by
    have e0 := (hW.block w.heap.size (by omega)).trans hA
    exact ⟨⟨by rw [Lib.cell_of_heap e0]; rfl, by rw [Lib.cell_of_heap e0]; rfl⟩, hbA.trans (hW.mono hbA.size)⟩
  have HPA := hide (Parts_any p _ wA (HRP.out.below hbA) (hL.below hbA) hck)
  have HKI : Hid (∀ W, Below wA.heap.size wA W → Calls Tryz.prog 72 #[.agg #[.slice na n nc, .slice ra m rc], .int .i64 1] W fun e w' => ∃ v, e = .returned v ∧ w'.ownsRow W.heap.size 3 1 v q ((Ld.kindL p.names 1).map intV) ∧ Below W.heap.size W w') := fun W hW => by
    rw [HQ.out]
    exact rKind_any p.names _ _ 1 W (HNA.out.below (HX.out W hW).2) ⟨_, _, _, rfl⟩
  have HCT := hide (capT_all p hck)
  rw [hwA] at HPA
  rw [← hnn] at HPA HCT
  have HWA := hide hwA
  clear hn hr hnn hmm hqq hwA hbA hA hck hL hsA
  go_enter Tryz.func29, Tryz.ntmps29
  go_wp2_with fail
  refine HPA.out.mono ?_
  rintro e w2 ⟨ev, rfl, hev, hb2⟩
  rw [← HWA.out] at hev hb2
  have HB2 := hide hb2
  have HEV := hide hev
  obtain ⟨ea, ec, rfl⟩ := own_slice hev
  clear hev hb2 HPA
  go_wp2_with fail
  go_loopw [6, 7] (fun nv i wr => ∃ k : Nat, k ≤ n ∧ i = .int .i64 (k : Int) ∧ nv = .int .i64 (capT p k : Int) ∧ Hid (Below w2.heap.size w2 wr)) (fun _ i _ => n - (intOf i).toNat)
  case atStart => exact ⟨0, Nat.zero_le _, rfl, by simp [capT], Below.refl _ _⟩
  case round =>
    obtain ⟨k, hk, rfl, rfl, HB⟩ := hrel
    by_cases hlt : k < n
    · have hkl : k < p.names.length := by rw [← HN.out]; exact hlt
      have hkp : k < (partsL p).length := by rw [partsL_len]; exact hkl
      obtain ⟨ge, rfl, _, hec, _, ce⟩ := own_int (by have h := own_below HEV.out HB.out; rw [HN.out, ← partsL_len] at h; exact h) hkp
      have hpk := partsL_at p k hkl
      rw [List.getElem?_eq_getElem hkp] at hpk
      have hpk := Option.some.inj hpk
      rw [hpk] at ce
      have hp8 := part_le p HCK.out k hkl
      have HSU : Hid (capT p (k + 1) = if 0 < part p k ∧ capT p k ≤ 4096 then capT p k * part p k else capT p k) := rfl
      have hec' : n ≤ ec := by rw [HN.out, ← partsL_len]; exact hec
      generalize part p k = pk at *
      generalize capT p k = ck at *
      clear hec
      have hki : (k : Int) < (n : Int) := by omega
      by_cases hc : ck ≤ 4096
      · have hci : (ck : Int) ≤ 4096 := by omega
        by_cases h0 : pk = 0
        · subst h0
          have HS0 : Hid (capT p (k + 1) = ck) := by show _ = _; rw [HSU.out, if_neg (by omega)]
          go_wp2_with fail
          go_roundw
          case rel => exact ⟨k + 1, by omega, by go_num, by rw [HS0.out], HB.out⟩
          case measure => simp [intOf]; omega
        · have hpi : (0 : Int) < (pk : Int) := by omega
          have HS0 : Hid (capT p (k + 1) = ck * pk) := by show _ = _; rw [HSU.out, if_pos ⟨by omega, hc⟩]
          have h9 : ck * pk ≤ 4096 * 8 := Nat.mul_le_mul hc hp8
          obtain ⟨t, ht⟩ : ∃ t : Nat, t = ck * pk := ⟨_, rfl⟩
          have hti : (ck : Int) * (pk : Int) = (t : Int) := by rw [ht]; simp
          rw [← ht] at h9 HS0
          clear ht
          go_wp2_with fail
          go_roundw
          case rel => exact ⟨k + 1, by omega, by go_num, by rw [HS0.out], HB.out⟩
          case measure => simp [intOf]; omega
      · have hci : ¬ (ck : Int) ≤ 4096 := by omega
        have HS0 : Hid (capT p (k + 1) = ck) := by show _ = _; rw [HSU.out, if_neg (by omega)]
        by_cases h0 : pk = 0
        · subst h0
          go_wp2_with fail
          go_roundw
          case rel => exact ⟨k + 1, by omega, by go_num, by rw [HS0.out], HB.out⟩
          case measure => simp [intOf]; omega
        · have hpi : (0 : Int) < (pk : Int) := by omega
          go_wp2_with fail
          go_roundw
          case rel => exact ⟨k + 1, by omega, by go_num, by rw [HS0.out], HB.out⟩
          case measure => simp [intOf]; omega
    · obtain rfl : k = n := by omega
      have HB3 : Hid (Below wA.heap.size wA wr) := then_ HB2.out HB.out
      obtain ⟨⟨c0, c1⟩, hbw⟩ := HX.out wr HB3.out
      rcases HCT.out with ⟨h3, h4⟩ | ⟨h3, h4, h5⟩
      · have HRE : Hid (refused p = decide (6 < q)) := by show _ = _; unfold refused; rw [← h4, ← HQ.out, decide_eq_false (by omega : ¬ 4096 < capT p k)]; rfl
        have HMU : Hid (much p most = (!decide (6 < q) && (decide (most < capT p k) || decide (4 < q)))) := by show _ = _; unfold much; rw [HRE.out, ← h4, ← HQ.out]
        have HK1 := hide (HKI.out wr HB3.out)
        have g1 : ¬ (4096 : Int) < (capT p k : Int) := by omega
        generalize capT p k = ck at *
        clear h4 hbw HCT
        go_wp2_with fail
        refine HK1.out.mono ?_
        rintro e w3 ⟨kv, rfl, hown, hb3⟩
        obtain ⟨ka, kc, rfl⟩ := own_slice hown
        have HB4 : Hid (Below wA.heap.size wA w3) := then_ HB3.out hb3
        obtain ⟨⟨d0, d1⟩, hbw3⟩ := HX.out w3 HB4.out
        have HBW3 := hide hbw3
        have HK2 := hide (HKI.out w3 HB4.out)
        clear hown hb3 hbw3 c0 c1 HK1
        by_cases h6 : 6 < q
        · have h6i : (6 : Int) < (q : Int) := by omega
          have HR : Hid (refused p = true ∧ much p most = false) := ⟨by rw [HRE.out]; simpa using h6, by rw [HMU.out]; simp [h6]⟩
          go_wp2_with fail
          refine bodyPost_ret (results_tmp2 rfl _ _ _) rfl ?_
          exact ⟨by rw [HR.out.1, HR.out.2]; first | rfl | (simp [h6i]; omega) | simp [h6i], HBW3.out⟩
        · have h6i : ¬ (6 : Int) < (q : Int) := by omega
          by_cases hm : most < ck
          · have hmi : (most : Int) < (ck : Int) := by omega
            have HR : Hid (refused p = false ∧ much p most = true) := ⟨by rw [HRE.out]; simpa using h6, by rw [HMU.out]; simp [h6, hm]⟩
            go_wp2_with fail
            refine bodyPost_ret (results_tmp2 rfl _ _ _) rfl ?_
            exact ⟨by rw [HR.out.1, HR.out.2]; first | rfl | (simp [h6i]; omega) | simp [h6i], HBW3.out⟩
          · have hmi : ¬ (most : Int) < (ck : Int) := by omega
            have HR : Hid (refused p = false ∧ much p most = decide (4 < q)) := ⟨by rw [HRE.out]; simpa using h6, by rw [HMU.out]; simp [h6, hm]⟩
            go_wp2_with fail
            refine HK2.out.mono ?_
            rintro e w4 ⟨kv, rfl, hown, hb4⟩
            obtain ⟨ka2, kc2, rfl⟩ := own_slice hown
            have HBW4 : Hid (Below w.heap.size w w4) := then_ HBW3.out hb4
            clear hown hb4 HK2
            by_cases h44 : 4 < q
            · have h4i : (4 : Int) < (q : Int) := by omega
              go_wp2_with fail
              refine bodyPost_ret (results_tmp2 rfl _ _ _) rfl ?_
              exact ⟨by rw [HR.out.1, HR.out.2]; first | rfl | (simp [h44]; omega) | simp [h44], HBW4.out⟩
            · have h4i : ¬ (4 : Int) < (q : Int) := by omega
              go_wp2_with fail
              refine bodyPost_ret (results_tmp2 rfl _ _ _) rfl ?_
              exact ⟨by rw [HR.out.1, HR.out.2]; first | rfl | (simp [h44]; omega) | simp [h44], HBW4.out⟩
      · have HR : Hid (refused p = true ∧ much p most = false) := by
          have h1 : refused p = true := by unfold refused; simp [h4]
          exact ⟨h1, by unfold much; rw [h1]; rfl⟩
        have g1 : (4096 : Int) < (capT p k : Int) := by omega
        have HBW := hide hbw
        generalize capT p k = ck at *
        clear h4 hbw HCT
        go_wp2_with fail
        refine bodyPost_ret (results_tmp2 rfl _ _ _) rfl ?_
        exact ⟨by rw [HR.out.1, HR.out.2]; first | rfl | (simp [h6i]; omega) | simp [h6i], HBW.out⟩
end Rf
end
section
open Go.RowKit
namespace Rf
theorem ptrNeqM (w : World) (a : Addr) : (binOp BinOp.neq 22 (.pointer (some a)) (.pointer none)).run Tryz.prog w = .ok (.bool true) w := by kernel_rfl
theorem ref_lim (p : Ld.Prg) (h : refused p = true) : ¬ ((Ld.kindL p.names 1).length ≤ 6 ∧ Mc.total (Mc.parts p) ≤ 4096) := by
  unfold refused at h
  simp only [Bool.or_eq_true, decide_eq_true_eq] at h
  omega
theorem ref_ok (p : Ld.Prg) (most : Nat) (h1 : refused p = false) (h2 : much p most = false) : ((Ld.kindL p.names 1).length ≤ 6 ∧ Mc.total (Mc.parts p) ≤ 4096) ∧ (Ld.kindL p.names 1).length ≤ 4 ∧ Mc.total (Mc.parts p) ≤ most := by
  unfold much at h2
  rw [h1] at h2
  unfold refused at h1
  simp only [Bool.or_eq_false_iff, decide_eq_false_iff_not, Bool.not_false, Bool.true_and] at h1 h2
  omega
end Rf
end
section
open Go.RowKit
namespace Rf
def Machs (s : ByteArray) (most : Nat) (w : World) (e : Ending) (w' : World) : Prop := Below w.heap.size w w' ∧ (e = .returned (.tuple #[.pointer none, .pointer none, .bool false]) ∨
  ∃ p bm bx, e = .returned (.tuple #[.pointer (some ⟨bm, 0, none⟩), .pointer (some ⟨bx, 0, none⟩), .bool true]) ∧ Ld.parse s.data.toList = .inr p ∧ IsMach w' bm p ∧ IsRMach w' bx p ∧ Ld.check p = none ∧ ((Ld.kindL p.names 1).length ≤ 6 ∧ Mc.total (Mc.parts p) ≤ 4096) ∧ (Ld.kindL p.names 1).length ≤ 4 ∧ Mc.total (Mc.parts p) ≤ most)
set_option maxHeartbeats 16000000 in
set_option maxRecDepth 100000 in
theorem machines_of (hbo : ∀ (s : ByteArray) (w : World), s.size ≤ maxLen → Laid w → PLaid w → Calls Tryz.prog 28 #[.string s] w (Sl.Both s w)) (s : ByteArray) (most : Nat) (w : World) (hs : s.size ≤ maxLen) (hL : Laid w) (hP : PLaid w) :
    Calls Tryz.prog 8 #[.string s, .int .i64 (most : Int)] w (Machs s most w) := by
  have HBO := hide (hbo s w hs hL hP)
  have HL := hide hL
  have HP := hide hP
  clear hL hP
  go_enter Tryz.func8, Tryz.ntmps8
  go_wp2_with fail
  refine HBO.out.mono ?_
  rintro e w1 ⟨hb1, he⟩
  clear HBO
  rcases he with rfl | ⟨p, v, uv, rfl, hpp, hv, hu, hck⟩
  · have HB1 := hide (((hb1.alloc hb1.size (.cells #[.slice none 0 0, .slice none 0 0] 83))).alloc (by have := hb1.size; simp; omega) (.cells #[.slice none 0 0, .slice none 0 0] 45))
    clear hb1
    go_wp2_with fail
    refine bodyPost_ret (results_tmp3 rfl _ _ _) rfl ?_
    exact ⟨HB1.out, .inl rfl⟩
  · have HCK := hide hck
    have HPP := hide hpp
    have HV := hide hv
    have HUV := hide hu
    have HB1 := hide hb1
    obtain ⟨nv, rv, rfl, hn, hr⟩ := hv
    obtain ⟨na, nc, rfl, _⟩ := hn.slice
    obtain ⟨ra, rc, rfl, _⟩ := hr.slice
    obtain ⟨nu, ru, rfl, hnu, hru⟩ := hu
    obtain ⟨ua, uc, rfl, _⟩ := hnu.slice
    obtain ⟨ta, tc, rfl, _⟩ := hru.slice
    obtain ⟨n, hnn⟩ : ∃ n, n = p.names.length := ⟨_, rfl⟩
    obtain ⟨m, hmm⟩ : ∃ m, m = p.rungs.length := ⟨_, rfl⟩
    rw [← hnn] at HV HUV ⊢
    rw [← hmm] at HV HUV ⊢
    clear hn hr hnu hru hnn hmm hck hpp
    obtain ⟨wA, hwA⟩ : ∃ wA, wA = (w1.alloc (.cells #[.slice na n nc, .slice ra m rc] 83)).alloc (.cells #[.slice ua n uc, .slice ta m tc] 45) := ⟨_, rfl⟩
    have hbA : Below w1.heap.size w1 wA := by rw [hwA]; exact ((Below.refl _ _).alloc (Nat.le_refl _) _).alloc (by simp) _
    have hsA : wA.heap.size = w1.heap.size + 1 + 1 := by rw [hwA]; simp
    have hA0 : wA.heap[w1.heap.size]? = some (.cells #[.slice na n nc, .slice ra m rc] 83 (0, 0)) := by rw [hwA]; exact (Below.heap_alloc _ _ _ (by simp)).trans (heap_alloc_new _ _)
    have hA1 : wA.heap[w1.heap.size + 1]? = some (.cells #[.slice ua n uc, .slice ta m tc] 45 (0, 0)) := by
      rw [hwA]
      have := heap_alloc_new (w1.alloc (.cells #[.slice na n nc, .slice ra m rc] 83)) (.cells #[.slice ua n uc, .slice ta m tc] 45)
      rw [World.size_alloc] at this
      exact this
    have HX : Hid (∀ W, Below wA.heap.size wA W → (W.cell? ⟨w1.heap.size, 0, none⟩ = some (.slice na n nc) ∧ W.cell? ⟨w1.heap.size, 1, none⟩ = some (.slice ra m rc)) ∧ (W.cell? ⟨w1.heap.size + 1, 0, none⟩ = some (.slice ua n uc) ∧ W.cell? ⟨w1.heap.size + 1, 1, none⟩ = some (.slice ta m tc)) ∧ Below w1.heap.size w1 W ∧ Below w.heap.size w W) := by
      intro W hW
      have e0 := (hW.block w1.heap.size (by omega)).trans hA0
      have e1 := (hW.block (w1.heap.size + 1) (by omega)).trans hA1
      have h1 : Below w1.heap.size w1 W := hbA.trans (hW.mono hbA.size)
      exact ⟨⟨by rw [Lib.cell_of_heap e0]; rfl, by rw [Lib.cell_of_heap e0]; rfl⟩, ⟨by rw [Lib.cell_of_heap e1]; rfl, by rw [Lib.cell_of_heap e1]; rfl⟩, h1, HB1.out.trans (h1.mono HB1.out.size)⟩
    have HGR := hide (great_any p _ most wA (HUV.out.below hbA) (HP.out.below (HX.out wA (Below.refl _ _)).2.2.2).r HCK.out)
    rw [hwA] at HGR
    have HWA := hide hwA
    clear hwA hbA hA0 hA1 hb1 hsA
    go_wp2_with fail
    refine HGR.out.mono ?_
    rintro e w2 ⟨rfl, hb2⟩
    rw [← HWA.out] at hb2
    have HB2 := hide hb2
    obtain ⟨⟨d0, d1⟩, ⟨d2, d3⟩, hd1, hdw⟩ := HX.out w2 hb2
    have HDW := hide hdw
    have HD1 := hide hd1
    clear hb2 HGR hd1 hdw
    by_cases hmr : (refused p || much p most) = true
    · by_cases hre : refused p = true
      · rw [hre]
        go_wp2_with fail
        refine bodyPost_ret (results_tmp3 rfl _ _ _) rfl ?_
        exact ⟨HDW.out, .inl rfl⟩
      have hre : refused p = false := by simpa using hre
      have hmu : much p most = true := by rw [hre] at hmr; simpa using hmr
      rw [hre, hmu]
      go_wp2_with fail
      refine bodyPost_ret (results_tmp3 rfl _ _ _) rfl ?_
      exact ⟨HDW.out, .inl rfl⟩
    have hmr : refused p = false ∧ much p most = false := by simpa using hmr
    obtain ⟨hre, hmu⟩ := hmr
    have HOF := hide (Of_any p _ w2 (HV.out.below HD1.out) HCK.out)
    have HOK := hide (ref_ok p most hre hmu)
    rw [hre, hmu]
    clear hre hmu
    go_wp2_with fail
    refine HOF.out.mono ?_
    rintro e w3 ⟨hb3, he⟩
    rw [if_pos HOK.out.1] at he
    obtain ⟨bm, rfl, _, hmach⟩ := he
    have HMA := hide hmach
    have HB3 : Hid (Below wA.heap.size wA w3) := HB2.out.trans (hb3.mono HB2.out.size)
    obtain ⟨⟨e0, e1⟩, ⟨e2, e3⟩, he1, hew⟩ := HX.out w3 HB3.out
    have HRM := hide (RMachOf_any p _ w3 (HUV.out.below he1) (HP.out.below hew).r HCK.out HOK.out.1.1 HOK.out.1.2)
    have HEW := hide hew
    clear hb3 HOF d0 d1 d2 d3 he1 hew hmach
    go_wp2_with fail
    refine HRM.out.mono ?_
    rintro e w4 ⟨hb4, bx, rfl, hrm⟩
    have HB4 := hide (HEW.out.trans (hb4.mono HEW.out.size))
    have HM4 := hide (HMA.out.below hb4)
    have HR4 := hide hrm
    clear hb4 hrm HRM HMA e0 e1 e2 e3
    go_wp2_with fail
    refine bodyPost_ret (results_tmp3 rfl _ _ _) rfl ?_
    exact ⟨HB4.out, .inr ⟨p, bm, bx, rfl, HPP.out, HM4.out, HR4.out, HCK.out, HOK.out.1, HOK.out.2⟩⟩
end Rf
end
end Go.Proofs.YtgldbliohpfljaaGreatDoor
