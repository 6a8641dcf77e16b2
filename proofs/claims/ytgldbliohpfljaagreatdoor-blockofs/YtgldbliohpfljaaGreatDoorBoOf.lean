/-
  The walk of package block's Of.
-/
import Derived.Test.YtgldbliohpfljaaGreatDoorRgBaseAll
import Derived.Test.YtgldbliohpfljaaGreatDoorRbTableAll
import Derived.Test.YtgldbliohpfljaaGreatDoorLdCheckAll
import Derived.Test.YtgldbliohpfljaaGreatDoorShelf2
namespace Go.Proofs.YtgldbliohpfljaaGreatDoor
open Go.RowKit
namespace Bo
/-- the two tables are made, and the block that holds both -/
structure MT (V : World) (S a b t : Nat) (W : World) : Prop where
  bel : Below V.heap.size V W
  nx : RowIs W a 36 (List.replicate S (.slice none 0 0))
  tl : RowIs W b 36 (List.replicate S (.slice none 0 0))
  st : W.heap[t]? = some (.cells #[slV a S, slV b S] 67 (0, 0))
  ln : (V.heap.size ≤ a ∧ V.heap.size ≤ b ∧ V.heap.size ≤ t) ∧ a ≠ b ∧ a ≠ t ∧ b ≠ t
theorem three (V : World) (X Y Z : Obj) : (((V.alloc X).alloc Y).alloc Z).drew.heap[V.heap.size]? = some X ∧ (((V.alloc X).alloc Y).alloc Z).drew.heap[V.heap.size + 1]? = some Y ∧ (((V.alloc X).alloc Y).alloc Z).drew.heap[V.heap.size + 1 + 1]? = some Z ∧ Below V.heap.size V (((V.alloc X).alloc Y).alloc Z).drew := by
  have e0 : (((V.alloc X).alloc Y).alloc Z).drew.heap[V.heap.size]? = some X := ((Below.heap_alloc _ _ _ (by simp; omega)).trans (Below.heap_alloc _ _ _ (by simp))).trans (heap_alloc_new _ _)
  have e1 := heap_alloc_new (V.alloc X) Y
  rw [World.size_alloc] at e1
  have e2 := heap_alloc_new ((V.alloc X).alloc Y) Z
  rw [World.size_alloc, World.size_alloc] at e2
  exact ⟨e0, (Below.heap_alloc _ _ _ (by simp)).trans e1, e2, ((((Below.refl _ _).alloc (Nat.le_refl _) _).alloc (by simp) _).alloc (by simp; omega) _).trans ⟨rfl, rfl, rfl, Nat.le_refl _, fun _ _ => rfl⟩⟩
/-- what stands between Of's rounds -/
structure OF (V W0 : World) (S a b t s : Nat) (LN LS : List (List Nat)) (W : World) : Prop where
  bel : Below V.heap.size V W
  size : W0.heap.size ≤ W.heap.size
  st : W.heap[t]? = some (.cells #[slV a S, slV b S] 67 (0, 0))
  tabs : ∃ uN uS, TB W a S (fun k => W0.heap.size ≤ k) uN (LN.take s) ∧ TB W b S (fun k => W0.heap.size ≤ k) uS (LS.take s)
theorem OF.start {V W : World} {S a b t : Nat} (h : MT V S a b t W) (LN LS : List (List Nat)) : OF V W S a b t 0 LN LS W :=
  ⟨h.bel, Nat.le_refl _, h.st, [], [], TB.empty h.nx, TB.empty h.tl⟩
/-- while a row is told -/
def InW (W1 : World) (b I : Nat) (r : List Nat) (i : Nat) (W : World) : Prop := (W1.heap.size ≤ W.heap.size ∧ ∀ k, k < W1.heap.size → k ≠ b → W.heap[k]? = W1.heap[k]?) ∧ (W.os = W1.os ∧ W.tape = W1.tape ∧ W.output = W1.output) ∧ RowIs W b 3 ((r.map intV).take i ++ List.replicate (I - i) (.int .i64 0))
theorem InW.put {W1 W W' : World} {b I i : Nat} {r : List Nat} (h : InW W1 b I r i W) (hb : Below W.heap.size W W') (hi : i < I) (hl : r.length = I) (x : Nat) (hx : r[i]? = some x) : InW W1 b I r (i + 1) (W'.setCell ⟨b, i, none⟩ (.int .i64 (x : Int))) := by
  obtain ⟨⟨h1, h2⟩, ⟨h3, h4, h5⟩, h6⟩ := h
  refine ⟨⟨by have := hb.size; simp [World.setCell]; omega, fun k hk e => ?_⟩, ⟨hb.os.trans h3, hb.tape.trans h4, hb.output.trans h5⟩, ?_⟩
  · exact (Below.heap_setCell _ _ _ _ (fun e2 => e e2)).trans ((hb.block k (by omega)).trans (h2 k hk e))
  · have h7 := (h6.below hb).set i (.int .i64 (x : Int))
    rw [row_next (by rw [List.length_map, hl]) hi (by rw [List.getElem?_map, hx]; rfl)] at h7
    exact h7
/-- a round is done -/
theorem OF.next {V W0 Wr W1 W : World} {S I a b t s x y : Nat} {LN LS : List (List Nat)} {cN cS : List Value} {lN lS : List Nat} {u : Value} (h : OF V W0 S a b t s LN LS Wr) (hV : V.heap.size ≤ a ∧ V.heap.size ≤ b ∧ V.heap.size ≤ t) (h0 : a < W0.heap.size ∧ b < W0.heap.size ∧ t < W0.heap.size) (hab : a ≠ b ∧ a ≠ t ∧ b ≠ t) (hs : s < S)
    (hN : RowIs Wr a 36 cN) (hS : RowIs Wr b 36 cS) (hk : Mk Wr a b I s cN cS lN u x y true true true true W1) (hi : InW W1 y I lS I W) (hl : lS.length = I) (eN : LN.take (s + 1) = LN.take s ++ [lN]) (eS : LS.take (s + 1) = LS.take s ++ [lS]) (hLN : (LN.take s).length = s) (hLS : (LS.take s).length = s) : OF V W0 S a b t (s + 1) LN LS W := by
  obtain ⟨⟨i1, i2⟩, ⟨i3, i4, i5⟩, i6⟩ := hi
  obtain ⟨uN, uS, tN, tS⟩ := h.tabs
  have hz := h.size
  obtain ⟨hx, hxr⟩ := hk.rc rfl
  obtain ⟨hy, hyr⟩ := hk.rm rfl
  have hxy := hk.ne rfl rfl
  have hz1 := hk.size
  have lU : uN.length = s := by rw [tN.len, hLN]
  have lS' : uS.length = s := by rw [tS.len, hLS]
  have hxl : x < W1.heap.size := by obtain ⟨_, _, _, h9, _⟩ := hxr; exact h9
  have hold : ∀ k, k < Wr.heap.size → k ≠ a → k ≠ b → W.heap[k]? = Wr.heap[k]? := fun k hk1 e1 e2 => (i2 k (by omega) (by omega)).trans (hk.old k hk1 e1 e2)
  have htop : ∀ (g : Nat) (l : List Value), g < W0.heap.size → RowIs W1 g 36 l → RowIs W g 36 l := fun g l hg hr => (i2 g hr.lt (by omega)).trans hr
  have ecN : cN = uN ++ List.replicate (S - uN.length) (.slice none 0 0) := by
    have := hN.symm.trans tN.top
    simpa using this
  have ecS : cS = uS ++ List.replicate (S - uS.length) (.slice none 0 0) := by
    have := hS.symm.trans tS.top
    simpa using this
  have q1 := htop a _ h0.1 hk.tN
  have q2 := htop b _ h0.2.1 hk.tS
  simp only [if_true] at q1 q2
  refine ⟨⟨?_, ?_, ?_, ?_, fun k hk1 => ?_⟩, by omega, (hold t (by omega) (by omega) (by omega)).trans h.st, uN ++ [u], uS ++ [slV y I], ?_, ?_⟩
  · exact i3.trans (hk.os.1.trans h.bel.os)
  · exact i4.trans (hk.os.2.1.trans h.bel.tape)
  · exact i5.trans (hk.os.2.2.trans h.bel.output)
  · have := h.bel.size; omega
  · exact (hold k (by have := h.bel.size; omega) (by omega) (by omega)).trans (h.bel.block k hk1)
  · rw [eN]
    exact tN.put (b := x) (by omega) (by rw [← ecN, lU]; exact q1) (fun k hk1 hk2 => hold k hk2 (by omega) (by omega)) (fun _ hk1 _ => hk1) (by omega) (hxr.kept (i2 x hxl hxy))
  · rw [eS]
    rw [Nat.sub_self, List.replicate_zero, List.append_nil, List.take_of_length_le (by simp [hl])] at i6
    refine tS.put (b := y) (by omega) (by rw [← ecS, lS']; exact q2) (fun k hk1 hk2 => hold k hk2 (by omega) (by omega)) (fun _ hk1 _ => hk1) (by omega) ?_
    have := RG.row i6
    rw [hl] at this
    exact this
theorem row_start (l : List Value) (u : Nat) (z : Value) : l.take 0 ++ List.replicate (u - 0) z = List.replicate u z := by simp
/-- what Of comes to at a machine and few names -/
def OfDone (p : Ld.Prg) (names : List (List UInt8)) (w : World) (e : Ending) (w' : World) : Prop := Below w.heap.size w w' ∧
      (((nums p.names names).contains (-1) = true ∧ e = .returned (.tuple #[.agg #[.slice none 0 0, .slice none 0 0], .iface 40 (.int .i64 7)])) ∨
       ((nums p.names names).contains (-1) = false ∧ ∃ (ks : List Nat) (nx tv : Value), nums p.names names = ks.map (fun n : Nat => (n : Int)) ∧ ks.length = names.length ∧ (∀ n, n ∈ ks → n < p.names.length) ∧ e = .returned (.tuple #[.agg #[nx, tv], .nilIface]) ∧
        Rf.RowsI w' nx ((Rf.nextsL p (Mc.total (Mc.parts p)) (2 ^ (Ld.kindL p.names 1).length)).map Rf.asI) ∧ Rf.RowsI w' tv ((Rf.tellsL p ks (Mc.total (Mc.parts p)) (2 ^ (Ld.kindL p.names 1).length)).map Rf.asI)))
set_option maxHeartbeats 16000000 in
set_option maxRecDepth 100000 in
theorem Of_any (bm : Nat) (p : Ld.Prg) (names : List (List UInt8)) (sv : Value) (w : World) (hm : IsMach w bm p) (hck : Ld.check p = none) (hq4 : (Ld.kindL p.names 1).length ≤ 4) (hS40 : Mc.total (Mc.parts p) ≤ 40) (hs : Strs w sv (names.map toBA)) (hu : names.length ≤ 12) :
    Calls Tryz.prog 22 #[.pointer (some ⟨bm, 0, none⟩), sv] w (OfDone p names w) := by
  have HCK := hide hck
  have h12 := (Ld.check_names p hck).1
  obtain ⟨sa, sc, rfl, _, hsc⟩ := strs_cells hs
  have HSC := hide (fun W (hW : Below w.heap.size w W) j (hj : j < names.length) => by
    obtain ⟨gs, o, e1, e2, e3⟩ := hsc j hj
    have : sa = some ⟨gs, o, none⟩ ∧ names.length ≤ sc ∧ W.cell? ⟨gs, o + j, none⟩ = some (.string ⟨names[j].toArray⟩) := ⟨e1, e2, (hW.cell (World.block_lt_of_cell? _ _ e3)).trans e3⟩
    exact (⟨gs, o, this⟩ : ∃ gs o, sa = some ⟨gs, o, none⟩ ∧ names.length ≤ sc ∧ W.cell? ⟨gs, o + j, none⟩ = some (.string ⟨names[j].toArray⟩)))
  obtain ⟨nv, rv, g, gN, gS, lo, uN0, uS0, h1, ⟨⟨hN1, hN2⟩, h3, h4⟩, h5, h6⟩ := hm
  have HPR := hide h5
  obtain ⟨nv', rv', he, hn, hr⟩ := h5
  simp only [Value.agg.injEq, List.toArray_eq_iff, List.cons.injEq, and_true] at he
  obtain ⟨rfl, rfl⟩ := he
  have HNA := hide hn
  obtain ⟨na, nc, rfl, _⟩ := hn.slice
  obtain ⟨ra, rc, rfl, _⟩ := hr.slice
  obtain ⟨q, hqq⟩ : ∃ q, q = (Ld.kindL p.names 1).length := ⟨_, rfl⟩
  have HQ := hide hqq
  obtain ⟨S, hSS⟩ : ∃ S, S = Mc.total (Mc.parts p) := ⟨_, rfl⟩
  have HS := hide hSS
  obtain ⟨n, hnn⟩ : ∃ n, n = p.names.length := ⟨_, rfl⟩
  have HN := hide hnn
  obtain ⟨I, hII⟩ : ∃ I, I = 2 ^ q := ⟨_, rfl⟩
  have HI := hide hII
  obtain ⟨m, hmm⟩ : ∃ m, m = p.rungs.length := ⟨_, rfl⟩
  obtain ⟨u, huu⟩ : ∃ u, u = names.length := ⟨_, rfl⟩
  have HU := hide huu
  have hI16 : I ≤ 16 := by rw [hII, hqq]; exact Nat.pow_le_pow_right (by decide) hq4
  have hI0 : 0 < I := by rw [hII]; exact Nat.pow_pos (by decide)
  rw [← hqq] at h1 h3 h4 hq4
  rw [← hSS] at h1 h3 h4 hN1 hN2 hS40
  rw [← hII] at h1 h3 h4
  rw [← hnn] at h1 h12 HPR HNA
  rw [← hmm] at h1 HPR
  rw [← huu] at hu ⊢
  have HM1 := hide h1
  have HTN := hide h3
  have HTS := hide h4
  have HUL := hide (And.intro hN1 hN2)
  have pn := fun w a => ptrNe w a
  have HMC := hide (fun W (hW : Below w.heap.size w W) => (HM1.out.below hW).cells)
  have HNU : Hid (∀ W (hW : Below w.heap.size w W) s, Calls Tryz.prog 58 #[.agg #[.slice na n nc, .slice ra m rc], .string ⟨s.toArray⟩] W fun e w' => e = .returned (.int .i64 (Ld.number p.names s)) ∧ Below W.heap.size W w') := fun W hW s => Number_any p.names _ _ s W (HNA.out.below hW) ⟨_, _, _, rfl⟩
  obtain ⟨V, hVV⟩ : ∃ V, V = (nums p.names names).map iV := ⟨_, rfl⟩
  have HV := hide hVV
  have HVL : Hid (V.length = u) := by show _ = _; rw [hVV, List.length_map, nums_len, huu]
  obtain ⟨wA, hwA⟩ : ∃ wA, wA = (w.alloc (.cells #[.slice none 0 0, .slice none 0 0] 67)).alloc (.cells ⟨List.replicate u (.int .i64 0)⟩ 3) := ⟨_, rfl⟩
  have hsA : wA.heap.size = w.heap.size + 1 + 1 := by rw [hwA]; simp
  have hbA : Below w.heap.size w wA := by rw [hwA]; exact ((Below.refl _ _).alloc (Nat.le_refl _) _).alloc (by simp) _
  have hA0 : wA.heap[w.heap.size]? = some (.cells #[.slice none 0 0, .slice none 0 0] 67 (0, 0)) := by rw [hwA]; exact (Below.heap_alloc _ _ _ (by simp)).trans (heap_alloc_new _ _)
  have HR0 : Hid (RowIs wA (w.heap.size + 1) 3 (V.take 0 ++ List.replicate (u - 0) (.int .i64 0))) := by
    show RowIs _ _ _ _
    rw [row_start, hwA]
    have := RowIs.new (w.alloc (.cells #[.slice none 0 0, .slice none 0 0] 67)) 3 (List.replicate u (.int .i64 0))
    rw [World.size_alloc] at this
    exact this
  have HX : Hid (∀ W, Below (w.heap.size + 1) wA W → W.heap[w.heap.size]? = some (.cells #[.slice none 0 0, .slice none 0 0] 67 (0, 0)) ∧ Below w.heap.size w W) := fun W hW =>
    ⟨(hW.block w.heap.size (by omega)).trans hA0, hbA.trans (hW.mono (by omega))⟩
  have HB0 : Hid (Below (w.heap.size + 1) wA wA) := Below.refl _ _
  have HSA := hide hsA
  have m3 := fun w => makeIs u (by omega) w
  have HWA : Hid ((w.alloc (.cells #[.slice none 0 0, .slice none 0 0] 67)).alloc (.cells (Array.replicate u (.int .i64 0)) 3) = wA) := hwA.symm
  obtain ⟨⟨c0, c1⟩, ⟨c2, c3⟩, c4, _, _⟩ := h1.cells
  have hui : ¬ (12 : Int) < (u : Int) := by omega
  have hSi : ¬ (500 : Int) < (S : Int) := by omega
  unfold slV at c4
  have c4a := cell_alloc_keep w (.cells #[.slice none 0 0, .slice none 0 0] 67) _ _ c4
  clear hs hsc hn hr h1 h3 h4 h6 hN1 hN2 hqq hSS hnn hII hmm huu hVV hA0 hck hwA
  go_enter Tryz.func22, Tryz.ntmps22
  go_wp2_with fail
  rw [HWA.out]
  clear c0 c1 c2 c3 c4 c4a hbA
  go_loopw [37] (fun i wr => ∃ k : Nat, k ≤ u ∧ i = .int .i64 (k : Int) ∧ Hid (RowIs wr (w.heap.size + 1) 3 (V.take k ++ List.replicate (u - k) (.int .i64 0))) ∧ Hid (Below (w.heap.size + 1) wA wr)) (fun i _ => u - (intOf i).toNat)
  case atStart => exact ⟨0, Nat.zero_le _, rfl, HR0.out, HB0.out⟩
  case round =>
    obtain ⟨k, hk, rfl, HR, HB⟩ := hrel
    by_cases hlt : k < u
    · have hki : (k : Int) < (u : Int) := by omega
      have hkn : k < names.length := by rw [← HU.out]; exact hlt
      obtain ⟨gs, o, rfl, _, cs⟩ := HSC.out wr (HX.out wr HB.out).2 k hkn
      obtain ⟨⟨c0, c1⟩, _⟩ := HMC.out wr (HX.out wr HB.out).2
      have HNK := hide (HNU.out wr (HX.out wr HB.out).2 names[k])
      have HVK : Hid (V[k]? = some (.int .i64 (Ld.number p.names names[k]))) := by
        show _ = _
        rw [HV.out, List.getElem?_map, nums, List.getElem?_map, List.getElem?_eq_getElem hkn]
        rfl
      generalize names[k] = nm at *
      go_wp2_with fail
      refine HNK.out.mono ?_
      rintro e w2 ⟨rfl, hb2⟩
      have HR2 := hide (HR.out.below hb2)
      have hlr := HR2.out.lt
      have hfr := HR2.out.frozen k
      have hcr : w2.cell? ⟨w.heap.size + 1, k, none⟩ = some (.int .i64 0) := HR2.out.cell k _ (by rw [List.getElem?_append_right (by rw [List.length_take, HVL.out]; omega), List.getElem?_replicate, if_pos (by rw [List.length_take, HVL.out]; omega)])
      have HNX := hide (row_next (z := .int .i64 0) HVL.out hlt HVK.out)
      have HB2 : Hid (Below (w.heap.size + 1) wA w2) := HB.out.trans (hb2.mono (by have := HR.out.lt; omega))
      clear hb2 HNK
      go_wp2_with fail
      go_roundw
      case rel => exact ⟨k + 1, by omega, by go_num, by rw [← HNX.out]; exact HR2.out.set k _, HB2.out.setCell (p := ⟨w.heap.size + 1, k, none⟩) (Nat.le_refl _) _⟩
      case measure => simp [intOf]; omega
    · obtain rfl : k = u := by omega
      rw [Nat.sub_self, List.replicate_zero, List.append_nil, List.take_of_length_le (by rw [HVL.out]; exact Nat.le_refl _)] at HR
      have hkk : ¬ (k : Int) < (k : Int) := by omega
      have HCO := hide (Tryz.slices_Contains_int (w.heap.size + 1) 0 k k (nums p.names names) (-1) wr (by rw [nums_len, ← HU.out]; exact Nat.le_refl _) (by omega) (fun j hj => by
        rw [Nat.zero_add]
        refine HR.out.cell j _ ?_
        rw [HV.out, List.getElem?_map, List.getElem?_eq_getElem hj, List.getD_eq_getElem?_getD, List.getElem?_eq_getElem hj]
        rfl))
      rw [List.take_of_length_le (by rw [nums_len, ← HU.out]; exact Nat.le_refl _)] at HCO
      obtain ⟨hx0, hxw⟩ := HX.out wr HB.out
      cases hcon : (nums p.names names).contains (-1) with
      | true =>
        rw [hcon] at HCO
        go_wp2_with fail
        refine HCO.out.mono ?_
        rintro e w2 ⟨rfl, rfl⟩
        obtain ⟨z0, z1, z2, z3⟩ := two_cells hx0
        obtain ⟨wF, hwF⟩ : ∃ wF, wF = (w2.setCell ⟨w.heap.size, 0, none⟩ (.slice none 0 0)).setCell ⟨w.heap.size, 1, none⟩ (.slice none 0 0) := ⟨_, rfl⟩
        have hF : wF.heap[w.heap.size]? = some (.cells #[.slice none 0 0, .slice none 0 0] 67 (0, 0)) := by rw [hwF]; simp [World.setCell, Array.getElem?_modify, hx0]
        obtain ⟨k0, k1, _, _⟩ := two_cells hF
        have HFIN : Hid (Below w.heap.size w wF) := by
          show Below _ _ _
          rw [hwF]
          exact (hxw.setCell (p := ⟨w.heap.size, 0, none⟩) (Nat.le_refl _) _).setCell (p := ⟨w.heap.size, 1, none⟩) (Nat.le_refl _) _
        clear hF hx0 hxw HCO
        go_wp2_with fail
        rw [← hwF]
        refine bodyPost_ret_by (v := .tuple #[.agg #[.slice none 0 0, .slice none 0 0], .iface 40 (.int .i64 7)]) ?_ rfl ?_
        · simp [results, Tryz.results22, go_sem, k0, k1]
        · exact ⟨HFIN.out, .inl ⟨hcon, rfl⟩⟩
      | false =>
        rw [hcon] at HCO
        obtain ⟨ks, hks, hkl, hkb⟩ := nums_all p.names names hcon
        go_wp2_with fail
        refine HCO.out.mono ?_
        rintro e w2 ⟨rfl, rfl⟩
        have m2 := fun w => makeIss S (by omega) w
        obtain ⟨cS, hcS⟩ : ∃ c, c = List.replicate S (Value.slice none 0 0) := ⟨_, rfl⟩
        rw [← hcS] at m2
        have HCS := hide hcS
        obtain ⟨_, _, c4, _, _⟩ := HMC.out w2 hxw
        unfold slV at c4
        have HKD : Hid (∀ W : World, W.cell? ⟨bm, 4, none⟩ = some (.slice (some ⟨gN, 0, none⟩) S S) → W.drew.cell? ⟨bm, 4, none⟩ = some (.slice (some ⟨gN, 0, none⟩) S S)) := fun _ h => h
        clear hcS
        go_upto_region 13 with fail
        go_cut [9] (fun tv wx => ∃ bt gA gB, tv = .pointer (some ⟨bt, 0, none⟩) ∧ MT w2 S gA gB bt wx)
        case first =>
          go_region_held3 (fun W => W.cell? ⟨bm, 4, none⟩ = some (.slice (some ⟨gN, 0, none⟩) S S)) ((repeat (first | exact c4 | refine HKD.out _ ?_ | refine cell_alloc_keep _ _ _ _ ?_))) (fail)
          all_goals go_wp2_with fail
          all_goals go_meet
          all_goals obtain ⟨e0, e1, e2, eb⟩ := three w2 _ _ _
          all_goals first
            | exact ⟨_, w2.heap.size, w2.heap.size + 1, rfl, ⟨eb, by rw [← HCS.out]; exact e0, by rw [← HCS.out]; exact e1, e2, by omega⟩⟩
            | exact ⟨_, w2.heap.size + 1, w2.heap.size, rfl, ⟨eb, by rw [← HCS.out]; exact e1, by rw [← HCS.out]; exact e0, e2, by omega⟩⟩
            | exact ⟨_, w2.heap.size, w2.heap.size + 1 + 1, rfl, ⟨eb, by rw [← HCS.out]; exact e0, by rw [← HCS.out]; exact e2, e1, by omega⟩⟩
            | exact ⟨_, w2.heap.size + 1 + 1, w2.heap.size, rfl, ⟨eb, by rw [← HCS.out]; exact e2, by rw [← HCS.out]; exact e0, e1, by omega⟩⟩
            | exact ⟨_, w2.heap.size + 1, w2.heap.size + 1 + 1, rfl, ⟨eb, by rw [← HCS.out]; exact e1, by rw [← HCS.out]; exact e2, e0, by omega⟩⟩
            | exact ⟨_, w2.heap.size + 1 + 1, w2.heap.size + 1, rfl, ⟨eb, by rw [← HCS.out]; exact e2, by rw [← HCS.out]; exact e1, e0, by omega⟩⟩
        case rest =>
          obtain ⟨bt, gA, gB, rfl, hmt⟩ := hcut
          obtain ⟨wM, hwM⟩ : ∃ x, x = wc := ⟨_, rfl⟩
          subst hwM
          have HMT := hide hmt
          obtain ⟨⟨l1, l2, l3⟩, ne1, ne2, ne3⟩ := hmt.ln
          have la := hmt.nx.lt
          have lb := hmt.tl.lt
          have lt := (Array.getElem?_eq_some_iff.1 hmt.st).1
          have HW2 := hide hxw
          have hz2 := hxw.size
          have HR02 := hide hx0
          have hr02 := (Array.getElem?_eq_some_iff.1 hx0).1
          have HNUM := hide HR.out
          have HKS := hide hks
          have HKL := hide hkl
          have HKB := hide hkb
          have HCON := hide hcon
          obtain ⟨LN, hLN⟩ : ∃ LN, LN = Rf.nextsL p S I := ⟨_, rfl⟩
          obtain ⟨LS, hLS⟩ : ∃ LS, LS = Rf.tellsL p ks S I := ⟨_, rfl⟩
          have HLN := hide hLN
          have HLS := hide hLS
          have HLL : Hid (LN.length = S ∧ LS.length = S) := by show _ ∧ _; rw [hLN, hLS]; exact ⟨Rf.nextsL_len p S I, Rf.tellsL_len p ks S I⟩
          obtain ⟨_, _, c4, _, _⟩ := HMC.out wM (hxw.trans (hmt.bel.mono hz2))
          unfold slV at c4
          clear hmt hxw hx0 hks hkl hkb hcon hLN hLS HCO HCS HKD m2
          go_wp2_with fail
          go_loopw [74] (fun i wr => ∃ s : Nat, s ≤ S ∧ i = .int .i64 (s : Int) ∧ Hid (OF w2 wM S gA gB bt s LN LS wr)) (fun i _ => S - (intOf i).toNat)
          case atStart => exact ⟨0, Nat.zero_le _, rfl, OF.start HMT.out LN LS⟩
          case round =>
            obtain ⟨s, hs, rfl, HF⟩ := hrel
            obtain ⟨wo, hwo⟩ : ∃ wo, wo = wr := ⟨_, rfl⟩
            subst hwo
            have HWO : Hid (Below w.heap.size w wo) := HW2.out.trans (HF.out.bel.mono hz2)
            by_cases hlt : s < S
            · have hsi : (s : Int) < (S : Int) := by omega
              have hz := HF.out.size
              obtain ⟨uN, uS, tN, tS⟩ := HF.out.tabs
              have hlN : uN.length = s := by rw [tN.len, List.length_take, HLL.out.1]; omega
              have hlS : uS.length = s := by rw [tS.len, List.length_take, HLL.out.2]; omega
              obtain ⟨f1, f3⟩ := tN.next (by omega)
              obtain ⟨f2, f4⟩ := tS.next (by omega)
              rw [hlN] at f1 f3
              rw [hlS] at f2 f4
              obtain ⟨bn, hbn⟩ : ∃ b, uN0[s]? = some b := ⟨_, List.getElem?_eq_getElem (by rw [HUL.out.1]; exact hlt)⟩
              have rN := (HTN.out.below HWO.out).cell s bn hbn
              have hrow := ((HTN.out.below HWO.out).row s bn hbn).1
              have hlr : (LN)[s]? = some (Rf.nextL p I s) := by rw [HLN.out]; unfold Rf.nextsL; rw [List.getElem?_map, List.getElem?_range hlt]; rfl
              have hnr := (Rf.nexts_row p HCK.out S I s _ (by rw [← HLN.out]; exact hlr)).1
              rw [HQ.out, hnr] at hrow
              have hll : (Rf.nextL p I s).length = I := Rf.nextL_len p I s
              obtain ⟨lN, hlNN⟩ : ∃ l, l = Rf.nextL p I s := ⟨_, rfl⟩
              have HLNN := hide hlNN
              rw [← hlNN] at hrow hll
              obtain ⟨cN, hcN⟩ : ∃ c, c = uN ++ List.replicate (S - uN.length) (Value.slice none 0 0) := ⟨_, rfl⟩
              obtain ⟨cS, hcS⟩ : ∃ c, c = uS ++ List.replicate (S - uS.length) (Value.slice none 0 0) := ⟨_, rfl⟩
              have htN := tN.top
              have htS := tS.top
              have HC0 : Hid (cN[s]? = some (.slice none 0 0) ∧ cS[s]? = some (.slice none 0 0)) := by
                refine ⟨?_, ?_⟩
                · rw [hcN, List.getElem?_append_right (by omega), List.getElem?_replicate, if_pos (by omega)]
                · rw [hcS, List.getElem?_append_right (by omega), List.getElem?_replicate, if_pos (by omega)]
              rw [← hcN] at htN
              rw [← hcS] at htS
              have HTNT := hide htN
              have HTST := hide htS
              have HMK0 : Hid (Mk wo gA gB I s cN cS lN .nilIface 0 0 false false false false wo) := Mk.start htN htS lN .nilIface 0 0
              have hbnA : bn ≠ gA := by have := hrow.lt; have := ((HTN.out).row s bn hbn).1.lt; omega
              have hbnB : bn ≠ gB := by have := ((HTN.out).row s bn hbn).1.lt; omega
              have hbno := hrow.lt
              have HCL : Hid (∀ W b fm ft, Mk wo gA gB I s cN cS lN .nilIface 0 b false fm false ft W → Calls Tryz.prog 60 #[.slice (some ⟨bn, 0, none⟩) I I] W fun e w' => ∃ a c, e = .returned (.slice (some ⟨a, 0, none⟩) I c) ∧ Mk wo gA gB I s cN cS lN (.slice (some ⟨a, 0, none⟩) I c) a b true fm false ft w') := fun W b fm ft h => by
                have hr : RowIs W bn 3 (lN.map intV) := (h.old bn hbno hbnA hbnB).trans hrow
                have hc := clone_any lN bn W hr (by omega) (by omega)
                rw [hll] at hc
                refine hc.mono ?_
                rintro e w' ⟨u, a, rfl, ha, hu, hb⟩
                have hm := h.clone hb ha hu
                obtain ⟨c, rfl, _⟩ := hu
                rw [hll] at hm ⊢
                exact ⟨a, c, rfl, hm⟩
              obtain ⟨k0, k1, _, _⟩ := two_cells HF.out.st
              unfold slV at k0 k1
              have HST := hide HF.out.st
              have hbto := (Array.getElem?_eq_some_iff.1 HF.out.st).1
              have HKP : Hid (∀ W, Sm wo gA gB W → W.cell? ⟨bt, 0, none⟩ = some (.slice (some ⟨gA, 0, none⟩) S S) ∧ W.cell? ⟨bt, 1, none⟩ = some (.slice (some ⟨gB, 0, none⟩) S S)) := fun W h => by
                obtain ⟨k0, k1, _, _⟩ := two_cells ((h.2 bt hbto (by omega) (by omega)).trans HST.out)
                exact ⟨k0, k1⟩
              have m4 := fun w => makeIs I (by omega) w
              obtain ⟨cZ, hcZ⟩ : ∃ c, c = List.replicate I (Value.int .i64 0) := ⟨_, rfl⟩
              rw [← hcZ] at m4
              have HCZ := hide hcZ
              unfold slV at rN
              have HTABN := hide tN
              have HTABS := hide tS
              have lA : gA < wo.heap.size := by omega
              have lB : gB < wo.heap.size := by omega
              clear tN tS hcN hcS htN htS hlr hnr hrow hlNN hcZ hll m3
              go_upto_region 17 with fail
              go_cut [79] (fun _ wx => ∃ u a b, Mk wo gA gB I s cN cS lN u a b true true true true wx)
              case first =>
                go_region_held3 (fun W => W.cell? ⟨bt, 0, none⟩ = some (.slice (some ⟨gA, 0, none⟩) S S) ∧ W.cell? ⟨bt, 1, none⟩ = some (.slice (some ⟨gB, 0, none⟩) S S)) ((refine HKP.out _ ?_; (repeat (first | exact Sm.refl _ _ _ | exact HMK1.out.sm | refine Sm.drew ?_ | refine Sm.alloc ?_ _ | refine Sm.set ?_ _ _ _ (by first | exact .inl rfl | exact .inr rfl))))) ((first
                  | (go_at_call 60; (with_reducible refine (HCL.out _ 0 false false HMK0.out).mono ?_); rintro e wB ⟨ac, cc, rfl, hmk1⟩; have HMK1 := hide hmk1; obtain ⟨y0, y1, ⟨yv, y2⟩, y3⟩ := hmk1.cells HC0.out.1 HC0.out.2; have y4 : gA < wB.heap.size := Nat.lt_of_lt_of_le lA hmk1.size; have y5 : gB < wB.heap.size := Nat.lt_of_lt_of_le lB hmk1.size; clear hmk1)
                  | (go_at_call 60; (with_reducible refine (HCL.out _ 0 false false HMK0.out.drew).mono ?_); rintro e wB ⟨ac, cc, rfl, hmk1⟩; have HMK1 := hide hmk1; obtain ⟨y0, y1, ⟨yv, y2⟩, y3⟩ := hmk1.cells HC0.out.1 HC0.out.2; have y4 : gA < wB.heap.size := Nat.lt_of_lt_of_le lA hmk1.size; have y5 : gB < wB.heap.size := Nat.lt_of_lt_of_le lB hmk1.size; clear hmk1)
                  | (go_at_call 60; (with_reducible refine (HCL.out _ wo.heap.size true false (HMK0.out.make cZ HCZ.out)).mono ?_); rintro e wB ⟨ac, cc, rfl, hmk1⟩; have HMK1 := hide hmk1; obtain ⟨y0, y1, ⟨yv, y2⟩, y3⟩ := hmk1.cells HC0.out.1 HC0.out.2; have y4 : gA < wB.heap.size := Nat.lt_of_lt_of_le lA hmk1.size; have y5 : gB < wB.heap.size := Nat.lt_of_lt_of_le lB hmk1.size; clear hmk1)
                  | (go_at_call 60; (with_reducible refine (HCL.out _ wo.heap.size true false (HMK0.out.make cZ HCZ.out).drew).mono ?_); rintro e wB ⟨ac, cc, rfl, hmk1⟩; have HMK1 := hide hmk1; obtain ⟨y0, y1, ⟨yv, y2⟩, y3⟩ := hmk1.cells HC0.out.1 HC0.out.2; have y4 : gA < wB.heap.size := Nat.lt_of_lt_of_le lA hmk1.size; have y5 : gB < wB.heap.size := Nat.lt_of_lt_of_le lB hmk1.size; clear hmk1)
                  | (go_at_call 60; (with_reducible refine (HCL.out _ wo.heap.size true false (HMK0.out.drew.make cZ HCZ.out)).mono ?_); rintro e wB ⟨ac, cc, rfl, hmk1⟩; have HMK1 := hide hmk1; obtain ⟨y0, y1, ⟨yv, y2⟩, y3⟩ := hmk1.cells HC0.out.1 HC0.out.2; have y4 : gA < wB.heap.size := Nat.lt_of_lt_of_le lA hmk1.size; have y5 : gB < wB.heap.size := Nat.lt_of_lt_of_le lB hmk1.size; clear hmk1)))
                all_goals go_wp2_with fail
                all_goals go_meet
                all_goals first
                  | exact ⟨_, _, _, (HMK1.out.stN (by omega) (by omega)).stS (by omega) (by omega)⟩
                  | exact ⟨_, _, _, ((HMK1.out.stN (by omega) (by omega)).stS0 (by omega) (by omega) wB.heap.size).makeL (by simp [World.setCell]) cZ HCZ.out⟩
                  | (trace_state; fail)
              case rest =>
                obtain ⟨u1, x1, b1, hmk⟩ := hcut
                have HMK := hide hmk
                obtain ⟨hb1o, hb1r⟩ := hmk.rm rfl
                have hb1 := hb1r.lt
                obtain ⟨lT, hlT⟩ : ∃ l, l = Rf.tellL p ks I s := ⟨_, rfl⟩
                have HLT := hide hlT
                have HLTL : Hid (lT.length = I) := by show _ = _; rw [hlT]; exact Rf.tellL_len p ks I s
                have HLOW : Hid (∀ W i, InW wc b1 I lT i W → Below w2.heap.size w2 W) := fun W i h => by
                  obtain ⟨⟨h1, h2⟩, ⟨h3, h4, h5⟩, _⟩ := h
                  have hb := HF.out.bel
                  have hzz := HMK.out.size
                  refine ⟨h3.trans (HMK.out.os.1.trans hb.os), h4.trans (HMK.out.os.2.1.trans hb.tape), h5.trans (HMK.out.os.2.2.trans hb.output), by have := hb.size; omega, fun j hj => ?_⟩
                  have := hb.size
                  exact (h2 j (by omega) (by omega)).trans ((HMK.out.old j (by omega) (by omega) (by omega)).trans (hb.block j hj))
                have HIN0 : Hid (InW wc b1 I lT 0 wc) := ⟨⟨Nat.le_refl _, fun _ _ _ => rfl⟩, ⟨rfl, rfl, rfl⟩, by simpa using hb1r⟩
                have HTW : Hid (∀ W : World, (∀ j, j < wc.heap.size → j ≠ b1 → W.heap[j]? = wc.heap[j]?) → W.cell? ⟨bt, 1, none⟩ = some (.slice (some ⟨gB, 0, none⟩) S S) ∧ W.cell? ⟨gB, s, none⟩ = some (.slice (some ⟨b1, 0, none⟩) I I)) := fun W h => by
                  have hzz := HMK.out.size
                  have e1 := (h bt (by omega) (by omega)).trans ((HMK.out.old bt (by omega) (by omega) (by omega)).trans HST.out)
                  have e2 : RowIs W gB 36 (cS.set s (slV b1 I)) := (h gB (by omega) (by omega)).trans HMK.out.tS
                  have hlc := (List.getElem?_eq_some_iff.1 HC0.out.2).1
                  exact ⟨(two_cells e1).2.1, e2.cell s _ (by simp [hlc]; rfl)⟩
                have hkk2 : ks.length = k := by rw [HKL.out, ← HU.out]
                have HNR : Hid (RowIs w2 (w.heap.size + 1) 3 (ks.map intV)) := by
                  have h := HNUM.out
                  have e : V = ks.map intV := by rw [HV.out, HKS.out, List.map_map]; rfl
                  rw [e] at h
                  exact h
                clear hmk hb1r hlT f1 f2 f3 f4 k0 k1 rN m4
                go_wp2_with fail
                go_loopw [94] (fun i wr => ∃ i0 : Nat, i0 ≤ I ∧ i = .int .i64 (i0 : Int) ∧ Hid (InW wc b1 I lT i0 wr)) (fun i _ => I - (intOf i).toNat)
                case atStart => exact ⟨0, Nat.zero_le _, rfl, HIN0.out⟩
                case round =>
                  obtain ⟨i0, hi0, rfl, HI0⟩ := hrel
                  by_cases hli : i0 < I
                  · have hii : (i0 : Int) < (I : Int) := by omega
                    have HBw : Hid (Below w.heap.size w wr) := HW2.out.trans ((HLOW.out wr i0 HI0.out).mono hz2)
                    have HBD := hide (Rf.after1_bd p HCK.out s i0)
                    rw [← HQ.out] at HBD
                    have HSEE := hide (Sees_any bm n _ _ _ S I g gS lo s i0 (Mc.val (Mc.after1 p q s i0).is) uS0 (Mc.seesRow p q I) wr (HM1.out.below HBw.out) (HTS.out.below HBw.out) HUL.out.2 hlt hli h12 (Mc.seesRow_at _ _ _ _ _ hli))
                    have HL1 : Hid ((Mc.after1 p q s i0).is.length = n) := by show _ = _; rw [HBD.out.li, HN.out]
                    have HVB : Hid (bitsTo (Mc.val (Mc.after1 p q s i0).is : Int) n = (Mc.after1 p q s i0).is) := by show _ = _; rw [← HL1.out]; exact Mc.val_back _
                    have HLX : Hid (lT[i0]? = some (tellN (Mc.after1 p q s i0).is ks)) := by show _ = _; rw [HLT.out, HQ.out]; unfold Rf.tellL; rw [List.getElem?_map, List.getElem?_range hli]; rfl
                    generalize (Mc.after1 p q s i0).is = A1 at *
                    clear HBD
                    go_wp2_with fail
                    refine HSEE.out.mono ?_
                    rintro e w3 ⟨gb, rfl, hrow, _, hb3⟩
                    rw [HVB.out] at hrow
                    have HB3 := hide hb3
                    have HBI : Hid (∀ W, Below w3.heap.size w3 W → Calls Tryz.prog 61 #[.slice (some ⟨gb, 0, none⟩) n n, .slice (some ⟨w.heap.size + 1, 0, none⟩) k k] W fun e w' => e = .returned (.int .i64 (tellN A1 ks : Int)) ∧ w' = W) := fun W hW => by
                      have h1 := bits_any A1 ks gb (w.heap.size + 1) W (hrow.below hW) (((HNR.out.below (HLOW.out wr i0 HI0.out)).below (hb3.trans (hW.mono hb3.size)))) (by omega)
                      rw [HL1.out, hkk2] at h1
                      exact h1
                    obtain ⟨t1, t2⟩ := HTW.out w3 (fun j hj hne => (hb3.block j (by have := HI0.out.1.1; omega)).trans (HI0.out.1.2 j hj hne))
                    have HT3 : Hid (w3.cell? ⟨bt, 1, none⟩ = some (.slice (some ⟨gB, 0, none⟩) S S) ∧ w3.cell? ⟨gB, s, none⟩ = some (.slice (some ⟨b1, 0, none⟩) I I)) := ⟨t1, t2⟩
                    have HT4 : Hid (∀ x, (w3.setCell ⟨b1, i0, none⟩ x).cell? ⟨bt, 1, none⟩ = some (.slice (some ⟨gB, 0, none⟩) S S) ∧ (w3.setCell ⟨b1, i0, none⟩ x).cell? ⟨gB, s, none⟩ = some (.slice (some ⟨b1, 0, none⟩) I I)) := fun x => HTW.out _ (fun j hj hne => (Below.heap_setCell _ _ _ _ (fun e => hne e)).trans ((hb3.block j (by have := HI0.out.1.1; omega)).trans (HI0.out.1.2 j hj hne)))
                    have HDR : Hid (Below w3.heap.size w3 w3.drew) := ⟨rfl, rfl, rfl, Nat.le_refl _, fun _ _ => rfl⟩
                    have hr3 := (HI0.out.2.2.below hb3)
                    have v0 : w3.cell? ⟨b1, i0, none⟩ = some (.int .i64 0) := hr3.cell i0 _ (by rw [List.getElem?_append_right (by rw [List.length_take, List.length_map, HLTL.out]; omega), List.getElem?_replicate, if_pos (by rw [List.length_take, List.length_map, HLTL.out]; omega)])
                    have v1 := hr3.frozen i0
                    have HPUT : Hid (∀ W', Below w3.heap.size w3 W' → InW wc b1 I lT (i0 + 1) (W'.setCell ⟨b1, i0, none⟩ (.int .i64 (tellN A1 ks : Int)))) := fun W' hW => HI0.out.put (hb3.trans (hW.mono hb3.size)) hli HLTL.out _ HLX.out
                    unfold slV
                    clear hb3 hrow HSEE hr3
                    generalize tellN A1 ks = T at *
                    go_wp2_with fail
                    go_region_held3 (fun W => W.cell? ⟨bt, 1, none⟩ = some (.slice (some ⟨gB, 0, none⟩) S S) ∧ W.cell? ⟨gB, s, none⟩ = some (.slice (some ⟨b1, 0, none⟩) I I)) ((first | exact HT3.out | exact HT4.out _)) ((go_at_call 61; (with_reducible refine (HBI.out _ (by first | exact HDR.out | exact Below.refl _ _)).mono ?_); rintro e w4 ⟨rfl, rfl⟩))
                    go_wp2_with fail
                    go_roundw
                    case rel => exact ⟨i0 + 1, by omega, by go_num, by first | exact HPUT.out _ (Below.refl _ _) | exact HPUT.out _ HDR.out⟩
                    case measure => simp [intOf]; omega
                  · obtain rfl : i0 = I := by omega
                    have hii : ¬ (i0 : Int) < (i0 : Int) := by omega
                    have HNXT : Hid (OF w2 wM S gA gB bt (s + 1) LN LS wr) := HF.out.next ⟨l1, l2, l3⟩ ⟨la, lb, lt⟩ ⟨ne1, ne2, ne3⟩ hlt HTNT.out HTST.out HMK.out HI0.out HLTL.out (by rw [HLN.out, HLNN.out]; exact Rf.range_take_succ (Rf.nextL p i0) S s hlt) (by rw [HLS.out, HLT.out]; exact Rf.range_take_succ (Rf.tellL p ks i0) S s hlt) (by rw [List.length_take, HLL.out.1]; omega) (by rw [List.length_take, HLL.out.2]; omega)
                    go_wp2_with fail
                    go_roundw
                    case rel => exact ⟨s + 1, by omega, by go_num, HNXT.out⟩
                    case measure => simp [intOf]; omega
            · obtain rfl : s = S := by omega
              have hss : ¬ (s : Int) < (s : Int) := by omega
              obtain ⟨uN, uS, tN, tS⟩ := HF.out.tabs
              rw [List.take_of_length_le (by rw [HLL.out.1]; exact Nat.le_refl _)] at tN
              rw [List.take_of_length_le (by rw [HLL.out.2]; exact Nat.le_refl _)] at tS
              obtain ⟨k0, k1, _, _⟩ := two_cells HF.out.st
              unfold slV at k0 k1
              have hx2 := (HF.out.bel.block w.heap.size hr02).trans HR02.out
              obtain ⟨z0, z1, z2, z3⟩ := two_cells hx2
              obtain ⟨wF, hwF⟩ : ∃ wF, wF = (wo.setCell ⟨w.heap.size, 0, none⟩ (.slice (some ⟨gA, 0, none⟩) s s)).setCell ⟨w.heap.size, 1, none⟩ (.slice (some ⟨gB, 0, none⟩) s s) := ⟨_, rfl⟩
              have hF : wF.heap[w.heap.size]? = some (.cells #[.slice (some ⟨gA, 0, none⟩) s s, .slice (some ⟨gB, 0, none⟩) s s] 67 (0, 0)) := by rw [hwF]; simp [World.setCell, Array.getElem?_modify, hx2]
              obtain ⟨j0, j1, _, _⟩ := two_cells hF
              have ho : ∀ j, j ≠ w.heap.size → wF.heap[j]? = wo.heap[j]? := fun j hj => by
                have hne : ¬ w.heap.size = j := fun e => hj e.symm
                rw [hwF]
                simp [World.setCell, Array.getElem?_modify, hne]
              have tN2 : TB wF gA s (fun k => wM.heap.size ≤ k) uN LN := tN.moved (ho gA (by omega)) (fun j hj _ => ho j (by omega)) (fun _ hj _ => hj)
              have tS2 : TB wF gB s (fun k => wM.heap.size ≤ k) uS LS := tS.moved (ho gB (by omega)) (fun j hj _ => ho j (by omega)) (fun _ hj _ => hj)
              have r1 := tN2.rowsI HLL.out.1 (by rw [HLN.out]; exact Rf.nexts_small p HCK.out s I (by rw [← HS.out]; omega))
              have r2 := tS2.rowsI HLL.out.2 (fun b hb i hi => by
                rw [HLS.out] at hb
                obtain ⟨_, _, rfl⟩ := List.mem_map.1 hb
                obtain ⟨_, _, rfl⟩ := List.mem_map.1 hi
                exact tell_small _ ks (by rw [HKL.out, ← HU.out]; exact hu))
              have HFIN : Hid (Below w.heap.size w wF) := by
                show Below _ _ _
                rw [hwF]
                exact (HWO.out.setCell (p := ⟨w.heap.size, 0, none⟩) (Nat.le_refl _) _).setCell (p := ⟨w.heap.size, 1, none⟩) (Nat.le_refl _) _
              rw [HLN.out] at r1
              rw [HLS.out] at r2
              have HR1 := hide r1
              have HR2 := hide r2
              clear hF hx2 ho tN tS tN2 tS2 r1 r2
              go_wp2_with fail
              rw [← hwF]
              refine bodyPost_ret_by (v := .tuple #[.agg #[.slice (some ⟨gA, 0, none⟩) s s, .slice (some ⟨gB, 0, none⟩) s s], .nilIface]) ?_ rfl ?_
              · simp [results, Tryz.results22, go_sem, j0, j1]
              · exact ⟨HFIN.out, .inr ⟨HCON.out, ks, _, _, HKS.out, HKL.out, HKB.out, rfl, by rw [← HS.out, ← HQ.out, ← HI.out]; exact HR1.out, by rw [← HS.out, ← HQ.out, ← HI.out]; exact HR2.out⟩⟩
end Bo
end Go.Proofs.YtgldbliohpfljaaGreatDoor
