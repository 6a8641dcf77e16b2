/-
  The table of numbers in memory, and the walk of number: a text's number in it. The walk of numberOf: the number of a sign ahead of parts that are told by theirs.
-/
import Derived.Test.YtpidknogiiclfaaGreatDoorTdNum
import Derived.Test.YtpidknogiiclfaaGreatDoorTxLeaf
import Derived.Maps.OwnSet
import Derived.Maps.OwnOps
import Derived.WalkMore
import Derived.Test.YtpidknogiiclfaaGreatDoorBld
import Derived.Test.YtpidknogiiclfaaGreatDoorShelf
import Derived.Lib.LaidTab
import Derived.Lib.ItoaMem
namespace Go.Proofs.YtpidknogiiclfaaGreatDoor
section
open Go.RowKit Go.Maps
theorem keyStr (s : List UInt8) (h : s.length ≤ maxLen) : keyOf Tryz.prog 9 (.string ⟨s.toArray⟩) = some (.string s) := by
  have := Go.WideMaps.keyOf_string_mk (P := Tryz.prog) (k := 9) Tryz.underlying9 (s := ⟨s.toArray⟩) (by show s.toArray.size ≤ maxLen; simpa using h)
  simpa using this
theorem keyed : Keyed Tryz.prog 9 := string_keyed Tryz.underlying9
/-- block mb is a map that has each text of the table at its place -/
structure Tbl (mb : Nat) (tb : List (List UInt8)) (w : World) : Prop where
  ex : ∃ D : DataW Unit, w.ownsMap Tryz.prog 9 (plainElem Tryz.prog 3) mb tb.length D ∧ (∀ s, Maps.has D (.string s) = decide (s ∈ tb)) ∧ (∀ (i : Nat) (s : List UInt8), tb[i]? = some s → ∀ z, D.atKey (.string s) z = .lit (.int .i64 (i : Int))) ∧ Maps.size D = tb.length
  nodup : tb.Nodup
theorem Tbl.lt {mb : Nat} {tb : List (List UInt8)} {w : World} (h : Tbl mb tb w) : mb < w.heap.size := by
  obtain ⟨D, h1, _⟩ := h.ex
  exact h1.lt
theorem Tbl.kept {mb : Nat} {tb : List (List UInt8)} {w w' : World} {row : Option Nat} (h : Tbl mb tb w) (hg : w.grownBy w' row) (hne : some mb ≠ row) : Tbl mb tb w' := by
  obtain ⟨D, h1, h2⟩ := h.ex
  exact ⟨⟨D, h1.kept hg hne, h2⟩, h.nodup⟩
/-- the table with one text more -/
theorem Tbl.put {mb : Nat} {tb : List (List UInt8)} {w w' : World} {s : List UInt8} {D : DataW Unit} (hn : tb.Nodup) (ho : w.ownsMap Tryz.prog 9 (plainElem Tryz.prog 3) mb tb.length D) (h1 : ∀ s, Maps.has D (.string s) = decide (s ∈ tb)) (h2 : ∀ (i : Nat) (s : List UInt8), tb[i]? = some s → ∀ z, D.atKey (.string s) z = .lit (.int .i64 (i : Int))) (h3 : Maps.size D = tb.length)
    (hs : s ∉ tb) (ho' : w'.ownsMap Tryz.prog 9 (plainElem Tryz.prog 3) mb (tb.length + 1) (D.put (.string s) (.lit (.int .i64 (tb.length : Int))))) : Tbl mb (tb ++ [s]) w' := by
  have hk : WideAt.IsKeyLit (.string s) := trivial
  have ht : Maps.Tidy D := ho.tidy keyed
  refine ⟨⟨_, by simpa using ho', ?_, ?_, ?_⟩, ?_⟩
  · intro r
    by_cases e : r = s
    · subst e; rw [Maps.has_put_same ht.isMap hk]; simp
    · rw [Maps.has_put_other (by simpa using e), h1]; simp [e]
  · intro i r hr z
    by_cases hi : i < tb.length
    · rw [List.getElem?_append_left hi] at hr
      have hne : r ≠ s := fun e => hs (e ▸ List.mem_of_getElem? hr)
      rw [Maps.atKey_put_other (by simpa using hne)]
      exact h2 i r hr z
    · rw [List.getElem?_append_right (by omega)] at hr
      have hi0 : i - tb.length = 0 := by
        by_cases h : i - tb.length = 0
        · exact h
        · rw [List.getElem?_eq_none (by simp; omega)] at hr; simp at hr
      rw [hi0] at hr
      simp only [List.getElem?_cons_zero, Option.some.injEq] at hr
      subst hr
      rw [Maps.atKey_put_same ht.isMap hk, show i = tb.length by omega]
  · rw [Maps.size_put ht, h1, if_neg (by simpa using hs), h3]; simp
  · rw [List.nodup_append]
    refine ⟨hn, by simp, ?_⟩
    intro a ha b hb
    simp only [List.mem_singleton] at hb
    subst hb
    intro e
    exact hs (e ▸ ha)
/-- number: the place of a text in the table, to which it is added if it isn't there -/
def Numbered (mb : Nat) (tb : List (List UInt8)) (s : List UInt8) (w : World) (e : Ending) (w' : World) : Prop :=
  ∃ (i : Nat) (more : List (List UInt8)), e = .returned (.int .i64 (i : Int)) ∧ Tbl mb (tb ++ more) w' ∧ (tb ++ more)[i]? = some s ∧ more.length ≤ 1 ∧ w.grownBy w' (some mb)
set_option maxHeartbeats 2000000 in
set_option maxRecDepth 100000 in
theorem number_any (mb : Nat) (tb : List (List UInt8)) (s : List UInt8) (w : World) (h : Tbl mb tb w) (hl : tb.length < 1000000) (hs : s.length ≤ maxLen) :
    Calls Tryz.prog 67 #[.agg #[.map (some mb)], .string ⟨s.toArray⟩] w (Numbered mb tb s w) := by
  obtain ⟨D, ho, h1, h2, h3⟩ := h.ex
  have hn := h.nodup
  obtain ⟨w1, hw1⟩ : ∃ w1, w1 = w.alloc (.cells #[.map (some mb)] 63) := ⟨_, rfl⟩
  have ho1 : w1.ownsMap Tryz.prog 9 (plainElem Tryz.prog 3) mb tb.length D := by rw [hw1]; exact ho.alloc _
  have zero : (zeroValue 3).run Tryz.prog w1 = .ok (.int .i64 0) w1 := by kernel_rfl
  obtain ⟨v, ps, hrun, hv⟩ := ho1.look_ok keyed Tryz.underlying61 zero (plainElem_int Tryz.underlying3 (by decide)) (keyStr s hs)
  obtain ⟨c, rfl, hc, _⟩ := plainElem_int_inv Tryz.underlying3 hv
  rw [h1] at hrun
  have HO1 := hide ho1
  have HG1 : Hid (w.grownBy w1 (some mb)) := by show World.grownBy _ _ _; rw [hw1]; exact World.grownBy_alloc _ _ _
  have HH := hide h
  have H1 := hide h1
  have H2 := hide h2
  have H3 := hide h3
  have HN := hide hn
  by_cases hin : s ∈ tb
  · rw [decide_eq_true hin] at hrun
    obtain ⟨i, hi, hsi⟩ := List.getElem_of_mem hin
    have hat := h2 i s (by rw [List.getElem?_eq_getElem hi, hsi]) (.lit (.int .i64 0))
    have hci : c = (i : Int) := by
      simp only [Prod.mk.injEq] at hc
      rw [hat] at hc
      simpa using hc.1.symm
    subst hci
    have HFIN : Hid (Numbered mb tb s w (.returned (.int .i64 (i : Int))) w1) := ⟨i, [], rfl, by rw [List.append_nil]; exact HH.out.kept (row := none) (by rw [hw1]; exact World.grownBy_alloc _ _ _) (by simp), by rw [List.append_nil, List.getElem?_eq_getElem hi, hsi], by simp, HG1.out⟩
    rw [hw1] at hrun HFIN
    clear ho ho1 h1 h2 h3 hn h hv hc hat hi hsi hin hw1 zero
    go_enter Tryz.func67, Tryz.ntmps67
    go_wp2_with fail
    go_ret
    exact HFIN.out
  · rw [decide_eq_false hin] at hrun
    have hc0 : c = 0 := by
      simp only [Prod.mk.injEq] at hc
      rw [Maps.atKey_of_not_has (by rw [h1]; exact decide_eq_false hin)] at hc
      simpa using hc.1.symm
    subst hc0
    have HIN := hide hin
    have hkey := keyStr s hs
    rw [hw1] at hrun ho1
    have HW1 := hide hw1
    rw [hw1] at HG1
    clear ho h1 h2 hn h hv hc hin hw1 zero HO1
    go_enter Tryz.func67, Tryz.ntmps67
    go_wp2_with (first | (at_len; refine wpList_len_own _ rfl _ 61 rfl 9 3 Tryz.underlying61 _ mb tb.length D rfl ho1 ?_; rw [h3]) | (at_mapUpdate; refine wpList_mapUpdate_own _ rfl _ _ _ 61 rfl 9 3 keyed Tryz.underlying61 _ mb tb.length D rfl ho1 (by unfold maxLen; omega) _ _ _ rfl rfl hkey _ [] (plainElem_int Tryz.underlying3 (WalkArith.wf_i64 (by omega))) ?_; intro w2 ho2 hg2))
    go_ret
    have hput := Tbl.put HN.out ho1 H1.out H2.out H3.out HIN.out ho2
    exact ⟨tb.length, [s], rfl, hput, by simp, by simp, HG1.out.trans hg2⟩
end
section
open Go.RowKit Go.Maps
open Go.Lib (decDigits)
/-- the table of powers that strconv.Itoa reads -/
def Pow (w : World) : Prop := Lib.TabIs Tryz.prog w "internal/strconv.uint64pow10" .u64 Lib.pow10Tab
theorem gPow : Tryz.prog.globalNamed "internal/strconv.uint64pow10" = some 2 := by kernel_rfl
theorem Pow.block {w w' : World} (h : Pow w) (hb : w'.heap[2]? = w.heap[2]?) : Pow w' := by
  unfold Pow Lib.TabIs World.var? at *
  rw [gPow] at *
  simp only [Option.bind_some] at *
  rw [hb]
  exact h
theorem Pow.lt {w : World} (h : Pow w) : 2 < w.heap.size := by
  have := Lib.TabIs.cell h gPow 0 (by decide)
  exact World.block_lt_of_cell? _ _ this
theorem dec_len (u : Nat) : (decDigits u).length ≤ u + 1 := by
  induction u using Nat.strongRecOn with
  | ind u ih =>
    by_cases h : u < 10
    · rw [decDigits, dif_pos h]; simp
    · rw [decDigits, dif_neg h]
      have := ih (u / 10) (by omega)
      simp only [List.length_append, List.length_singleton]
      omega
/-- the numbers in a row of what was made tidy -/
def RowN (w : World) (g o : Nat) (ns : List Nat) : Prop := ∀ (i m : Nat), ns[i]? = some m → ∃ tu yu x y z, w.cell? ⟨g, o + i * 3, none⟩ = some (.iface tu yu) ∧ w.cell? ⟨g, o + i * 3 + 1, none⟩ = some (.int .i64 (m : Int)) ∧ w.cell? ⟨g, o + i * 3 + 2, none⟩ = some (.slice x y z)
theorem cat_snoc (s : UInt8) (ns : List Nat) (k : Nat) (h : k < ns.length) : cat s (ns.take (k + 1)) = cat s (ns.take k) ++ ([s] ++ decDigits ns[k]) := by
  unfold cat
  rw [List.take_succ_eq_append_getElem h, List.map_append, List.flatten_append]
  simp
theorem cat_len (s : UInt8) (ns : List Nat) (h : ∀ m, m ∈ ns → m ≤ 1000000) : (cat s ns).length ≤ 1000002 * ns.length := by
  induction ns with
  | nil => simp [cat]
  | cons a r ih =>
    have h1 := ih fun m hm => h m (by simp [hm])
    have h2 := dec_len a
    have h3 := h a (by simp)
    rw [cat_cons]
    simp only [List.length_cons, List.length_append]
    omega
theorem below_grow (w : World) (k : Nat) (os : Array Obj) : Below w.heap.size w (Go.Sort.grow (w.drewN k) os) := by
  refine ⟨rfl, rfl, rfl, by simp [Go.Sort.grow], fun j hj => ?_⟩
  show (w.heap ++ os)[j]? = _
  rw [Array.getElem?_append_left hj]
theorem RowN.below {w w' : World} {g o : Nat} {ns : List Nat} {B : Nat} (h : RowN w g o ns) (hb : Below B w w') (hg : g < B) : RowN w' g o ns := by
  intro i m hi
  obtain ⟨tu, yu, x, y, z, h1, h2, h3⟩ := h i m hi
  exact ⟨tu, yu, x, y, z, (hb.cell (p := ⟨g, _, none⟩) hg).trans h1, (hb.cell (p := ⟨g, _, none⟩) hg).trans h2, (hb.cell (p := ⟨g, _, none⟩) hg).trans h3⟩
set_option maxHeartbeats 4000000 in
set_option maxRecDepth 100000 in
theorem numberOf_any (mb : Nat) (tb : List (List UInt8)) (s : UInt8) (g o cap : Nat) (ns : List Nat) (w : World) (h : Tbl mb tb w) (hl : tb.length < 1000000) (hp : Pow w) (hr : RowN w g o ns) (hn : ns.length ≤ cap) (hn2 : ns.length ≤ 1000000) (hm : ∀ m, m ∈ ns → m ≤ 1000000) (hg : g < w.heap.size) :
    Calls Tryz.prog 64 #[.agg #[.map (some mb)], .string ⟨#[s]⟩, .slice (some ⟨g, o, none⟩) ns.length cap] w (Numbered mb tb (cat s ns) w) := by
  have HT := hide h
  have HP := hide hp
  have HR := hide hr
  have HM := hide hm
  generalize hnn : ns.length = n at *
  have HN := hide hnn
  clear h hp hr hm hnn
  obtain ⟨w2, hw2⟩ : ∃ w2, w2 = (w.alloc (.cells #[.map (some mb)] 63)).alloc (.cells #[.pointer none, .slice none 0 0] 98) := ⟨_, rfl⟩
  have hs2 : w2.heap.size = w.heap.size + 1 + 1 := by rw [hw2]; simp
  have hb2 : Below w.heap.size w w2 := by rw [hw2]; exact ((Below.refl _ _).alloc (Nat.le_refl _) _).alloc (by simp) _
  have hB2 : Bld (w.heap.size + 1) (Lib.byteCells []) w2 := by
    have := Lib.fresh_isBuilder 98 5 (w.alloc (.cells #[.map (some mb)] 63))
    rw [World.size_alloc] at this
    rw [hw2]; exact this
  have hx2 : w2.cell? ⟨w.heap.size, 0, none⟩ = some (.map (some mb)) := by
    rw [hw2, World.cell?_alloc_lt _ _ ⟨w.heap.size, 0, none⟩ (by simp)]; simp
  have HB2 := hide hb2
  have HBL := hide hB2
  have HX2 := hide hx2
  have HW2 := hide hw2
  have HS2 := hide hs2
  clear hb2 hB2 hx2 hw2 hs2
  go_enter Tryz.func64, Tryz.ntmps64
  go_wp2_with fail
  rw [← HW2.out]
  go_loopw [12] (fun i wr => ∃ k : Nat, k ≤ n ∧ i = .int .i64 (k : Int) ∧ Hid (Bld (w.heap.size + 1) (Lib.byteCells (cat s (ns.take k))) wr) ∧ Hid (Kb (w.heap.size + 1) w2 wr)) (fun i _ => n - (intOf i).toNat)
  case atStart => exact ⟨0, Nat.zero_le _, rfl, HBL.out, Kb.refl _ _⟩
  case round =>
    obtain ⟨k, hk, rfl, HBr, HKr⟩ := hrel
    have hszr := HKr.out.1.size
    rw [HS2.out] at hszr
    have hlenr : (cat s (ns.take k)).length ≤ 1000002 * 1000000 := by
      have h1 := cat_len s (ns.take k) fun m hm => HM.out m (List.mem_of_mem_take hm)
      have h2 : (ns.take k).length ≤ 1000000 := by rw [List.length_take]; omega
      exact Nat.le_trans h1 (Nat.mul_le_mul_left _ h2)
    by_cases hlt : k < n
    · have hkl : k < ns.length := by rw [HN.out]; exact hlt
      obtain ⟨tu, yu, x, y, z, e1, e2, e3⟩ := (HR.out.below HB2.out hg) k ns[k] (List.getElem?_eq_getElem hkl)
      have e1' := (HKr.out.1.cell (p := ⟨g, o + k * 3, none⟩) (by show g < _; omega)).trans e1
      have e2' := (HKr.out.1.cell (p := ⟨g, o + k * 3 + 1, none⟩) (by show g < _; omega)).trans e2
      have e3' := (HKr.out.1.cell (p := ⟨g, o + k * 3 + 2, none⟩) (by show g < _; omega)).trans e3
      have HCS := hide (cat_snoc s ns k hkl)
      have hmk := HM.out ns[k] (List.getElem_mem hkl)
      clear e1 e2 e3
      generalize ns[k] = m at *
      have hba : Below wr.heap.size wr (wr.alloc (.cells #[.iface tu yu, .int .i64 (m : Int), .slice x y z] 66)) := (Below.refl _ _).alloc (Nat.le_refl _) _
      have HKa := hide (HKr.out.trans (Kb.of_below (b := w.heap.size + 1) hba (by omega)))
      have HC1 := hide (WriteString_any (w.heap.size + 1) _ ⟨#[s]⟩ _ (HBr.out.below hba) (by rw [Lib.byteCells_length]; show _ + 1 ≤ _; omega))
      have HNEW := hide (heap_alloc_new wr (.cells #[.iface tu yu, .int .i64 (m : Int), .slice x y z] 66))
      clear hba
      go_wp2_with fail
      refine HC1.out.mono ?_
      rintro e w3 ⟨rfl, hbl3, hk3⟩
      have hnew3 := hk3.cell HNEW.out (by omega) (by decide)
      have f1 : w3.cell? ⟨wr.heap.size, 1, none⟩ = some (.int .i64 (m : Int)) := by rw [Lib.cell_of_heap hnew3]; rfl
      have HK3 := hide (HKa.out.trans hk3)
      have HB3 := hide hbl3
      have hp3 : Pow w3 := (HP.out.block (HB2.out.block _ HP.out.lt)).block (HK3.out.1.block _ (by have := HP.out.lt; omega))
      have HIT := hide (Tryz.strconv_Itoa (m : Int) (by omega) (by omega) w3 hp3)
      have hit : Lib.itoa (m : Int) = decDigits m := Lib.itoa_nonneg m
      rw [hit] at HIT
      have hdl := dec_len m
      clear hbl3 hk3 hnew3 hp3 hit HC1
      generalize hdd : decDigits m = dd at *
      have HDD := hide hdd
      clear hdd
      go_wp2_with fail
      refine HIT.out.mono ?_
      rintro e w4 ⟨rfl, kk, os, hw4⟩
      have hb4 : Below w3.heap.size w3 w4 := by rw [hw4]; exact below_grow _ _ _
      have hlt3 := HB3.out.lt
      have HK4 := hide (HK3.out.trans (Kb.of_below (b := w.heap.size + 1) hb4 (by omega)))
      have HC2 := hide (WriteString_any (w.heap.size + 1) _ ⟨dd.toArray⟩ w4 (HB3.out.below hb4) (by rw [List.length_append, Lib.byteCells_length, Lib.strCells_length]; show _ + 1 + dd.toArray.size ≤ _; rw [List.size_toArray]; omega))
      clear hb4 hw4 HIT
      go_wp2_with fail
      refine HC2.out.mono ?_
      rintro e w5 ⟨rfl, hbl5, hk5⟩
      have HK5 := hide (HK4.out.trans hk5)
      have HB5 : Hid (Bld (w.heap.size + 1) (Lib.byteCells (cat s (ns.take (k + 1)))) w5) := by
        show Bld _ _ _
        rw [HCS.out, Lib.byteCells_append, Lib.byteCells_append, ← List.append_assoc]
        exact hbl5
      clear hbl5 hk5 HC2
      go_wp2_with fail
      go_roundw
      case rel => exact ⟨k + 1, by omega, by go_num, HB5.out, HK5.out⟩
      case measure => simp [intOf]; omega
    · have hkn : k = n := by omega
      subst hkn
      have htk : ns.take k = ns := List.take_of_length_le (by rw [HN.out]; exact Nat.le_refl _)
      rw [htk] at HBr hlenr
      have hlast : Below (w.heap.size + 1) w2 wr.drew := ⟨HKr.out.1.os, HKr.out.1.tape, HKr.out.1.output, HKr.out.1.size, HKr.out.1.block⟩
      have cx : wr.cell? ⟨w.heap.size, 0, none⟩ = some (.map (some mb)) := (HKr.out.1.cell (p := ⟨w.heap.size, 0, none⟩) (by simp)).trans HX2.out
      have HST := hide (Tryz.Builder_String_any (w.heap.size + 1) (w.heap.size + 1) (cat s ns) wr.drew HBr.out (by show _ ≤ wr.heap.size; omega))
      have HGO : Hid (∀ w6, Below (w.heap.size + 1) wr.drew w6 → w6.cell? ⟨w.heap.size, 0, none⟩ = some (.map (some mb)) ∧ w.grownBy w6 (some mb) ∧ Tbl mb tb w6) := by
        intro w6 h6
        have hbw : Below w.heap.size w w6 := HB2.out.trans ((hlast.trans h6).mono (by omega))
        exact ⟨(h6.cell (p := ⟨w.heap.size, 0, none⟩) (by simp)).trans cx, ⟨hbw.os, hbw.tape, hbw.output, hbw.size, fun k hk _ => hbw.block k hk⟩, HT.out.kept (row := none) ⟨hbw.os, hbw.tape, hbw.output, hbw.size, fun k hk _ => hbw.block k hk⟩ (by simp)⟩
      have HSZ : Hid ((cat s ns).length ≤ maxLen) := by show _ ≤ _; unfold maxLen; omega
      clear hlast
      go_wp2_with fail
      go_region_with (first | (go_at_call 54; refine HST.out.mono ?_; rintro e w6 ⟨rfl, hb6⟩; have c6 := (HGO.out w6 hb6).1) | (go_at_call 67; refine (number_any mb tb (cat s ns) _ (HGO.out _ hb6).2.2 hl HSZ.out).mono ?_; rintro e w7 ⟨iN, more, rfl, hq1, hq2, hq3, hq4⟩))
      all_goals go_wp2_with fail
      all_goals go_ret
      all_goals exact ⟨iN, more, rfl, hq1, hq2, hq3, (HGO.out _ hb6).2.1.trans hq4⟩
end
end Go.Proofs.YtpidknogiiclfaaGreatDoor
