/-
  The table of numbers in memory, and the walk of number: a text's number in it. The walk of numberOf: the number of a sign ahead of parts that are told by theirs. What was made tidy, in memory; the walk of leaf. The gathering of a list's parts, in memory: the struct 'gathered', the row of its parts, the set of their numbers; what stays while it turns.
-/
import Derived.Test.YtdlcelbbelcfkaaGreatDoorScMathAll
import Derived.Test.YtdlcelbbelcfkaaGreatDoorTxLeafAll
import Derived.Maps.OwnSet
import Derived.Maps.OwnOps
import Derived.WalkMore
import Derived.Test.YtdlcelbbelcfkaaGreatDoorShelf
import Derived.Lib.LaidTab
import Derived.Lib.ItoaMem
import Derived.Test.YtdlcelbbelcfkaaGreatDoorTxList
namespace Go.Proofs.YtdlcelbbelcfkaaGreatDoor
section
section
open Go.RowKit Go.Maps
theorem keyStr (s : List UInt8) (h : s.length ≤ maxLen) : keyOf Tryz.prog 9 (.string ⟨s.toArray⟩) = some (.string s) := by
  have := Go.WideMaps.keyOf_string_mk (P := Tryz.prog) (k := 9) Tryz.underlying9 (s := ⟨s.toArray⟩) (by show s.toArray.size ≤ maxLen; simpa using h)
  simpa using this
theorem keyed : Keyed Tryz.prog 9 := string_keyed Tryz.underlying9
/-- block mb is a map that has each text of the table at its place -/
structure Tbl (mb : Nat) (tb : List (List UInt8)) (w : World) : Prop where
  ex : ∃ D : DataW Unit, w.ownsMap Tryz.prog 9 (plainElem Tryz.prog 3) mb tb.length D ∧ (∀ s, Maps.has D (.string s) = decide (s ∈ tb)) ∧ (∀ (i : Nat) (s : List UInt8), tb[i]? = some s → ∀ z, D.atKey (.string s) z = .lit (.int .i64 (i : Int))) ∧ Maps.size D = tb.length
  nodup : tb.Nodup
theorem Tbl.lt {mb : Nat} {tb : List (List UInt8)} {w : World} (h : Tbl mb tb w) : mb < w.heap.size := by
  obtain ⟨D, h1, _⟩ := h.ex
  exact h1.lt
theorem Tbl.kept {mb : Nat} {tb : List (List UInt8)} {w w' : World} {row : Option Nat} (h : Tbl mb tb w) (hg : w.grownBy w' row) (hne : some mb ≠ row) : Tbl mb tb w' := by
  obtain ⟨D, h1, h2⟩ := h.ex
  exact ⟨⟨D, h1.kept hg hne, h2⟩, h.nodup⟩
/-- the table with one text more -/
theorem Tbl.put {mb : Nat} {tb : List (List UInt8)} {w w' : World} {s : List UInt8} {D : DataW Unit} (hn : tb.Nodup) (ho : w.ownsMap Tryz.prog 9 (plainElem Tryz.prog 3) mb tb.length D) (h1 : ∀ s, Maps.has D (.string s) = decide (s ∈ tb)) (h2 : ∀ (i : Nat) (s : List UInt8), tb[i]? = some s → ∀ z, D.atKey (.string s) z = .lit (.int .i64 (i : Int))) (h3 : Maps.size D = tb.length)
    (hs : s ∉ tb) (ho' : w'.ownsMap Tryz.prog 9 (plainElem Tryz.prog 3) mb (tb.length + 1) (D.put (.string s) (.lit (.int .i64 (tb.length : Int))))) : Tbl mb (tb ++ [s]) w' := by
  have hk : WideAt.IsKeyLit (.string s) := trivial
  have ht : Maps.Tidy D := ho.tidy keyed
  refine ⟨⟨_, by simpa using ho', ?_, ?_, ?_⟩, ?_⟩
  · intro r
    by_cases e : r = s
    · subst e; rw [Maps.has_put_same ht.isMap hk]; simp
    · rw [Maps.has_put_other (by simpa using e), h1]; simp [e]
  · intro i r hr z
    by_cases hi : i < tb.length
    · rw [List.getElem?_append_left hi] at hr
      have hne : r ≠ s := fun e => hs (e ▸ List.mem_of_getElem? hr)
      rw [Maps.atKey_put_other (by simpa using hne)]
      exact h2 i r hr z
    · rw [List.getElem?_append_right (by omega)] at hr
      have hi0 : i - tb.length = 0 := by
        by_cases h : i - tb.length = 0
        · exact h
        · rw [List.getElem?_eq_none (by simp; omega)] at hr; simp at hr
      rw [hi0] at hr
      simp only [List.getElem?_cons_zero, Option.some.injEq] at hr
      subst hr
      rw [Maps.atKey_put_same ht.isMap hk, show i = tb.length by omega]
  · rw [Maps.size_put ht, h1, if_neg (by simpa using hs), h3]; simp
  · rw [List.nodup_append]
    refine ⟨hn, by simp, ?_⟩
    intro a ha b hb
    simp only [List.mem_singleton] at hb
    subst hb
    intro e
    exact hs (e ▸ ha)
/-- number: the place of a text in the table, to which it is added if it isn't there -/
def Numbered (mb : Nat) (tb : List (List UInt8)) (s : List UInt8) (w : World) (e : Ending) (w' : World) : Prop :=
  ∃ (i : Nat) (more : List (List UInt8)), e = .returned (.int .i64 (i : Int)) ∧ Tbl mb (tb ++ more) w' ∧ (tb ++ more)[i]? = some s ∧ more.length ≤ 1 ∧ w.grownBy w' (some mb)
set_option maxHeartbeats 2000000 in
set_option maxRecDepth 100000 in
theorem number_any (mb : Nat) (tb : List (List UInt8)) (s : List UInt8) (w : World) (h : Tbl mb tb w) (hl : tb.length < 1000000) (hs : s.length ≤ maxLen) :
    Calls Tryz.prog 126 #[.agg #[.map (some mb)], .string ⟨s.toArray⟩] w (Numbered mb tb s w) := by
  obtain ⟨D, ho, h1, h2, h3⟩ := h.ex
  have hn := h.nodup
  obtain ⟨w1, hw1⟩ : ∃ w1, w1 = w.alloc (.cells #[.map (some mb)] 127) := ⟨_, rfl⟩
  have ho1 : w1.ownsMap Tryz.prog 9 (plainElem Tryz.prog 3) mb tb.length D := by rw [hw1]; exact ho.alloc _
  have zero : (zeroValue 3).run Tryz.prog w1 = .ok (.int .i64 0) w1 := by kernel_rfl
  obtain ⟨v, ps, hrun, hv⟩ := ho1.look_ok keyed Tryz.underlying125 zero (plainElem_int Tryz.underlying3 (by decide)) (keyStr s hs)
  obtain ⟨c, rfl, hc, _⟩ := plainElem_int_inv Tryz.underlying3 hv
  rw [h1] at hrun
  have HO1 := hide ho1
  have HG1 : Hid (w.grownBy w1 (some mb)) := by show World.grownBy _ _ _; rw [hw1]; exact World.grownBy_alloc _ _ _
  have HH := hide h
  have H1 := hide h1
  have H2 := hide h2
  have H3 := hide h3
  have HN := hide hn
  by_cases hin : s ∈ tb
  · rw [decide_eq_true hin] at hrun
    obtain ⟨i, hi, hsi⟩ := List.getElem_of_mem hin
    have hat := h2 i s (by rw [List.getElem?_eq_getElem hi, hsi]) (.lit (.int .i64 0))
    have hci : c = (i : Int) := by
      simp only [Prod.mk.injEq] at hc
      rw [hat] at hc
      simpa using hc.1.symm
    subst hci
    have HFIN : Hid (Numbered mb tb s w (.returned (.int .i64 (i : Int))) w1) := ⟨i, [], rfl, by rw [List.append_nil]; exact HH.out.kept (row := none) (by rw [hw1]; exact World.grownBy_alloc _ _ _) (by simp), by rw [List.append_nil, List.getElem?_eq_getElem hi, hsi], by simp, HG1.out⟩
    rw [hw1] at hrun HFIN
    clear ho ho1 h1 h2 h3 hn h hv hc hat hi hsi hin hw1 zero
    go_enter Tryz.func126, Tryz.ntmps126
    go_wp2_with fail
    go_ret
    exact HFIN.out
  · rw [decide_eq_false hin] at hrun
    have hc0 : c = 0 := by
      simp only [Prod.mk.injEq] at hc
      rw [Maps.atKey_of_not_has (by rw [h1]; exact decide_eq_false hin)] at hc
      simpa using hc.1.symm
    subst hc0
    have HIN := hide hin
    have hkey := keyStr s hs
    rw [hw1] at hrun ho1
    have HW1 := hide hw1
    rw [hw1] at HG1
    clear ho h1 h2 hn h hv hc hin hw1 zero HO1
    go_enter Tryz.func126, Tryz.ntmps126
    go_wp2_with (first | (at_len; refine wpList_len_own _ rfl _ 125 rfl 9 3 Tryz.underlying125 _ mb tb.length D rfl ho1 ?_; rw [h3]) | (at_mapUpdate; refine wpList_mapUpdate_own _ rfl _ _ _ 125 rfl 9 3 keyed Tryz.underlying125 _ mb tb.length D rfl ho1 (by unfold maxLen; omega) _ _ _ rfl rfl hkey _ [] (plainElem_int Tryz.underlying3 (WalkArith.wf_i64 (by omega))) ?_; intro w2 ho2 hg2))
    go_ret
    have hput := Tbl.put HN.out ho1 H1.out H2.out H3.out HIN.out ho2
    exact ⟨tb.length, [s], rfl, hput, by simp, by simp, HG1.out.trans hg2⟩
end
section
open Go.RowKit Go.Maps
open Go.Lib (decDigits)
/-- the table of powers that strconv.Itoa reads -/
def Pow (w : World) : Prop := Lib.TabIs Tryz.prog w "internal/strconv.uint64pow10" .u64 Lib.pow10Tab
theorem gPow : Tryz.prog.globalNamed "internal/strconv.uint64pow10" = some 9 := by kernel_rfl
theorem Pow.block {w w' : World} (h : Pow w) (hb : w'.heap[9]? = w.heap[9]?) : Pow w' := by
  unfold Pow Lib.TabIs World.var? at *
  rw [gPow] at *
  simp only [Option.bind_some] at *
  rw [hb]
  exact h
theorem Pow.lt {w : World} (h : Pow w) : 9 < w.heap.size := by
  have := Lib.TabIs.cell h gPow 0 (by decide)
  exact World.block_lt_of_cell? _ _ this
theorem dec_len (u : Nat) : (decDigits u).length ≤ u + 1 := by
  induction u using Nat.strongRecOn with
  | ind u ih =>
    by_cases h : u < 10
    · rw [decDigits, dif_pos h]; simp
    · rw [decDigits, dif_neg h]
      have := ih (u / 10) (by omega)
      simp only [List.length_append, List.length_singleton]
      omega
/-- the numbers in a row of what was made tidy -/
def RowN (w : World) (g o : Nat) (ns : List Nat) : Prop := ∀ (i m : Nat), ns[i]? = some m → ∃ tu yu x y z, w.cell? ⟨g, o + i * 3, none⟩ = some (.iface tu yu) ∧ w.cell? ⟨g, o + i * 3 + 1, none⟩ = some (.int .i64 (m : Int)) ∧ w.cell? ⟨g, o + i * 3 + 2, none⟩ = some (.slice x y z)
theorem cat_snoc (s : UInt8) (ns : List Nat) (k : Nat) (h : k < ns.length) : cat s (ns.take (k + 1)) = cat s (ns.take k) ++ ([s] ++ decDigits ns[k]) := by
  unfold cat
  rw [List.take_succ_eq_append_getElem h, List.map_append, List.flatten_append]
  simp
theorem cat_len (s : UInt8) (ns : List Nat) (h : ∀ m, m ∈ ns → m ≤ 1000000) : (cat s ns).length ≤ 1000002 * ns.length := by
  induction ns with
  | nil => simp [cat]
  | cons a r ih =>
    have h1 := ih fun m hm => h m (by simp [hm])
    have h2 := dec_len a
    have h3 := h a (by simp)
    rw [cat_cons]
    simp only [List.length_cons, List.length_append]
    omega
theorem below_grow (w : World) (k : Nat) (os : Array Obj) : Below w.heap.size w (Go.Sort.grow (w.drewN k) os) := by
  refine ⟨rfl, rfl, rfl, by simp [Go.Sort.grow], fun j hj => ?_⟩
  show (w.heap ++ os)[j]? = _
  rw [Array.getElem?_append_left hj]
theorem RowN.below {w w' : World} {g o : Nat} {ns : List Nat} {B : Nat} (h : RowN w g o ns) (hb : Below B w w') (hg : g < B) : RowN w' g o ns := by
  intro i m hi
  obtain ⟨tu, yu, x, y, z, h1, h2, h3⟩ := h i m hi
  exact ⟨tu, yu, x, y, z, (hb.cell (p := ⟨g, _, none⟩) hg).trans h1, (hb.cell (p := ⟨g, _, none⟩) hg).trans h2, (hb.cell (p := ⟨g, _, none⟩) hg).trans h3⟩
set_option maxHeartbeats 4000000 in
set_option maxRecDepth 100000 in
theorem numberOf_any (mb : Nat) (tb : List (List UInt8)) (s : UInt8) (g o cap : Nat) (ns : List Nat) (w : World) (h : Tbl mb tb w) (hl : tb.length < 1000000) (hp : Pow w) (hr : RowN w g o ns) (hn : ns.length ≤ cap) (hn2 : ns.length ≤ 1000000) (hm : ∀ m, m ∈ ns → m ≤ 1000000) (hg : g < w.heap.size) :
    Calls Tryz.prog 123 #[.agg #[.map (some mb)], .string ⟨#[s]⟩, .slice (some ⟨g, o, none⟩) ns.length cap] w (Numbered mb tb (cat s ns) w) := by
  have HT := hide h
  have HP := hide hp
  have HR := hide hr
  have HM := hide hm
  generalize hnn : ns.length = n at *
  have HN := hide hnn
  clear h hp hr hm hnn
  obtain ⟨w2, hw2⟩ : ∃ w2, w2 = (w.alloc (.cells #[.map (some mb)] 127)).alloc (.cells #[.pointer none, .slice none 0 0] 78) := ⟨_, rfl⟩
  have hs2 : w2.heap.size = w.heap.size + 1 + 1 := by rw [hw2]; simp
  have hb2 : Below w.heap.size w w2 := by rw [hw2]; exact ((Below.refl _ _).alloc (Nat.le_refl _) _).alloc (by simp) _
  have hB2 : Bld (w.heap.size + 1) (Lib.byteCells []) w2 := by
    have := Lib.fresh_isBuilder 78 5 (w.alloc (.cells #[.map (some mb)] 127))
    rw [World.size_alloc] at this
    rw [hw2]; exact this
  have hx2 : w2.cell? ⟨w.heap.size, 0, none⟩ = some (.map (some mb)) := by
    rw [hw2, World.cell?_alloc_lt _ _ ⟨w.heap.size, 0, none⟩ (by simp)]; simp
  have HB2 := hide hb2
  have HBL := hide hB2
  have HX2 := hide hx2
  have HW2 := hide hw2
  have HS2 := hide hs2
  clear hb2 hB2 hx2 hw2 hs2
  go_enter Tryz.func123, Tryz.ntmps123
  go_wp2_with fail
  rw [← HW2.out]
  go_loopw [12] (fun i wr => ∃ k : Nat, k ≤ n ∧ i = .int .i64 (k : Int) ∧ Hid (Bld (w.heap.size + 1) (Lib.byteCells (cat s (ns.take k))) wr) ∧ Hid (Kb (w.heap.size + 1) w2 wr)) (fun i _ => n - (intOf i).toNat)
  case atStart => exact ⟨0, Nat.zero_le _, rfl, HBL.out, Kb.refl _ _⟩
  case round =>
    obtain ⟨k, hk, rfl, HBr, HKr⟩ := hrel
    have hszr := HKr.out.1.size
    rw [HS2.out] at hszr
    have hlenr : (cat s (ns.take k)).length ≤ 1000002 * 1000000 := by
      have h1 := cat_len s (ns.take k) fun m hm => HM.out m (List.mem_of_mem_take hm)
      have h2 : (ns.take k).length ≤ 1000000 := by rw [List.length_take]; omega
      exact Nat.le_trans h1 (Nat.mul_le_mul_left _ h2)
    by_cases hlt : k < n
    · have hkl : k < ns.length := by rw [HN.out]; exact hlt
      obtain ⟨tu, yu, x, y, z, e1, e2, e3⟩ := (HR.out.below HB2.out hg) k ns[k] (List.getElem?_eq_getElem hkl)
      have e1' := (HKr.out.1.cell (p := ⟨g, o + k * 3, none⟩) (by show g < _; omega)).trans e1
      have e2' := (HKr.out.1.cell (p := ⟨g, o + k * 3 + 1, none⟩) (by show g < _; omega)).trans e2
      have e3' := (HKr.out.1.cell (p := ⟨g, o + k * 3 + 2, none⟩) (by show g < _; omega)).trans e3
      have HCS := hide (cat_snoc s ns k hkl)
      have hmk := HM.out ns[k] (List.getElem_mem hkl)
      clear e1 e2 e3
      generalize ns[k] = m at *
      have hba : Below wr.heap.size wr (wr.alloc (.cells #[.iface tu yu, .int .i64 (m : Int), .slice x y z] 130)) := (Below.refl _ _).alloc (Nat.le_refl _) _
      have HKa := hide (HKr.out.trans (Kb.of_below (b := w.heap.size + 1) hba (by omega)))
      have HC1 := hide (WriteString_any (w.heap.size + 1) _ ⟨#[s]⟩ _ (HBr.out.below hba) (by rw [Lib.byteCells_length]; show _ + 1 ≤ _; omega))
      have HNEW := hide (heap_alloc_new wr (.cells #[.iface tu yu, .int .i64 (m : Int), .slice x y z] 130))
      clear hba
      go_wp2_with fail
      refine HC1.out.mono ?_
      rintro e w3 ⟨rfl, hbl3, hk3⟩
      have hnew3 := hk3.cell HNEW.out (by omega) (by decide)
      have f1 : w3.cell? ⟨wr.heap.size, 1, none⟩ = some (.int .i64 (m : Int)) := by rw [Lib.cell_of_heap hnew3]; rfl
      have HK3 := hide (HKa.out.trans hk3)
      have HB3 := hide hbl3
      have hp3 : Pow w3 := (HP.out.block (HB2.out.block _ HP.out.lt)).block (HK3.out.1.block _ (by have := HP.out.lt; omega))
      have HIT := hide (Tryz.strconv_Itoa (m : Int) (by omega) (by omega) w3 hp3)
      have hit : Lib.itoa (m : Int) = decDigits m := Lib.itoa_nonneg m
      rw [hit] at HIT
      have hdl := dec_len m
      clear hbl3 hk3 hnew3 hp3 hit HC1
      generalize hdd : decDigits m = dd at *
      have HDD := hide hdd
      clear hdd
      go_wp2_with fail
      refine HIT.out.mono ?_
      rintro e w4 ⟨rfl, kk, os, hw4⟩
      have hb4 : Below w3.heap.size w3 w4 := by rw [hw4]; exact below_grow _ _ _
      have hlt3 := HB3.out.lt
      have HK4 := hide (HK3.out.trans (Kb.of_below (b := w.heap.size + 1) hb4 (by omega)))
      have HC2 := hide (WriteString_any (w.heap.size + 1) _ ⟨dd.toArray⟩ w4 (HB3.out.below hb4) (by rw [List.length_append, Lib.byteCells_length, Lib.strCells_length]; show _ + 1 + dd.toArray.size ≤ _; rw [List.size_toArray]; omega))
      clear hb4 hw4 HIT
      go_wp2_with fail
      refine HC2.out.mono ?_
      rintro e w5 ⟨rfl, hbl5, hk5⟩
      have HK5 := hide (HK4.out.trans hk5)
      have HB5 : Hid (Bld (w.heap.size + 1) (Lib.byteCells (cat s (ns.take (k + 1)))) w5) := by
        show Bld _ _ _
        rw [HCS.out, Lib.byteCells_append, Lib.byteCells_append, ← List.append_assoc]
        exact hbl5
      clear hbl5 hk5 HC2
      go_wp2_with fail
      go_roundw
      case rel => exact ⟨k + 1, by omega, by go_num, HB5.out, HK5.out⟩
      case measure => simp [intOf]; omega
    · have hkn : k = n := by omega
      subst hkn
      have htk : ns.take k = ns := List.take_of_length_le (by rw [HN.out]; exact Nat.le_refl _)
      rw [htk] at HBr hlenr
      have hlast : Below (w.heap.size + 1) w2 wr.drew := ⟨HKr.out.1.os, HKr.out.1.tape, HKr.out.1.output, HKr.out.1.size, HKr.out.1.block⟩
      have cx : wr.cell? ⟨w.heap.size, 0, none⟩ = some (.map (some mb)) := (HKr.out.1.cell (p := ⟨w.heap.size, 0, none⟩) (by simp)).trans HX2.out
      have HST := hide (Tryz.Builder_String_any (w.heap.size + 1) (w.heap.size + 1) (cat s ns) wr.drew HBr.out (by show _ ≤ wr.heap.size; omega))
      have HGO : Hid (∀ w6, Below (w.heap.size + 1) wr.drew w6 → w6.cell? ⟨w.heap.size, 0, none⟩ = some (.map (some mb)) ∧ w.grownBy w6 (some mb) ∧ Tbl mb tb w6) := by
        intro w6 h6
        have hbw : Below w.heap.size w w6 := HB2.out.trans ((hlast.trans h6).mono (by omega))
        exact ⟨(h6.cell (p := ⟨w.heap.size, 0, none⟩) (by simp)).trans cx, ⟨hbw.os, hbw.tape, hbw.output, hbw.size, fun k hk _ => hbw.block k hk⟩, HT.out.kept (row := none) ⟨hbw.os, hbw.tape, hbw.output, hbw.size, fun k hk _ => hbw.block k hk⟩ (by simp)⟩
      have HSZ : Hid ((cat s ns).length ≤ maxLen) := by show _ ≤ _; unfold maxLen; omega
      clear hlast
      go_wp2_with fail
      go_region_with (first | (go_at_call 27; refine HST.out.mono ?_; rintro e w6 ⟨rfl, hb6⟩; have c6 := (HGO.out w6 hb6).1) | (go_at_call 126; refine (number_any mb tb (cat s ns) _ (HGO.out _ hb6).2.2 hl HSZ.out).mono ?_; rintro e w7 ⟨iN, more, rfl, hq1, hq2, hq3, hq4⟩))
      all_goals go_wp2_with fail
      all_goals go_ret
      all_goals exact ⟨iN, more, rfl, hq1, hq2, hq3, (HGO.out _ hb6).2.1.trans hq4⟩
end
end
section
open Go.RowKit Go.Maps
/-- what 'tidied' holds: the expression, its number, its parts (three cells each) -/
def IsTv (ok : Nat → Prop) (tb : List (List UInt8)) (w : World) : Ex → Value → Nat → Value → Prop
  | ⟨k, nm, l⟩ => fun v n pv => IsEx ok w ⟨k, nm, l⟩ v ∧ Ex.Num tb ⟨k, nm, l⟩ n ∧ ((k ≤ 4 ∧ pv = .slice none 0 0) ∨ (5 ≤ k ∧ ∃ g o cap, pv = .slice (some ⟨g, o, none⟩) l.length cap ∧ l.length ≤ cap ∧ ok g ∧
    ∀ (i : Nat) (Q : Value → Nat → Value → Prop), (l.map fun y => IsTv ok tb w y)[i]? = some Q → ∃ (u : Value) (m : Nat) (qv : Value), w.cell? ⟨g, o + i * 3, none⟩ = some u ∧ w.cell? ⟨g, o + i * 3 + 1, none⟩ = some (.int .i64 (m : Int)) ∧ w.cell? ⟨g, o + i * 3 + 2, none⟩ = some qv ∧ Q u m qv))
theorem IsTv.def (ok : Nat → Prop) (tb : List (List UInt8)) (w : World) (k : Nat) (nm : List UInt8) (l : List Ex) (v : Value) (n : Nat) (pv : Value) : IsTv ok tb w ⟨k, nm, l⟩ v n pv ↔ IsEx ok w ⟨k, nm, l⟩ v ∧ Ex.Num tb ⟨k, nm, l⟩ n ∧ ((k ≤ 4 ∧ pv = .slice none 0 0) ∨ (5 ≤ k ∧ ∃ g o cap, pv = .slice (some ⟨g, o, none⟩) l.length cap ∧ l.length ≤ cap ∧ ok g ∧
    ∀ (i : Nat) (y : Ex), l[i]? = some y → ∃ (u : Value) (m : Nat) (qv : Value), w.cell? ⟨g, o + i * 3, none⟩ = some u ∧ w.cell? ⟨g, o + i * 3 + 1, none⟩ = some (.int .i64 (m : Int)) ∧ w.cell? ⟨g, o + i * 3 + 2, none⟩ = some qv ∧ IsTv ok tb w y u m qv)) := by
  simp only [IsTv]
  constructor
  · rintro ⟨h1, h2, h3 | ⟨h4, g, o, cap, h5, h6, hg, h7⟩⟩
    · exact ⟨h1, h2, .inl h3⟩
    · exact ⟨h1, h2, .inr ⟨h4, g, o, cap, h5, h6, hg, fun i y hy => h7 i _ (by rw [List.getElem?_map, hy]; rfl)⟩⟩
  · rintro ⟨h1, h2, h3 | ⟨h4, g, o, cap, h5, h6, hg, h7⟩⟩
    · exact ⟨h1, h2, .inl h3⟩
    · refine ⟨h1, h2, .inr ⟨h4, g, o, cap, h5, h6, hg, fun i Q hQ => ?_⟩⟩
      rw [List.getElem?_map] at hQ
      cases hl : l[i]? with
      | none => rw [hl] at hQ; simp at hQ
      | some y =>
        rw [hl] at hQ
        simp only [Option.map_some, Option.some.injEq] at hQ
        rw [← hQ]
        exact h7 i y hl
/-- a cell that is read lies in no map: it stays -/
theorem cell_turned {mb : Nat} {tb : List (List UInt8)} {w w' : World} (ht : Tbl mb tb w) (hg : w.grownBy w' (some mb)) {p : Addr} {v : Value} (h : w.cell? p = some v) : w'.cell? p = some v := by
  have hlt : p.block < w.heap.size := World.block_lt_of_cell? _ _ h
  have hne : p.block ≠ mb := by
    intro e
    obtain ⟨D, ⟨es, clock, hb, _⟩, _⟩ := ht.ex
    rw [← e] at hb
    simp [World.cell?, hb] at h
  have hh := hg.block p.block hlt (by simpa using hne)
  unfold World.cell? at *
  rw [hh]
  exact h
/-- it stays where its cells do; its blocks may be told by a weaker word -/
theorem IsTv.stay {ok ok' : Nat → Prop} {tb : List (List UInt8)} {w w' : World} (more : List (List UInt8)) (hs : Stay ok w w') (hok : ∀ g, ok g → ok' g) (x : Ex) : ∀ v n pv, IsTv ok tb w x v n pv → IsTv ok' (tb ++ more) w' x v n pv := by
  induction x using Ex.ind with
  | h k nm l ih =>
    intro v n pv h
    rw [IsTv.def] at h ⊢
    obtain ⟨h1, h2, h3⟩ := h
    refine ⟨IsEx.stay hs hok _ v h1, Ex.Num.mono tb more _ n h2, ?_⟩
    rcases h3 with h3 | ⟨h4, g, o, cap, h5, h6, hg, h7⟩
    · exact .inl h3
    · refine .inr ⟨h4, g, o, cap, h5, h6, hok g hg, fun i y hy => ?_⟩
      obtain ⟨u, m, qv, c1, c2, c3, hq⟩ := h7 i y hy
      exact ⟨u, m, qv, hs g _ _ hg c1, hs g _ _ hg c2, hs g _ _ hg c3, ih y (List.mem_of_getElem? hy) u m qv hq⟩
theorem Stay.turned {mb : Nat} {tb : List (List UInt8)} {w w' : World} (ok : Nat → Prop) (ht : Tbl mb tb w) (hg : w.grownBy w' (some mb)) : Stay ok w w' := fun _ _ _ _ hc => cell_turned ht hg hc
theorem three_set {w : World} {b : Nat} {x0 x1 x2 : Value} {T : TypeId} (h : w.heap[b]? = some (.cells #[x0, x1, x2] T (0, 0))) (v0 v1 v2 : Value) :
    (((w.setCell ⟨b, 0, none⟩ v0).setCell ⟨b, 1, none⟩ v1).setCell ⟨b, 2, none⟩ v2).heap[b]? = some (.cells #[v0, v1, v2] T (0, 0)) := by
  simp [World.setCell, Array.getElem?_modify, h]
theorem three_kept (w : World) (b : Nat) (v0 v1 v2 : Value) : w.grownBy (((w.setCell ⟨b, 0, none⟩ v0).setCell ⟨b, 1, none⟩ v1).setCell ⟨b, 2, none⟩ v2) (some b) := by
  refine ⟨rfl, rfl, rfl, by simp [World.setCell], fun k _ hk => ?_⟩
  have hne : k ≠ b := fun e => hk (by rw [e])
  rw [Below.heap_setCell _ _ _ _ (by simpa using hne), Below.heap_setCell _ _ _ _ (by simpa using hne), Below.heap_setCell _ _ _ _ (by simpa using hne)]
/-- what a walk that makes tidy comes to: a 'tidied' of this expression; the table has grown; of what was there nothing but the table's map has turned -/
def Made (ok : Nat → Prop) (mb : Nat) (tb : List (List UInt8)) (c : Nat) (x : Ex) (w : World) (e : Ending) (w' : World) : Prop :=
  ∃ (v : Value) (n : Nat) (pv : Value) (more : List (List UInt8)), e = .returned (.agg #[v, .int .i64 (n : Int), pv]) ∧ IsTv (fun g => ok g ∨ w.heap.size ≤ g) (tb ++ more) w' x v n pv ∧ Tbl mb (tb ++ more) w' ∧ more.length ≤ c ∧ w.grownBy w' (some mb)
set_option maxHeartbeats 4000000 in
set_option maxRecDepth 100000 in
theorem leaf_any (ok : Nat → Prop) (mb : Nat) (tb : List (List UInt8)) (x : Ex) (v : Value) (w : World) (h : Tbl mb tb w) (hl : tb.length < 1000000) (hx : IsEx ok w x v) (hk : x.kind ≤ 4) (ho : x.of = []) (hlen : x.text.length ≤ 1000000) :
    Calls Tryz.prog 87 #[.agg #[.map (some mb)], v] w (Made ok mb tb 1 x w) := by
  obtain ⟨w2, hw2⟩ : ∃ w2, w2 = (w.alloc (.cells #[.map (some mb)] 127)).alloc (.cells #[.nilIface, .int .i64 0, .slice none 0 0] 130) := ⟨_, rfl⟩
  have hs2 : w2.heap.size = w.heap.size + 1 + 1 := by rw [hw2]; simp
  have hb2 : Below w.heap.size w w2 := by rw [hw2]; exact ((Below.refl _ _).alloc (Nat.le_refl _) _).alloc (by simp) _
  have hx2 : w2.cell? ⟨w.heap.size, 0, none⟩ = some (.map (some mb)) := by
    rw [hw2, World.cell?_alloc_lt _ _ ⟨w.heap.size, 0, none⟩ (by simp)]; simp
  have hr2 : w2.heap[w.heap.size + 1]? = some (.cells #[.nilIface, .int .i64 0, .slice none 0 0] 130 (0, 0)) := by
    have := heap_alloc_new (w.alloc (.cells #[.map (some mb)] 127)) (.cells #[.nilIface, .int .i64 0, .slice none 0 0] 130)
    rw [World.size_alloc] at this
    rw [hw2]; exact this
  have HB2 := hide hb2
  have HX2 := hide hx2
  have HR2 := hide hr2
  have HW2 := hide hw2
  have HS2 := hide hs2
  have HT := hide h
  have HXX := hide hx
  have HLEN := hide hlen
  obtain ⟨tu, yu, hiu⟩ := IsEx.iface x v hx
  subst hiu
  clear hb2 hx2 hr2 hw2 hs2 h hx hlen
  go_enter Tryz.func87, Tryz.ntmps87
  go_wp2_with fail
  rw [← HW2.out]
  have hbd : Below w2.heap.size w2 w2.drew := (Below.refl _ _).drew
  have cx : w2.cell? ⟨w.heap.size, 0, none⟩ = some (.map (some mb)) := HX2.out
  have HST := hide (Text_any _ x _ w2.drew (IsEx.stay (Stay.below hbd) (fun _ _ => trivial) x _ (IsEx.stay (Stay.below HB2.out) (fun _ _ => trivial) x _ HXX.out)) HLEN.out)
  have HGO : Hid (∀ w3, Below w2.heap.size w2.drew w3 → w3.cell? ⟨w.heap.size, 0, none⟩ = some (.map (some mb)) ∧ w.grownBy w3 (some mb) ∧ Tbl mb tb w3 ∧ w3.heap[w.heap.size + 1]? = some (.cells #[.nilIface, .int .i64 0, .slice none 0 0] 130 (0, 0))) := by
    intro w3 h3
    have h23 := hbd.trans h3
    have hbw : Below w.heap.size w w3 := HB2.out.trans (h23.mono HB2.out.size)
    exact ⟨(h23.cell (p := ⟨w.heap.size, 0, none⟩) (by rw [HS2.out]; simp; omega)).trans HX2.out, ⟨hbw.os, hbw.tape, hbw.output, hbw.size, fun k hk _ => hbw.block k hk⟩, HT.out.kept (row := none) ⟨hbw.os, hbw.tape, hbw.output, hbw.size, fun k hk _ => hbw.block k hk⟩ (by simp), (h23.block _ (by rw [HS2.out]; omega)).trans HR2.out⟩
  have HSZ : Hid (x.text.length ≤ maxLen) := by show _ ≤ _; have := HLEN.out; unfold maxLen; omega
  have hmb := HT.out.lt
  clear hbd
  go_region_with (first | (go_at_call 55; refine HST.out.mono ?_; rintro e w3 ⟨rfl, hb3⟩; have c3 := (HGO.out w3 hb3).1) | (go_at_call 126; refine (number_any mb tb x.text _ (HGO.out _ hb3).2.2.1 hl HSZ.out).mono ?_; rintro e w4 ⟨iN, more, rfl, hq1, hq2, hq3, hq4⟩; have hr4 := (hq4.block (w.heap.size + 1) (by have := (Array.getElem?_eq_some_iff.1 (HGO.out _ hb3).2.2.2).1; omega) (by simp; omega)).trans (HGO.out _ hb3).2.2.2; have d0 : w4.cell? ⟨w.heap.size + 1, 0, none⟩ = some .nilIface := (by rw [Lib.cell_of_heap hr4]; rfl); have d1 : w4.cell? ⟨w.heap.size + 1, 1, none⟩ = some (.int .i64 0) := (by rw [Lib.cell_of_heap hr4]; rfl); have d2 : w4.cell? ⟨w.heap.size + 1, 2, none⟩ = some (.slice none 0 0) := (by rw [Lib.cell_of_heap hr4]; rfl); have g0 := Lib.frozen_of_heap hr4 0; have g1 := Lib.frozen_of_heap hr4 1; have g2 := Lib.frozen_of_heap hr4 2))
  all_goals go_wp2_with fail
  all_goals
    obtain ⟨w5, hw5⟩ : ∃ w5, w5 = ((w4.setCell ⟨w.heap.size + 1, 0, none⟩ (.iface tu yu)).setCell ⟨w.heap.size + 1, 1, none⟩ (.int .i64 (iN : Int))).setCell ⟨w.heap.size + 1, 2, none⟩ (.slice none 0 0) := ⟨_, rfl⟩
    have hr5 := three_set hr4 (.iface tu yu) (.int .i64 (iN : Int)) (.slice none 0 0)
    have hg5 := three_kept w4 (w.heap.size + 1) (.iface tu yu) (.int .i64 (iN : Int)) (.slice none 0 0)
    rw [← hw5] at hr5 hg5
    rw [← hw5]
    have q0 : w5.cell? ⟨w.heap.size + 1, 0, none⟩ = some (.iface tu yu) := by rw [Lib.cell_of_heap hr5]; rfl
    have q1 : w5.cell? ⟨w.heap.size + 1, 1, none⟩ = some (.int .i64 (iN : Int)) := by rw [Lib.cell_of_heap hr5]; rfl
    have q2 : w5.cell? ⟨w.heap.size + 1, 2, none⟩ = some (.slice none 0 0) := by rw [Lib.cell_of_heap hr5]; rfl
    have hgw : w.grownBy w5 (some mb) := by
      have h4 := (HGO.out _ hb3).2.1.trans hq4
      exact ⟨hg5.os.trans h4.os, hg5.tape.trans h4.tape, hg5.output.trans h4.output, Nat.le_trans h4.size hg5.size, fun k hk hne => (hg5.block k (Nat.lt_of_lt_of_le hk h4.size) (by simp; omega)).trans (h4.block k hk hne)⟩
    refine bodyPost_ret_by (v := .agg #[.iface tu yu, .int .i64 (iN : Int), .slice none 0 0]) ?_ rfl ⟨_, iN, _, more, rfl, ?_, hq1.kept hg5 (by simp; omega), hq3, hgw⟩
    · simp [results, Tryz.results87, go_sem, q0, q1, q2]
    · obtain ⟨k, nm, l⟩ := x
      simp only at ho hk
      subst ho
      rw [IsTv.def]
      refine ⟨IsEx.stay (Stay.turned ok HT.out hgw) (fun _ h => .inl h) _ _ HXX.out, ?_, .inl ⟨hk, rfl⟩⟩
      rw [Ex.Num.def]
      refine ⟨[], rfl, by simp, ?_⟩
      rw [hq2]
      unfold Ex.code
      rw [if_pos hk]
end
section
open Go.RowKit Go.Maps
/-- the rows of what was made tidy lie in blocks that are there -/
theorem IsTv.lt {ok : Nat → Prop} {tb : List (List UInt8)} {w : World} (x : Ex) : ∀ v n pv, IsTv ok tb w x v n pv → IsTv (fun g => ok g ∧ g < w.heap.size) tb w x v n pv := by
  induction x using Ex.ind with
  | h k nm l ih =>
    intro v n pv h
    rw [IsTv.def] at h ⊢
    obtain ⟨h1, h2, h3⟩ := h
    refine ⟨IsEx.lt _ v h1, h2, ?_⟩
    rcases h3 with h3 | ⟨h4, g, o, cap, h5, h6, hg, h7⟩
    · exact .inl h3
    · have hl : 0 < l.length := by
        have h8 := IsEx.le7 _ v h1
        match k, h1 with
        | 5, h1 => simp only [IsEx] at h1; omega
        | 6, h1 => simp only [IsEx] at h1; have := h1.2.1; omega
        | 7, h1 => simp only [IsEx] at h1; have := h1.2.1; omega
        | 0, _ => omega
        | 1, _ => omega
        | 2, _ => omega
        | 3, _ => omega
        | 4, _ => omega
        | n + 8, _ => simp only at h8; omega
      have hgl : g < w.heap.size := by
        obtain ⟨u, m, qv, c1, _⟩ := h7 0 l[0] (List.getElem?_eq_getElem hl)
        exact World.block_lt_of_cell? _ _ c1
      refine .inr ⟨h4, g, o, cap, h5, h6, ⟨hg, hgl⟩, fun i y hy => ?_⟩
      obtain ⟨u, m, qv, c1, c2, c3, hq⟩ := h7 i y hy
      exact ⟨u, m, qv, c1, c2, c3, ih y (List.mem_of_getElem? hy) u m qv hq⟩
theorem IsTv.num {ok : Nat → Prop} {tb : List (List UInt8)} {w : World} {x : Ex} {v : Value} {n : Nat} {pv : Value} (h : IsTv ok tb w x v n pv) : Ex.Num tb x n := by
  obtain ⟨k, nm, l⟩ := x
  rw [IsTv.def] at h
  exact h.2.1
theorem IsTv.ex {ok : Nat → Prop} {tb : List (List UInt8)} {w : World} {x : Ex} {v : Value} {n : Nat} {pv : Value} (h : IsTv ok tb w x v n pv) : IsEx ok w x v := by
  obtain ⟨k, nm, l⟩ := x
  rw [IsTv.def] at h
  exact h.1
theorem IsTv.slice {ok : Nat → Prop} {tb : List (List UInt8)} {w : World} {x : Ex} {v : Value} {n : Nat} {pv : Value} (h : IsTv ok tb w x v n pv) : ∃ a b c, pv = .slice a b c := by
  obtain ⟨k, nm, l⟩ := x
  rw [IsTv.def] at h
  rcases h.2.2 with ⟨_, h⟩ | ⟨_, g, o, cap, h, _⟩
  · exact ⟨_, _, _, h⟩
  · exact ⟨_, _, _, h⟩
theorem num_lt {tb : List (List UInt8)} {x : Ex} {n : Nat} (h : Ex.Num tb x n) : n < tb.length := by
  obtain ⟨k, nm, l⟩ := x
  rw [Ex.Num.def] at h
  obtain ⟨ns, _, _, h3⟩ := h
  by_cases hn : n < tb.length
  · exact hn
  · rw [List.getElem?_eq_none (by omega)] at h3; simp at h3
/-- what was made tidy, three cells each -/
def tflat3 (ts : List (Value × Nat × Value)) : List Value := (ts.map fun t => [t.1, Value.int .i64 (t.2.1 : Int), t.2.2]).flatten
theorem flat3_len (ts : List (Value × Nat × Value)) : (tflat3 ts).length = ts.length * 3 := by
  induction ts with
  | nil => rfl
  | cons a r ih => simp only [tflat3, List.map_cons, List.flatten_cons, List.length_append, List.length_cons, List.length_nil] at *; omega
theorem flat3_snoc (ts : List (Value × Nat × Value)) (t : Value × Nat × Value) : tflat3 (ts ++ [t]) = tflat3 ts ++ [t.1, Value.int .i64 (t.2.1 : Int), t.2.2] := by simp [tflat3]
theorem flat3_get : ∀ (ts : List (Value × Nat × Value)) (i : Nat) (t : Value × Nat × Value), ts[i]? = some t → (tflat3 ts)[i * 3]? = some t.1 ∧ (tflat3 ts)[i * 3 + 1]? = some (.int .i64 (t.2.1 : Int)) ∧ (tflat3 ts)[i * 3 + 2]? = some t.2.2 := by
  intro ts
  induction ts with
  | nil => intro i t h; simp at h
  | cons a r ih =>
    intro i t h
    match i, h with
    | 0, h =>
      simp only [List.getElem?_cons_zero, Option.some.injEq] at h
      subst h
      exact ⟨rfl, rfl, rfl⟩
    | i + 1, h =>
      rw [List.getElem?_cons_succ] at h
      obtain ⟨h1, h2, h3⟩ := ih i t h
      have e : tflat3 (a :: r) = a.1 :: Value.int .i64 (a.2.1 : Int) :: a.2.2 :: tflat3 r := rfl
      rw [e, show (i + 1) * 3 = i * 3 + 1 + 1 + 1 by omega, show i * 3 + 1 + 1 + 1 + 1 = (i * 3 + 1) + 1 + 1 + 1 by omega, show i * 3 + 1 + 1 + 1 + 2 = (i * 3 + 2) + 1 + 1 + 1 by omega]
      simp only [List.getElem?_cons_succ]
      exact ⟨h1, h2, h3⟩
/-- which blocks the parts may lie in: those of what came in, and new ones, but not the row of the parts itself -/
def okp (ok : Nat → Prop) (C : Nat) (pv : Value) (g : Nat) : Prop := (ok g ∨ C ≤ g) ∧ some g ≠ pv.ownBlock
/-- the gathering -/
structure Gs (ok : Nat → Prop) (B C mb gb sb k : Nat) (tb : List (List UInt8)) (U : List Ex) (d : Bool) (pv : Value) (w : World) : Prop where
  tbl : Tbl mb tb w
  pow : Pow w
  powB : 9 < B
  mbB : mb < B
  gbB : B ≤ gb
  gbC : gb < C
  sbB : B ≤ sb
  sbC : sb < C
  ne : gb ≠ sb
  size : C ≤ w.heap.size
  okB : ∀ g, ok g → g < B
  cells : w.heap[gb]? = some (.cells #[.map (some mb), .bool (decide (k = 6)), pv, .map (some sb), .bool d] 203 (0, 0))
  rows : ∃ ts : List (Value × Nat × Value), ts.length = U.length ∧ w.ownsRow C 130 3 pv U.length (tflat3 ts) ∧ (∀ (i : Nat) (x : Ex) (t : Value × Nat × Value), U[i]? = some x → ts[i]? = some t → IsTv (okp ok C pv) tb w x t.1 t.2.1 t.2.2) ∧
    ∃ D : DataW Unit, w.ownsMap Tryz.prog 3 (unitElem (H := Unit)) sb U.length D ∧ ∀ m : Nat, Maps.has D (.int .i64 (m : Int)) = decide (m ∈ ts.map fun t => t.2.1)
  td : ∀ x, x ∈ U → Ex.Td x ∧ 2 ≤ x.kind ∧ x.kind ≠ k
/-- what stays while it turns -/
structure Gf (mb gb sb : Nat) (pv pv' : Value) (w w' : World) : Prop where
  os : w'.os = w.os
  tape : w'.tape = w.tape
  output : w'.output = w.output
  size : w.heap.size ≤ w'.heap.size
  block : ∀ g, g < w.heap.size → g ≠ mb → g ≠ gb → g ≠ sb → some g ≠ pv.ownBlock → w'.heap[g]? = w.heap[g]?
  lies : pv'.ownBlock = pv.ownBlock ∨ ∃ b, pv'.ownBlock = some b ∧ w.heap.size ≤ b
namespace Gf
variable {mb gb sb : Nat} {pv pv' pv'' : Value} {w w' w'' : World}
theorem refl (mb gb sb : Nat) (pv : Value) (w : World) : Gf mb gb sb pv pv w w := ⟨rfl, rfl, rfl, Nat.le_refl _, fun _ _ _ _ _ _ => rfl, .inl rfl⟩
theorem trans (h : Gf mb gb sb pv pv' w w') (k : Gf mb gb sb pv' pv'' w' w'') : Gf mb gb sb pv pv'' w w'' := by
  refine ⟨k.os.trans h.os, k.tape.trans h.tape, k.output.trans h.output, Nat.le_trans h.size k.size, fun g hg h1 h2 h3 h4 => ?_, ?_⟩
  · refine (k.block g (Nat.lt_of_lt_of_le hg h.size) h1 h2 h3 ?_).trans (h.block g hg h1 h2 h3 h4)
    rcases h.lies with e | ⟨b, e, hb⟩
    · rw [e]; exact h4
    · rw [e]; intro e2; simp only [Option.some.injEq] at e2; omega
  · rcases k.lies with e | ⟨b, e, hb⟩
    · rw [e]; exact h.lies
    · exact .inr ⟨b, e, Nat.le_trans h.size hb⟩
theorem grown (h : w.grownBy w' (some mb)) : Gf mb gb sb pv pv w w' := ⟨h.os, h.tape, h.output, h.size, fun g hg h1 _ _ _ => h.block g hg (by simpa using h1), .inl rfl⟩
theorem below (h : Below w.heap.size w w') : Gf mb gb sb pv pv w w' := ⟨h.os, h.tape, h.output, h.size, fun g hg _ _ _ _ => h.block g hg, .inl rfl⟩
end Gf
/-- a block that has cells is not the table's -/
theorem Tbl.ne {mb : Nat} {tb : List (List UInt8)} {w : World} (ht : Tbl mb tb w) {p : Addr} {v : Value} (h : w.cell? p = some v) : p.block ≠ mb := by
  intro e
  obtain ⟨D, ⟨es, clock, hb, _⟩, _⟩ := ht.ex
  rw [← e] at hb
  simp [World.cell?, hb] at h
theorem Pow.turned {mb : Nat} {tb : List (List UInt8)} {w w' : World} (hp : Pow w) (ht : Tbl mb tb w) (hg : w.grownBy w' (some mb)) : Pow w' := by
  have hc := Lib.TabIs.cell hp gPow 0 (by decide)
  have hne := ht.ne hc
  exact hp.block (hg.block _ hp.lt (by simpa using hne))
section
variable {ok : Nat → Prop} {B C mb gb sb k : Nat} {tb more : List (List UInt8)} {U : List Ex} {d : Bool} {pv pv' : Value} {w w' : World}
theorem Gs.stay (h : Gs ok B C mb gb sb k tb U d pv w) (hf : Gf mb gb sb pv pv' w w') : Stay (fun g => okp ok C pv g ∧ g < w.heap.size) w w' := by
  intro g i u hg hc
  obtain ⟨⟨h1, h2⟩, h3⟩ := hg
  have hne := h.tbl.ne hc
  have hgb : g ≠ gb ∧ g ≠ sb := by
    have e1 := h.gbB; have e2 := h.gbC; have e3 := h.sbB; have e4 := h.sbC
    rcases h1 with h1 | h1
    · have := h.okB g h1; omega
    · omega
  unfold World.cell? at *
  rw [hf.block g h3 hne hgb.1 hgb.2 h2]
  exact hc
theorem okp_turn (hf : Gf mb gb sb pv pv' w w') : ∀ g, okp ok C pv g ∧ g < w.heap.size → okp ok C pv' g := by
  rintro g ⟨⟨h1, h2⟩, h3⟩
  refine ⟨h1, ?_⟩
  rcases hf.lies with e | ⟨b, e, hb⟩
  · rw [e]; exact h2
  · rw [e]; intro e2; simp only [Option.some.injEq] at e2; omega
/-- what was made tidy stays, where the gathering turns -/
theorem Gs.keep (h : Gs ok B C mb gb sb k tb U d pv w) (hf : Gf mb gb sb pv pv' w w') (more : List (List UInt8)) {x : Ex} {v : Value} {n : Nat} {q : Value} (hx : IsTv (okp ok C pv) tb w x v n q) : IsTv (okp ok C pv') (tb ++ more) w' x v n q :=
  IsTv.stay more (h.stay hf) (okp_turn (ok := ok) (C := C) hf) x v n q (IsTv.lt x v n q hx)
/-- what came in stays -/
theorem Gs.input (h : Gs ok B C mb gb sb k tb U d pv w) (hf : Gf mb gb sb pv pv' w w') : Stay ok w w' := by
  intro g i u hg hc
  refine h.stay hf g i u ⟨⟨.inl hg, ?_⟩, World.block_lt_of_cell? _ _ hc⟩ hc
  obtain ⟨ts, _, ho, _⟩ := h.rows
  intro e
  have h1 := (ho.lt g e.symm).1
  have h2 := h.okB g hg
  have h3 := h.gbB
  have h4 := h.gbC
  omega
theorem Gs.grown (h : Gs ok B C mb gb sb k tb U d pv w) (hg : w.grownBy w' (some mb)) (ht : Tbl mb (tb ++ more) w') : Gs ok B C mb gb sb k (tb ++ more) U d pv w' := by
  have e1 := h.gbB; have e2 := h.gbC; have e3 := h.sbB; have e4 := h.sbC; have e5 := h.mbB; have e6 := h.size
  have hf : Gf mb gb sb pv pv w w' := Gf.grown hg
  obtain ⟨ts, hl, ho, hx, D, hD, hm⟩ := h.rows
  refine ⟨ht, h.pow.turned h.tbl hg, h.powB, h.mbB, h.gbB, h.gbC, h.sbB, h.sbC, h.ne, Nat.le_trans h.size hg.size, h.okB, (hg.block gb (by omega) (by simp; omega)).trans h.cells, ⟨ts, hl, ?_, fun i x t hi ht => h.keep hf more (hx i x t hi ht), D, hD.kept hg (by simp; omega), hm⟩, h.td⟩
  refine ho.kept hg ?_
  cases hv : pv.ownBlock with
  | none => exact .inl rfl
  | some b => right; intro e; simp only [Option.some.injEq] at e; have := (ho.lt b hv).1; omega
theorem Gs.c0 (h : Gs ok B C mb gb sb k tb U d pv w) : w.cell? ⟨gb, 0, none⟩ = some (.map (some mb)) := by rw [Lib.cell_of_heap h.cells]; rfl
theorem Gs.c1 (h : Gs ok B C mb gb sb k tb U d pv w) : w.cell? ⟨gb, 1, none⟩ = some (.bool (decide (k = 6))) := by rw [Lib.cell_of_heap h.cells]; rfl
theorem Gs.c2 (h : Gs ok B C mb gb sb k tb U d pv w) : w.cell? ⟨gb, 2, none⟩ = some pv := by rw [Lib.cell_of_heap h.cells]; rfl
theorem Gs.c3 (h : Gs ok B C mb gb sb k tb U d pv w) : w.cell? ⟨gb, 3, none⟩ = some (.map (some sb)) := by rw [Lib.cell_of_heap h.cells]; rfl
theorem Gs.c4 (h : Gs ok B C mb gb sb k tb U d pv w) : w.cell? ⟨gb, 4, none⟩ = some (.bool d) := by rw [Lib.cell_of_heap h.cells]; rfl
theorem five_set4 {w : World} {b : Nat} {x0 x1 x2 x3 x4 : Value} {T : TypeId} (h : w.heap[b]? = some (.cells #[x0, x1, x2, x3, x4] T (0, 0))) (v : Value) : (w.setCell ⟨b, 4, none⟩ v).heap[b]? = some (.cells #[x0, x1, x2, x3, v] T (0, 0)) := by
  simp [World.setCell, Array.getElem?_modify, h]
theorem five_set2 {w : World} {b : Nat} {x0 x1 x2 x3 x4 : Value} {T : TypeId} (h : w.heap[b]? = some (.cells #[x0, x1, x2, x3, x4] T (0, 0))) (v : Value) : (w.setCell ⟨b, 2, none⟩ v).heap[b]? = some (.cells #[x0, x1, v, x3, x4] T (0, 0)) := by
  simp [World.setCell, Array.getElem?_modify, h]
theorem Gf.set (mb gb sb : Nat) (pv : Value) (w : World) (j : Nat) (v : Value) : Gf mb gb sb pv pv w (w.setCell ⟨gb, j, none⟩ v) :=
  ⟨rfl, rfl, rfl, by simp [World.setCell], fun g _ _ h2 _ _ => Below.heap_setCell _ _ _ _ (by simpa using h2), .inl rfl⟩
/-- it is decided, or not -/
theorem Gs.decide (h : Gs ok B C mb gb sb k tb U d pv w) (d' : Bool) : Gs ok B C mb gb sb k tb U d' pv (w.setCell ⟨gb, 4, none⟩ (.bool d')) := by
  have e1 := h.gbB; have e2 := h.gbC; have e3 := h.sbB; have e4 := h.sbC; have e5 := h.mbB; have e6 := h.size; have e7 := h.powB; have e8 := h.ne
  have hf : Gf mb gb sb pv pv w (w.setCell ⟨gb, 4, none⟩ (.bool d')) := Gf.set mb gb sb pv w 4 _
  have hb : ∀ g, g ≠ gb → (w.setCell ⟨gb, 4, none⟩ (.bool d')).heap[g]? = w.heap[g]? := fun g hg => Below.heap_setCell _ _ _ _ (by simpa using hg)
  have hg : w.grownBy (w.setCell ⟨gb, 4, none⟩ (.bool d')) (some gb) := ⟨rfl, rfl, rfl, by simp [World.setCell], fun g _ hne => hb g (by simpa using hne)⟩
  obtain ⟨ts, hl, ho, hx, D, hD, hm⟩ := h.rows
  refine ⟨h.tbl.kept hg (by simp; omega), h.pow.block (hb _ (by omega)), h.powB, h.mbB, h.gbB, h.gbC, h.sbB, h.sbC, h.ne, by simpa [World.setCell] using h.size, h.okB, five_set4 h.cells _, ⟨ts, hl, ?_, fun i x t hi ht => ?_, D, hD.kept hg (by simp; omega), hm⟩, h.td⟩
  · refine ho.kept hg ?_
    cases hv : pv.ownBlock with
    | none => exact .inl rfl
    | some b => right; intro e; simp only [Option.some.injEq] at e; have := (ho.lt b hv).1; omega
  · have := h.keep hf [] (hx i x t hi ht)
    rwa [List.append_nil] at this
/-- a part is there just if its number is -/
theorem Gs.there (h : Gs ok B C mb gb sb k tb U d pv w) {ts : List (Value × Nat × Value)} (hl : ts.length = U.length) (hx : ∀ (i : Nat) (x : Ex) (t : Value × Nat × Value), U[i]? = some x → ts[i]? = some t → IsTv (okp ok C pv) tb w x t.1 t.2.1 t.2.2) {y : Ex} {m : Nat} (hy : Ex.Td y) (hm : Ex.Num tb y m) : m ∈ (ts.map fun t => t.2.1) ↔ y ∈ U := by
  constructor
  · intro hin
    obtain ⟨t, ht, e⟩ := List.mem_map.1 hin
    obtain ⟨i, hi, hti⟩ := List.getElem_of_mem ht
    have hiU : i < U.length := by omega
    have hq := hx i U[i] t (List.getElem?_eq_getElem hiU) (by rw [List.getElem?_eq_getElem hi, hti])
    have hn := hq.num
    rw [e] at hn
    have := Ex.Num.inj tb y U[i] m (Ex.Td.wf y hy) (Ex.Td.wf _ (h.td _ (List.getElem_mem hiU)).1) hm hn
    rw [this]
    exact List.getElem_mem hiU
  · intro hin
    obtain ⟨i, hi, hyi⟩ := List.getElem_of_mem hin
    have hit : i < ts.length := by omega
    have hq := hx i U[i] ts[i] (List.getElem?_eq_getElem hi) (List.getElem?_eq_getElem hit)
    have hn := hq.num
    rw [hyi] at hn
    have := Ex.Num.one tb h.tbl.nodup y _ _ hm hn
    rw [this]
    exact List.mem_map.2 ⟨ts[i], List.getElem_mem hit, rfl⟩
end
end
end Go.Proofs.YtdlcelbbelcfkaaGreatDoor
