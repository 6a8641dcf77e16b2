/-
  The walk of CoverShows: each pair shows its name; a name without a pair never makes a difference.
-/
import Derived.Test.YtbimjhgngohhoaaCvShow
import Derived.Test.YtbimjhgngohhoaaCvCov
import Derived.Test.YtbimjhgngohhoaaRtBound
import Derived.BigQuiet
namespace Go.Proofs.Ytbimjhgngohhoaa
namespace Cv
open Go.RowKit
theorem andnot_pow (u k : Nat) (hu : u < 18446744073709551616) (hk : k < 8) : ∃ a : Nat, bits BinOp.andNot .u64 (u : Int) ((2 ^ k : Nat) : Int) = (a : Int) ∧ ∀ i, i < 64 → a.testBit i = (u.testBit i && !decide (i = k)) := by
  have h2 : 2 ^ k ≤ 2 ^ 7 := Nat.pow_le_pow_right (by decide) (by omega)
  have e1 : (BitVec.ofInt 64 (u : Int)).toNat = u := by
    rw [BitVec.ofInt_natCast, BitVec.toNat_ofNat]; exact Nat.mod_eq_of_lt (by omega)
  have e2 : BitVec.ofInt 64 ((2 ^ k : Nat) : Int) = BitVec.twoPow 64 k := by
    rw [BitVec.ofInt_natCast]
    apply BitVec.eq_of_toNat_eq
    rw [BitVec.toNat_ofNat, BitVec.toNat_twoPow]
  refine ⟨(BitVec.ofInt 64 (u : Int) &&& ~~~BitVec.twoPow 64 k).toNat, ?_, fun i hi => ?_⟩
  · show IntKind.u64.wrap ((BitVec.ofInt 64 (u : Int) &&& ~~~BitVec.ofInt 64 ((2 ^ k : Nat) : Int)).toNat : Int) = _
    rw [e2, IntKind.wrap_u64]
    have := (BitVec.ofInt 64 (u : Int) &&& ~~~BitVec.twoPow 64 k).isLt
    omega
  · rw [BitVec.testBit_toNat, BitVec.getLsbD_and, BitVec.getLsbD_not, ← BitVec.testBit_toNat, e1, BitVec.getLsbD_twoPow]
    simp [hi]
    by_cases e : i = k
    · subst e; simp [hi]
    · have e' : ¬ k = i := fun h => e h.symm
      simp [e, e']
theorem or_test (u k : Nat) (i : Nat) : (u ||| 2 ^ k).testBit i = (u.testBit i || decide (i = k)) := by
  rw [Nat.testBit_or, Nat.testBit_two_pow]
  by_cases e : i = k
  · subst e; simp
  · have e' : ¬ k = i := fun h => e h.symm
    simp [e, e']
theorem pairs_has (says : Nat → Bool) (ns : List (List UInt8)) (m k v : Nat) (hk : k < m) (hkn : k < ns.length) (h : least says ns.length k = some v) : (pairsTo says ns m).any (fun p => decide (p.k = k)) = true := by
  rw [List.any_eq_true]
  refine ⟨⟨ns[k], v, k⟩, ?_, by simp⟩
  unfold pairsTo
  rw [List.mem_filterMap]
  exact ⟨k, List.mem_range.2 hk, by rw [h]; simp [hkn]⟩
theorem drewN_low {B : Nat} {w w' : World} (h : Below B w w') (n : Nat) : Below B w (w'.drewN n) := ⟨h.os, h.tape, h.output, h.size, h.block⟩
theorem pow_wrapu (k : Nat) (hk : k < 8) : IntKind.u64.wrap ((2 : Int) ^ k) = ((2 ^ k : Nat) : Int) := by
  have h : ∀ n : Fin 9, IntKind.u64.wrap ((2 : Int) ^ n.1) = ((2 ^ n.1 : Nat) : Int) := by decide +kernel
  exact h ⟨k, by omega⟩
theorem pairsAt_slice {w : World} {sv : Value} {l : List Pr} (h : PairsAt w sv l) : ∃ a c, sv = .slice a l.length c ∧ l.length ≤ c := by
  rcases h with ⟨h0, h⟩ | ⟨g, c, h, h1, _⟩
  · exact ⟨none, 0, by rw [h, h0]; rfl, by rw [h0]; exact Nat.le_refl _⟩
  · exact ⟨_, _, h, h1⟩
set_option maxHeartbeats 8000000 in
set_option maxRecDepth 100000 in
theorem coverShows_any (s : ByteArray) (hs : s.size ≤ maxLen) (vals : Nat) (hvals : vals < 18446744073709551616) (wh : Int) (w : World) :
    Calls Try.prog 3 #[.string s, .int .u64 (vals : Int), .int .i64 wh] w fun e w' => e = .returned (.bool true) ∧ Below w.heap.size w w' := by
  have hmf : ∀ (fn : Fn) (first cap : Array Value) (w : World), (Instr.makeFunc fn first cap).run Try.prog w = .ok (.func fn first cap) w := fun _ _ _ _ => rfl
  have hs' := hs
  unfold maxLen at hs'
  by_cases q1 : 300 < s.size
  · have q1' : (300 : Int) < (s.size : Int) := by omega
    go_enter Try.func3, Try.ntmps3
    go_wp2_with fail
    go_ret
    exact ⟨rfl, Below.refl _ _⟩
  have q1' : ¬ (300 : Int) < (s.size : Int) := by omega
  have HP := hide (Parse_any s w hs)
  obtain ⟨T, hT⟩ : ∃ T, T = Ex.parse s.data.toList := ⟨_, rfl⟩
  have HT := hide hT
  rw [← hT] at HP
  clear hT q1
  go_enter Try.func3, Try.ntmps3
  go_wp2_with fail
  refine HP.out.mono ?_
  intro e w1 hq
  clear HP
  match T, hq, HT with
  | .inl (err, p), hq, _ =>
    obtain ⟨hb1, hq⟩ := hq
    have HB1 := hide hb1
    obtain ⟨t, y, he⟩ : ∃ t y, e = .returned (.tuple #[.nilIface, .iface t y]) := by
      match p, hq with
      | none, hq => exact ⟨_, _, hq⟩
      | some p, ⟨v, he, a, _, hv, _⟩ => exact ⟨_, _, by rw [he, hv]⟩
    subst he
    clear hb1 hq
    obtain ⟨wa, hwa⟩ : ∃ wa, wa = w1.alloc (.cells #[.nilIface] 24) := ⟨_, rfl⟩
    have HBA : Hid (Below w.heap.size w wa) := by rw [hwa]; exact HB1.out.alloc HB1.out.size _
    have HWA := hide hwa
    have HC1 := hide (covered_any wa)
    rw [HWA.out] at HC1
    clear hwa
    go_wp2_with fail
    refine HC1.out.mono ?_
    rintro e w2 ⟨rfl, hb2⟩
    rw [← HWA.out] at hb2
    have HB2 := hide (HBA.out.trans (hb2.mono HBA.out.size))
    clear hb2
    go_wp2_with fail
    refine (covered_any w2).mono ?_
    rintro e w3 ⟨rfl, hb3⟩
    have HB3 := hide (HB2.out.trans (hb3.mono HB2.out.size))
    clear hb3
    go_wp2_with fail
    go_ret
    exact ⟨rfl, HB3.out⟩
  | .inr x, hq, HT =>
    obtain ⟨hb1, v, rfl, hx1⟩ := hq
    have HSZ : Hid (x.size ≤ 1000000) := by
      have := Ex.parse_bnd _ x HT.out.symm
      show _ ≤ _
      omega
    have HB1 := hide hb1
    obtain ⟨t, y, hiu⟩ := IsEx.iface _ v hx1
    subst hiu
    obtain ⟨wa, hwa⟩ : ∃ wa, wa = w1.alloc (.cells #[.iface t y] 24) := ⟨_, rfl⟩
    obtain ⟨be, hbe⟩ : ∃ be, be = w1.heap.size := ⟨_, rfl⟩
    have HBE := hide hbe
    have hba : Below w1.heap.size w1 wa := by rw [hwa]; exact (Below.refl _ _).alloc (Nat.le_refl _) _
    have HBA := hide (HB1.out.trans (hba.mono HB1.out.size))
    have HCA : Hid (wa.cell? ⟨be, 0, none⟩ = some (.iface t y)) := by show _ = _; rw [hwa, hbe]; simp
    have HXA := hide (later hx1 hba)
    have HWA := hide hwa
    have HC1 := hide (covered_any wa)
    rw [HWA.out] at HC1
    clear hwa hb1 hx1 hba hbe
    go_wp2_with fail
    refine HC1.out.mono ?_
    rw [← HWA.out, ← HBE.out]
    rintro e w2 ⟨rfl, hb2⟩
    have HB2 := hide (HBA.out.trans (hb2.mono HBA.out.size))
    have c2 : w2.cell? ⟨be, 0, none⟩ = some (.iface t y) := (hb2.cell (World.block_lt_of_cell? _ _ HCA.out)).trans HCA.out
    have HX2 := hide (later HXA.out hb2)
    have HPA := hide (Pairs_any _ x _ w2 HX2.out HSZ.out)
    clear hb2 HC1
    go_wp2_with fail
    refine HPA.out.mono ?_
    rintro e w3 ⟨ha, hb3⟩
    have HB3 := hide (HB2.out.trans (hb3.mono HB2.out.size))
    have c3 : w3.cell? ⟨be, 0, none⟩ = some (.iface t y) := (hb3.cell (World.block_lt_of_cell? _ _ c2)).trans c2
    have HX3 := hide (later HX2.out hb3)
    have HNA := hide (Names_any _ x _ w3 HX3.out HSZ.out)
    unfold Answer at ha
    have HND := hide (ordered_nodup (x.named true))
    generalize ordered (x.named true) = N at *
    clear hb3 HPA c2
    rcases ha with ⟨t2, y2, rfl, _⟩ | ⟨sv, rfl, _, hn8, hp⟩
    · go_wp2_with fail
      refine HNA.out.mono ?_
      rintro e w4 ⟨sN, rfl, hsN, hb4⟩
      obtain ⟨an, cn, rfl, ln1, ln2⟩ := strs_slice hsN
      have HB4 := hide (HB3.out.trans (hb4.mono HB3.out.size))
      clear hb4 hsN
      go_wp2_with fail
      go_ret
      exact ⟨rfl, HB4.out.alloc HB4.out.size _⟩
    obtain ⟨n, hn⟩ : ∃ n, n = N.length := ⟨_, rfl⟩
    have HN := hide hn
    have HPP := hide hp
    obtain ⟨pa, pc, rfl, hpc⟩ := pairsAt_slice hp
    rw [← hn] at hn8 HPP hpc ⊢
    clear hp hn
    have HLN := hide (pairsTo_le (sayV x N) N n)
    have HMEM := hide (mem_pairs (sayV x N) N n)
    have HHAS := hide (pairs_has (sayV x N) N n)
    obtain ⟨L, hL⟩ : ∃ L, L = pairsTo (sayV x N) N n := ⟨_, rfl⟩
    rw [← hL] at HPP hpc HLN HMEM ⊢
    have HLL := hide hL
    obtain ⟨m, hm⟩ : ∃ m, m = L.length := ⟨_, rfl⟩
    have HM := hide hm
    rw [← hm] at HPP hpc HLN ⊢
    clear hL hm
    have hmn := HLN.out
    go_wp2_with fail
    refine HNA.out.mono ?_
    rintro e w4 ⟨sN, rfl, hsN, hb4⟩
    obtain ⟨an, cn, rfl, ln1, ln2⟩ := strs_slice hsN
    rw [List.length_map] at ln1 ln2 hsN ⊢
    rw [← HN.out] at ln1 ln2 hsN ⊢
    have HB4 := hide (HB3.out.trans (hb4.mono HB3.out.size))
    have c4 : w4.cell? ⟨be, 0, none⟩ = some (.iface t y) := (hb4.cell (World.block_lt_of_cell? _ _ c3)).trans c3
    have HX4 := hide (later HX3.out hb4)
    have HPP4 := hide (HPP.out.below hb4)
    have HSN := hide hsN
    clear hb4 hsN c3 HNA HPP
    by_cases hn0 : n = 0
    · have hm0 : m = 0 := by omega
      subst hn0
      subst hm0
      go_wp2_with fail
      go_ret
      exact ⟨rfl, HB4.out.alloc HB4.out.size _⟩
    have hn0' : ((n : Int) == 0) = false := by rw [beq_eq_false_iff_ne]; omega
    obtain ⟨w5, hw5⟩ : ∃ w5, w5 = w4.alloc (.cells #[.slice an n cn] 33) := ⟨_, rfl⟩
    obtain ⟨bn, hbn⟩ : ∃ bn, bn = w4.heap.size := ⟨_, rfl⟩
    have HW5 := hide hw5
    have HBN := hide hbn
    have hb45 : Below w4.heap.size w4 w5 := by rw [hw5]; exact (Below.refl _ _).alloc (Nat.le_refl _) _
    have HB5 := hide (HB4.out.trans (hb45.mono HB4.out.size))
    have HCE : Hid (w5.cell? ⟨be, 0, none⟩ = some (.iface t y)) := (hb45.cell (World.block_lt_of_cell? _ _ c4)).trans c4
    have HCN : Hid (w5.cell? ⟨bn, 0, none⟩ = some (.slice an n cn)) := by show _ = _; rw [hw5, hbn]; simp
    have HX5 := hide (later HX4.out hb45)
    have HPP5 := hide (HPP4.out.below hb45)
    have HSN5 := hide (HSN.out.below hb45)
    clear hw5 hbn hb45 c4
    have hent : ∀ (args : Array Value) (w : World), (callFunc 8 args).run Try.prog w = .ok (.enter 8 args) w := fun _ _ => by kernel_rfl
    have HSAY := hide (fun u W (hW : Below w5.heap.size w5 W) => shows1_any x (.iface t y) N (by rw [← HN.out]; omega) HND.out (.slice an n cn) bn be u W (later HX5.out hW) (HSN5.out.below hW) ((hW.cell (World.block_lt_of_cell? _ _ HCN.out)).trans HCN.out) ((hW.cell (World.block_lt_of_cell? _ _ HCE.out)).trans HCE.out))
    have HPK := hide (pick_any wh n w5 (by omega) (by omega))
    obtain ⟨kk, hkk⟩ : ∃ kk : Nat, wh % 18446744073709551616 % (n : Int) = (kk : Int) := ⟨(wh % 18446744073709551616 % (n : Int)).toNat, by have := Int.emod_nonneg (wh % 18446744073709551616) (show (n : Int) ≠ 0 by omega); omega⟩
    have hkn : kk < n := by have := Int.emod_lt_of_pos (wh % 18446744073709551616) (show (0 : Int) < (n : Int) by omega); omega
    rw [hkk] at HPK
    rw [HW5.out] at HPK
    clear hkk
    have q5 : w5.cell? ⟨bn, 0, none⟩ = some (.slice an n cn) := HCN.out
    go_wp2_with fail
    refine HPK.out.mono ?_
    rw [← HW5.out, ← HBN.out]
    rintro e w6 ⟨rfl, rfl⟩
    clear HPK
    clear q5 HW5 HBN hn0' ln1 hs hs' q1' HT HSZ hmf
    go_wp2_with fail
    go_loopw [13, 14] (fun sm i wr => ∃ (k : Nat) (b : Bool), k ≤ m ∧ i = .int .i64 (k : Int) ∧ sm = .bool b ∧ Hid (b = (L.take k).any (fun p => Decidable.decide (p.k = kk))) ∧ Hid (Below w6.heap.size w6 wr)) (fun _ i _ => m - (intOf i).toNat)
    case atStart => exact ⟨0, false, Nat.zero_le _, rfl, rfl, rfl, Below.refl _ _⟩
    case round =>
      obtain ⟨k, b, hk, rfl, rfl, HB, HBR⟩ := hrel
      by_cases hlt : k < m
      · have hkl : k < L.length := by rw [← HM.out]; exact hlt
        obtain ⟨p, hp⟩ : ∃ p, p = L[k] := ⟨_, rfl⟩
        have hpm := HMEM.out p (by rw [hp]; exact List.getElem_mem hkl)
        have HTK : Hid ((L.take (k + 1)).any (fun p => Decidable.decide (p.k = kk)) = (b || Decidable.decide (p.k = kk))) := by
          show _ = _
          rw [List.take_succ_eq_append_getElem hkl, List.any_append, ← HB.out, hp]
          simp
        have hcl : ∃ g, pa = some ⟨g, 0, none⟩ ∧ wr.cell? ⟨g, k * 3, none⟩ = some (.string ⟨p.name.toArray⟩) ∧ wr.cell? ⟨g, k * 3 + 1, none⟩ = some (.int .u64 (p.off : Int)) ∧ wr.cell? ⟨g, k * 3 + 2, none⟩ = some (.int .u64 ((p.off ||| 2 ^ p.k : Nat) : Int)) := by
          rcases HPP5.out.below HBR.out with ⟨h0, _⟩ | ⟨g, c, hv, _, hc⟩
          · rw [h0] at hkl; simp at hkl
          · simp only [Value.slice.injEq] at hv
            exact ⟨g, hv.1, hc k p (by rw [List.getElem?_eq_getElem hkl, hp])⟩
        obtain ⟨gp, rfl, d0, d1, d2⟩ := hcl
        obtain ⟨hpk, hpn, hpl⟩ := hpm
        obtain ⟨hoff, hhit⟩ := least_some _ _ _ _ hpl
        have hbit0 : p.off.testBit p.k = false := by
          unfold hit at hhit
          simp only [Bool.and_eq_true, Bool.not_eq_true'] at hhit
          exact hhit.1
        have HDIF : Hid ((sayV x N (p.off ||| 2 ^ p.k) == sayV x N p.off) = false) := by
          unfold hit at hhit
          simp only [Bool.and_eq_true, bne_iff_ne, ne_eq] at hhit
          show _ = _
          rw [beq_eq_false_iff_ne]
          exact fun e => hhit.2 e.symm
        have hAND := bit_is .u64 (.inr rfl) p.off p.k
        rw [hbit0] at hAND
        have hoffL : p.off < 256 := by
          have : 2 ^ N.length ≤ 2 ^ 8 := Nat.pow_le_pow_right (by decide) (by rw [← HN.out]; exact hn8)
          omega
        have hOR := or_pow p.off p.k (by omega) (by omega)
        have hPW := pow_wrapu p.k (by omega)
        have HNJ : Hid (∀ (W : World), Below wr.heap.size wr W → ∀ j (hj : j < N.length), ∃ gn on, an = some ⟨gn, on, none⟩ ∧ W.cell? ⟨gn, on + j, none⟩ = some (.string ⟨N[j].toArray⟩)) := by
          intro W hW j hj
          rcases HSN5.out.below (HBR.out.trans (hW.mono HBR.out.size)) with ⟨h0, _⟩ | ⟨g, o, cap, hv, hcap, _, hc⟩
          · simp only [List.map_eq_nil_iff] at h0
            rw [h0] at hj; simp at hj
          · have := hc j (⟨N[j].toArray⟩ : ByteArray) (by rw [List.getElem?_map, List.getElem?_eq_getElem hj]; rfl)
            simp only [Value.slice.injEq] at hv
            exact ⟨g, o, hv.1, this⟩
        have HPN : Hid (∀ j (hj : j < N.length), N[j] = p.name ↔ j = p.k) := by
          intro j hj
          obtain ⟨h1, h2⟩ := List.getElem?_eq_some_iff.1 hpn
          rw [← h2]
          exact List.getElem_inj HND.out
        have HS1 := hide (HSAY.out (p.off ||| 2 ^ p.k))
        have HS2 := hide (HSAY.out p.off)
        clear hp hpn hpl hhit hbit0 HHAS hoff
        generalize p.name = nm at *
        generalize (p.off ||| 2 ^ p.k) = on at *
        generalize p.off = off at *
        generalize p.k = pk at *
        generalize hq2 : (2 : Nat) ^ pk = b2 at *
        clear hq2
        have HKN : Hid (∀ W, Below w6.heap.size w6 W → W.cell? ⟨bn, 0, none⟩ = some (.slice an n cn)) := fun W hW => (hW.cell (World.block_lt_of_cell? _ _ HCN.out)).trans HCN.out
        obtain ⟨wp, hwp⟩ : ∃ wp, wp = wr.alloc (.cells #[.string ⟨nm.toArray⟩, .int .u64 (off : Int), .int .u64 (on : Int)] 41) := ⟨_, rfl⟩
        obtain ⟨bp, hbp⟩ : ∃ bp, bp = wr.heap.size := ⟨_, rfl⟩
        have hbrp : Below wr.heap.size wr wp := by rw [hwp]; exact (Below.refl _ _).alloc (Nat.le_refl _) _
        have HRP := hide hbrp
        have HBP := hide (HBR.out.trans (hbrp.mono HBR.out.size))
        have HKP : Hid (∀ W, Below wp.heap.size wp W → W.cell? ⟨bn, 0, none⟩ = some (.slice an n cn) ∧ W.cell? ⟨bp, 0, none⟩ = some (.string ⟨nm.toArray⟩) ∧ W.cell? ⟨bp, 1, none⟩ = some (.int .u64 (off : Int)) ∧ W.cell? ⟨bp, 2, none⟩ = some (.int .u64 (on : Int))) := by
          intro W hW
          have z : RowIs wp bp 41 [.string ⟨nm.toArray⟩, .int .u64 (off : Int), .int .u64 (on : Int)] := by rw [hwp, hbp]; exact RowIs.new _ _ _
          have z2 := z.below hW
          exact ⟨HKN.out W (HBP.out.trans (hW.mono HBP.out.size)), z2.cell 0 _ rfl, z2.cell 1 _ rfl, z2.cell 2 _ rfl⟩
        obtain ⟨p0, p1, p2, p3⟩ := HKP.out wp (Below.refl _ _)
        have HWP := hide hwp
        have HBPE := hide hbp
        clear hwp hbp hbrp
        go_wp2_with fail
        rw [← HWP.out, ← HBPE.out]
        clear d0 d1 d2
        go_loopw [16] (fun i wj => ∃ j : Nat, j ≤ pk ∧ i = .int .i64 (j : Int) ∧ Hid (Below wp.heap.size wp wj)) (fun i _ => pk - (intOf i).toNat)
        case atStart => exact ⟨0, Nat.zero_le _, rfl, Below.refl _ _⟩
        case round =>
          obtain ⟨wj, rfl⟩ : ∃ wj, wj = wr := ⟨wr, rfl⟩
          obtain ⟨j, hj, rfl, HJ⟩ := hrel
          clear p0 p1 p2 p3
          obtain ⟨p0, p1, p2, p3⟩ := HKP.out wj HJ.out
          have hjn : j < n := by omega
          have e1 : Decidable.decide ((j : Int) < (n : Int)) = true := decide_eq_true (by omega)
          have hjN : j < N.length := by rw [← HN.out]; exact hjn
          have hsame := HPN.out j hjN
          obtain ⟨gn, on2, rfl, f0⟩ := HNJ.out wj (HRP.out.trans (HJ.out.mono HRP.out.size)) j hjN
          generalize N[j] = nj at *
          by_cases hjp : j = pk
          · have e2 : nj = nm := hsame.2 hjp
            subst e2
            subst hjp
            clear hsame e1
            go_upto_region 18 with fail
            go_quiet (fail)
            go_wp2_with fail
            obtain ⟨wq, hwq⟩ : ∃ wq, wq = wj.drewN nq := ⟨_, rfl⟩
            rw [← hwq]
            have HQ : Hid (Below wp.heap.size wp wq) := by rw [hwq]; exact drewN_low HJ.out _
            have HD : Hid (Below wq.heap.size wq wq.drew) := drewB wq
            have HQD : Hid (Below wp.heap.size wp wq.drew) := HQ.out.trans (HD.out.mono HQ.out.size)
            clear hwq p0 p1 p2 p3 f0
            have HC1 := hide (fun W (hW : Below wp.heap.size wp W) => HS1.out W (HBP.out.trans (hW.mono HBP.out.size)))
            have HC2 := hide (fun W (hW : Below wp.heap.size wp W) => HS2.out W (HBP.out.trans (hW.mono HBP.out.size)))
            generalize sayV x N on = sb at *
            generalize sayV x N off = sa at *
            have hdif := HDIF.out
            have e1 : ((j : Int) == (n : Int)) = false := by rw [beq_eq_false_iff_ne]; omega
            have e4 : ((on : Int) != (on : Int)) = false := by simp
            clear HNJ
            go_region_held3 (fun W => W.cell? ⟨bn, 0, none⟩ = some (.slice (some ⟨gn, on2, none⟩) n cn) ∧ W.cell? ⟨bp, 0, none⟩ = some (.string ⟨nj.toArray⟩) ∧ W.cell? ⟨bp, 1, none⟩ = some (.int .u64 (off : Int)) ∧ W.cell? ⟨bp, 2, none⟩ = some (.int .u64 (on : Int))) ((refine HKP.out _ ?_; first | exact HQD.out | exact HQ.out | exact HE1.out | exact HE2.out)) ((first
              | (go_at_call 8; (with_reducible refine (HC1.out _ HQD.out).mono ?_); rintro e x1 ⟨rfl, hx1⟩; have HE1 : Hid (Below wp.heap.size wp x1) := HQD.out.trans (hx1.mono HQD.out.size); clear hx1)
              | (go_at_call 8; (with_reducible refine (HC2.out _ HE1.out).mono ?_); rintro e x2 ⟨rfl, hx2⟩; have HE2 : Hid (Below wp.heap.size wp x2) := HE1.out.trans (hx2.mono HE1.out.size); clear hx2)))
            have HBX := hide (HBP.out.trans (HE2.out.mono HBP.out.size))
            cases b with
            | true =>
              go_wp2_with fail
              go_roundw
              case rel => exact ⟨k + 1, true, by omega, by go_num, rfl, by rw [HTK.out]; rfl, HBX.out⟩
              case measure => simp [intOf]; omega
            | false =>
              by_cases hjk : j = kk
              · have e5 : ((j : Int) == (kk : Int)) = true := by rw [beq_iff_eq]; omega
                have HTT : Hid ((L.take (k + 1)).any (fun p => Decidable.decide (p.k = kk)) = true) := by show _ = _; rw [HTK.out]; simp [hjk]
                clear hjk
                go_wp2_with fail
                go_roundw
                case rel => exact ⟨k + 1, true, by omega, by go_num, rfl, HTT.out.symm, HBX.out⟩
                case measure => simp [intOf]; omega
              · have e5 : ((j : Int) == (kk : Int)) = false := by rw [beq_eq_false_iff_ne]; omega
                have HTT : Hid ((L.take (k + 1)).any (fun p => Decidable.decide (p.k = kk)) = false) := by show _ = _; rw [HTK.out]; simp [hjk]
                clear hjk
                go_wp2_with fail
                go_roundw
                case rel => exact ⟨k + 1, false, by omega, by go_num, rfl, HTT.out.symm, HBX.out⟩
                case measure => simp [intOf]; omega
          · have e2 : ¬ nj = nm := fun h => hjp (hsame.1 h)
            have e3 : (nj == nm) = false := by rw [beq_eq_false_iff_ne]; exact e2
            have e4 : (!(nj == nm)) = true := by rw [e3]; rfl
            clear hsame
            go_upto_region 18 with fail
            go_quiet (fail)
            go_wp2_with fail
            go_roundw
            case rel => exact ⟨j + 1, by omega, by go_num, drewN_low HJ.out _⟩
            case measure => simp [intOf]; omega
      · have hkm : k = m := by omega
        have HBF : Hid (b = L.any (fun p => Decidable.decide (p.k = kk))) := by
          show _ = _
          rw [HB.out, List.take_of_length_le (by rw [← HM.out]; omega)]
        have HFIN := hide (HB5.out.trans (HBR.out.mono HB5.out.size))
        cases b with
        | true =>
          go_upto_region 23 with fail
          go_quiet (fail)
          go_wp2_with fail
          go_ret
          exact ⟨rfl, drewN_low HFIN.out _⟩
        | false =>
          have hkN : kk < N.length := by rw [← HN.out]; exact hkn
          have hnone : least (sayV x N) N.length kk = none := by
            cases hl : least (sayV x N) N.length kk with
            | none => rfl
            | some v =>
              have h1 := HHAS.out kk v hkn hkN hl
              rw [← HLL.out, ← HBF.out] at h1
              cases h1
          obtain ⟨av, ha1, ha2⟩ := andnot_pow vals kk hvals (by omega)
          have hO := or_pow vals kk hvals (by omega)
          have hPW := pow_wrapu kk (by omega)
          have hns := none_same x N kk hkN hnone vals av (vals ||| 2 ^ kk) ha2 (fun i _ => or_test vals kk i) (by rw [← HN.out]; exact hn8)
          have HC1 := hide (HSAY.out av)
          have HC2 := hide (HSAY.out (vals ||| 2 ^ kk))
          rw [hns] at HC1
          have HD : Hid (Below wr.heap.size wr wr.drew) := drewB wr
          have HQD : Hid (Below w6.heap.size w6 wr.drew) := HBR.out.trans (HD.out.mono HBR.out.size)
          clear hnone ha2 hns HHAS
          generalize sayV x N (vals ||| 2 ^ kk) = R at *
          generalize (vals ||| 2 ^ kk) = ov at *
          generalize hq2 : (2 : Nat) ^ kk = b2 at *
          clear hq2
          go_upto_region 23 with fail
          go_region_held3 (fun _ => True) (trivial) ((first
            | (go_at_call 8; (with_reducible refine (HC1.out _ HQD.out).mono ?_); rintro e x1 ⟨rfl, hx1⟩; have HE1 : Hid (Below w6.heap.size w6 x1) := HQD.out.trans (hx1.mono HQD.out.size); clear hx1)
            | (go_at_call 8; (with_reducible refine (HC2.out _ HE1.out).mono ?_); rintro e x2 ⟨rfl, hx2⟩; have HE2 : Hid (Below w6.heap.size w6 x2) := HE1.out.trans (hx2.mono HE1.out.size); clear hx2)))
          have HFX := hide (HB5.out.trans (HE2.out.mono HB5.out.size))
          go_wp2_with fail
          go_ret
          exact ⟨rfl, HFX.out⟩
end Cv
end Go.Proofs.Ytbimjhgngohhoaa
