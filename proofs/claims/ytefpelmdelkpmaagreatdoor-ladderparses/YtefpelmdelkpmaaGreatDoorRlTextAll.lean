/-
  The walk of the document's Number: a number, as it would be written. The walk of the document's ProgramText.
-/
import Derived.Test.YtefpelmdelkpmaaGreatDoorLdReads
import Derived.Test.YtefpelmdelkpmaaGreatDoorShelf4
import Derived.Test.YtefpelmdelkpmaaGreatDoorShelf5
import Derived.Lib.ParseIntBTie
import Derived.Test.YtefpelmdelkpmaaGreatDoorRlCheck
import Derived.Test.YtefpelmdelkpmaaGreatDoorRlToldAll
namespace Go.Proofs.YtefpelmdelkpmaaGreatDoor
section
open Go.RowKit
set_option maxHeartbeats 2000000 in
set_option maxRecDepth 100000 in
theorem rcount_any (s : List UInt8) (w : World) (hs : s.length ≤ 20000) (hN : NumErrs w) (hP : Pows w) (hG : 14 ≤ w.heap.size) :
    Calls Tryz.prog 46 #[.string ⟨s.toArray⟩] w fun e w' => ∃ n, I64 n ∧ e = .returned (.tuple #[.int .i64 n, .bool (Ld.rdCount s).isSome]) ∧ (∀ m, Ld.rdCount s = some m → m = n) ∧ Below w.heap.size w w' := by
  have e0 : (⟨s.toArray⟩ : ByteArray).data.toList = s := rfl
  have es : (⟨s.toArray⟩ : ByteArray).size = s.length := by simp [ByteArray.size]
  cases ha : Lib.atoiAll s with
  | ok v =>
    have HC := hide (Tryz.strconv_ParseInt_10_at64_ok ⟨s.toArray⟩ (by rw [es]; omega) v (by rw [e0, Lib.parseIntB_64]; exact ha) w)
    have HV := hide (atoi_i64 s v ha)
    have HR : Hid (Ld.rdCount s = if Lib.itoa v = s then some v else none) := by show _ = _; unfold Ld.rdCount; rw [ha]
    have HIT0 : Hid (∀ W, Pows W → Calls Tryz.prog 74 #[.int .i64 v, .int .i64 10] W fun e w' => e = .returned (.string ⟨(Lib.itoa v).toArray⟩) ∧ Below W.heap.size W w') := by
      intro W hp
      refine (Tryz.strconv_FormatInt_10 v HV.out.1 HV.out.2 W hp).mono ?_
      rintro e w4 ⟨rfl, kk, os, rfl⟩
      exact ⟨rfl, bgrow _ _ _⟩
    have HP := hide hP
    clear ha e0 es hN hP
    generalize Lib.itoa v = iv at *
    have hb1 := bytes_list iv
    have hb2 := bytes_list s
    go_enter Tryz.func46, Tryz.ntmps46
    go_wp2_with fail
    refine HC.out.mono ?_
    rintro e w1 ⟨rfl, hw1⟩
    have hbw : Below w.heap.size w w1 := by
      rcases hw1 with rfl | ⟨t, rfl⟩
      · exact Below.refl _ _
      · exact Lib.bytesWorld_below _ _ _
    have HB := hide hbw
    have HIT := hide (HIT0.out w1 (HP.out.low hbw hG))
    clear hw1 hbw HC
    go_wp2_with fail
    refine HIT.out.mono ?_
    rintro e w2 ⟨rfl, hb⟩
    have HB2 := hide (HB.out.trans (hb.mono HB.out.size))
    clear hb HIT
    by_cases hq : iv = s
    · subst hq
      go_wp2_with fail
      go_ret2
      exact ⟨v, HV.out, by rw [HR.out, if_pos trivial]; rfl, fun m hm => (by rw [HR.out, if_pos trivial] at hm; cases hm; rfl), HB2.out⟩
    · have HQ := hide hq
      have hqb : (iv == s) = false := by simpa using hq
      clear hq
      go_wp2_with fail
      go_ret2
      exact ⟨0, ⟨by omega, by omega⟩, by rw [HR.out, if_neg HQ.out]; rfl, fun m hm => (by rw [HR.out, if_neg HQ.out] at hm; cases hm), HB2.out⟩
  | «syntax» =>
    obtain ⟨te, pe, hv⟩ := hN.1
    have HC := hide (Tryz.strconv_ParseInt_10_at64_syntax ⟨s.toArray⟩ (by rw [es]; omega) (by rw [e0, Lib.parseIntB_64]; exact ha) _ w hv (.inr ⟨te, pe, rfl⟩))
    have HR : Hid (Ld.rdCount s = none) := by show _ = _; unfold Ld.rdCount; rw [ha]
    clear ha e0 es hv hN hP
    go_enter Tryz.func46, Tryz.ntmps46
    go_wp2_with fail
    refine HC.out.mono ?_
    rintro e w1 ⟨N, rfl, _, _, hb⟩
    have HB := hide hb
    clear hb HC
    go_wp2_with fail
    go_ret2
    exact ⟨0, ⟨by omega, by omega⟩, by rw [HR.out]; rfl, fun m hm => (by rw [HR.out] at hm; cases hm), HB.out⟩
  | range =>
    obtain ⟨te, pe, hv⟩ := hN.2
    have HC := hide (Tryz.strconv_ParseInt_10_at64_range ⟨s.toArray⟩ (by rw [es]; omega) (by rw [e0, Lib.parseIntB_64]; exact ha) _ w hv (.inr ⟨te, pe, rfl⟩))
    have HR : Hid (Ld.rdCount s = none) := by show _ = _; unfold Ld.rdCount; rw [ha]
    clear ha e0 es hv hN hP
    generalize Lib.intSat 64 (⟨s.toArray⟩ : ByteArray).data.toList = sat at *
    go_enter Tryz.func46, Tryz.ntmps46
    go_wp2_with fail
    refine HC.out.mono ?_
    rintro e w1 ⟨N, rfl, _, _, hb⟩
    have HB := hide hb
    clear hb HC
    go_wp2_with fail
    go_ret2
    exact ⟨0, ⟨by omega, by omega⟩, by rw [HR.out]; rfl, fun m hm => (by rw [HR.out] at hm; cases hm), HB.out⟩
end
section
open Go.RowKit
/-- the document's words for kinds, as they are laid -/
def RWords (w : World) : Prop := ∃ b1 o1 cw1 b2 o2 cw2, (w.cell? ⟨1, 0, none⟩ = some (.slice (some ⟨b1, o1, none⟩) 5 cw1) ∧ 5 ≤ cw1 ∧ ∀ k, k < 5 → w.cell? ⟨b1, o1 + k, none⟩ = some (.string ⟨(Ld.nameW k).toArray⟩)) ∧ (w.cell? ⟨2, 0, none⟩ = some (.slice (some ⟨b2, o2, none⟩) 7 cw2) ∧ 7 ≤ cw2 ∧ ∀ k, 2 ≤ k → k < 7 → w.cell? ⟨b2, o2 + k, none⟩ = some (.string ⟨(Ld.rungW k).toArray⟩))
theorem RWords.below {w w' : World} (h : RWords w) (hb : Below w.heap.size w w') : RWords w' := by
  obtain ⟨b1, o1, cw1, b2, o2, cw2, ⟨h1, h5, h2⟩, h3, h6, h4⟩ := h
  have key : ∀ (p : Addr) v, w.cell? p = some v → w'.cell? p = some v := fun p v hv => (hb.cell (World.block_lt_of_cell? _ _ hv)).trans hv
  exact ⟨b1, o1, cw1, b2, o2, cw2, ⟨key _ _ h1, h5, fun k hk => key _ _ (h2 k hk)⟩, key _ _ h3, h6, fun k hk hk2 => key _ _ (h4 k hk hk2)⟩
theorem ba_name (T kw nm : List UInt8) : ((⟨T.toArray⟩ : ByteArray) ++ ((⟨kw.toArray⟩ : ByteArray) ++ ⟨#[32]⟩ ++ ⟨nm.toArray⟩) ++ ⟨#[10]⟩) = ⟨(T ++ ((kw ++ [32] ++ nm ++ []) ++ [10])).toArray⟩ := by
  rw [show (⟨#[32]⟩ : ByteArray) = ⟨[32].toArray⟩ from rfl, show (⟨#[10]⟩ : ByteArray) = ⟨[10].toArray⟩ from rfl, ba_cat, ba_cat, ba_cat, ba_cat]
  simp
theorem ba_named (T kw nm c : List UInt8) : ((⟨T.toArray⟩ : ByteArray) ++ ((⟨kw.toArray⟩ : ByteArray) ++ ⟨#[32]⟩ ++ ⟨nm.toArray⟩) ++ ((⟨#[32]⟩ : ByteArray) ++ ⟨c.toArray⟩) ++ ⟨#[10]⟩) = ⟨(T ++ ((kw ++ [32] ++ nm ++ (32 :: c)) ++ [10])).toArray⟩ := by
  rw [show (⟨#[32]⟩ : ByteArray) = ⟨[32].toArray⟩ from rfl, show (⟨#[10]⟩ : ByteArray) = ⟨[10].toArray⟩ from rfl, ba_cat, ba_cat, ba_cat, ba_cat, ba_cat, ba_cat]
  simp
theorem ba_rung1 (T nm x : List UInt8) : ((⟨T.toArray⟩ : ByteArray) ++ ((⟨nm.toArray⟩ : ByteArray) ++ ⟨#[32, 61, 32]⟩ ++ ⟨x.toArray⟩ ++ ⟨#[10]⟩)) = ⟨(T ++ ((([] ++ nm ++ [32]) ++ [61, 32] ++ x) ++ [10])).toArray⟩ := by
  rw [show (⟨#[32, 61, 32]⟩ : ByteArray) = ⟨[32, 61, 32].toArray⟩ from rfl, show (⟨#[10]⟩ : ByteArray) = ⟨[10].toArray⟩ from rfl, ba_cat, ba_cat, ba_cat, ba_cat]
  simp
theorem ba_rung (T kw nm x : List UInt8) : ((⟨T.toArray⟩ : ByteArray) ++ ((⟨kw.toArray⟩ : ByteArray) ++ ⟨#[32]⟩) ++ ((⟨nm.toArray⟩ : ByteArray) ++ ⟨#[32, 61, 32]⟩ ++ ⟨x.toArray⟩ ++ ⟨#[10]⟩)) = ⟨(T ++ ((((kw ++ [32]) ++ nm ++ [32]) ++ [61, 32] ++ x) ++ [10])).toArray⟩ := by
  rw [show (⟨#[32, 61, 32]⟩ : ByteArray) = ⟨[32, 61, 32].toArray⟩ from rfl, show (⟨#[32]⟩ : ByteArray) = ⟨[32].toArray⟩ from rfl, show (⟨#[10]⟩ : ByteArray) = ⟨[10].toArray⟩ from rfl, ba_cat, ba_cat, ba_cat, ba_cat, ba_cat, ba_cat]
  simp
set_option maxHeartbeats 8000000 in
set_option maxRecDepth 100000 in
theorem rptext_any (p : Ld.Prg) (v : Value) (w : World) (h : IsRPrg w p v) (hW : RWords w) (hp : Pows w) (hlow : 9 < w.heap.size) (hck : Ld.check p = none) :
    Calls Tryz.prog 14 #[v] w fun e w' => e = .returned (.string ⟨(Ld.text p).toArray⟩) ∧ Below w.heap.size w w' := by
  obtain ⟨nv, rv, rfl, hn, hr⟩ := h
  have HNA := hide hn
  have HRA := hide hr
  have HWD := hide hW
  have hcn := Ld.check_names p hck
  have HCN := hide hcn
  have HNL : Hid (∀ nm, Nm.name nm = true → nm.length ≤ 8) := fun nm h => name_len nm h
  obtain ⟨na, nc, rfl, hln⟩ := hn.slice
  obtain ⟨ra, rc, rfl, hlr⟩ := hr.slice
  obtain ⟨n, hnn⟩ : ∃ n, n = p.names.length := ⟨_, rfl⟩
  obtain ⟨m, hmm⟩ : ∃ m, m = p.rungs.length := ⟨_, rfl⟩
  have HN := hide hnn
  have HM := hide hmm
  have HTX : Hid (Ld.text p = Ld.ended (p.names.map Ld.nameT) ++ Ld.ended (p.rungs.map Ld.rungT)) := by
    show _ = _
    unfold Ld.text Ld.linesT
    rw [if_pos hck]
    simp [Ld.ended]
  have HTD : Hid (∀ (W : World) (b : Nat) (c : Int), Below w.heap.size w W → W.cell? ⟨b, 0, none⟩ = some (.int .i64 c) → 1 ≤ c → c ≤ 7 → Calls Tryz.prog 36 #[.slice (some ⟨b, 0, none⟩) 1 1] W fun e w' => e = .returned (.string ⟨(Lib.itoa c).toArray⟩) ∧ Below W.heap.size W w') := fun W b c hW hc h1 h7 =>
    rtold_any b c W hc ⟨by omega, by omega⟩ (by have := itoa_len c (by omega); omega) (hp.block (hW.block _ hlow)) (Nat.lt_of_lt_of_le hlow hW.size)
  rw [HTX.out]
  rw [← hnn] at HNA hln ⊢
  rw [← hmm] at HRA hlr ⊢
  clear hn hr hW hnn hmm hp hck hcn
  obtain ⟨wA, hwA⟩ : ∃ wA, wA = w.alloc (.cells #[.slice na n nc, .slice ra m rc] 32) := ⟨_, rfl⟩
  have hbA : Below w.heap.size w wA := by rw [hwA]; exact (Below.refl _ _).alloc (Nat.le_refl _) _
  have HPG : Hid (wA.heap[w.heap.size]? = some (.cells #[.slice na n nc, .slice ra m rc] 32 (0, 0))) := by show wA.heap[_]? = _; rw [hwA]; exact heap_alloc_new _ _
  have HBA := hide hbA
  go_enter Tryz.func14, Tryz.ntmps14
  go_wp2_with fail
  rw [← hwA]
  clear hwA hbA
  go_loopw [3, 11] (fun l i wr => ∃ k : Nat, k ≤ n ∧ i = .int .i64 (k : Int) ∧ l = .string ⟨(Ld.ended ((p.names.take k).map Ld.nameT)).toArray⟩ ∧ (Ld.ended ((p.names.take k).map Ld.nameT)).length ≤ k * 200 ∧ Hid (Below w.heap.size w wr ∧ wr.heap[w.heap.size]? = some (.cells #[.slice na n nc, .slice ra m rc] 32 (0, 0)))) (fun _ i _ => n - (intOf i).toNat)
  case atStart => exact ⟨0, Nat.zero_le _, rfl, rfl, by simp [Ld.ended], HBA.out, HPG.out⟩
  case round =>
    obtain ⟨k, hk, rfl, rfl, hTl, HB⟩ := hrel
    by_cases hlt : k < n
    · have hkl : k < p.names.length := by rw [← HN.out]; exact hlt
      obtain ⟨g, hga, hcap, e1, e2, e3, e4, e5, e6⟩ := (HNA.out.below HB.out.1).at_ (List.getElem?_eq_getElem hkl)
      subst hga
      obtain ⟨b1, o1, cw1, b2, o2, cw2, ⟨d1, hcw1, d2⟩, _⟩ := HWD.out.below HB.out.1
      obtain ⟨v1, v2, v3, v4⟩ := HCN.out.2.2.1 _ (List.getElem_mem hkl)
      have HSU : Hid (Ld.ended ((p.names.take (k + 1)).map Ld.nameT) = Ld.ended ((p.names.take k).map Ld.nameT) ++ (Ld.nameT p.names[k] ++ [10])) := by
        show _ = _
        rw [List.take_succ_eq_append_getElem hkl]
        unfold Ld.ended
        rw [List.map_append, List.map_append, List.flatten_append]
        simp
      generalize p.names[k] = y at *
      obtain ⟨nm, kd, ct⟩ := y
      dsimp only at e1 e2 e3 v1 v2 v3 v4
      obtain ⟨kn, rfl⟩ : ∃ kn : Nat, kd = (kn : Int) := ⟨kd.toNat, by omega⟩
      have d3 := d2 kn (by omega)
      generalize Ld.ended ((p.names.take k).map Ld.nameT) = T at *
      have hkwl : (Ld.nameW kn).length ≤ 10 := by
        have : kn = 1 ∨ kn = 2 ∨ kn = 3 ∨ kn = 4 := by omega
        rcases this with rfl | rfl | rfl | rfl <;> decide
      have hnml : nm.length ≤ 100 := by have := HNL.out nm v1; omega
      have HKW : Hid (Ld.nameW ((kn : Int).toNat) = Ld.nameW kn) := by show _ = _; rw [Int.toNat_natCast]
      have hn12 := HCN.out.1
      rw [← HN.out] at hn12
      have hki : (k : Int) < (n : Int) := by omega
      have hkn5 : (kn : Int) < 5 := by omega
      obtain ⟨wN, hwN⟩ : ∃ wN, wN = wr.alloc (.cells #[.string ⟨nm.toArray⟩, .int .i64 (kn : Int), .int .i64 ct] 35) := ⟨_, rfl⟩
      have hbN : Below wr.heap.size wr wN := by rw [hwN]; exact (Below.refl _ _).alloc (Nat.le_refl _) _
      have lw : w.heap.size < wr.heap.size := (Array.getElem?_eq_some_iff.1 HB.out.2).1
      have HBN : Hid (Below w.heap.size w wN ∧ wN.heap[w.heap.size]? = some (.cells #[.slice (some ⟨g, 0, none⟩) n nc, .slice ra m rc] 32 (0, 0))) := ⟨HB.out.1.trans (hbN.mono HB.out.1.size), (hbN.block _ lw).trans HB.out.2⟩
      have n0 : wN.cell? ⟨wr.heap.size, 0, none⟩ = some (.string ⟨nm.toArray⟩) := by rw [hwN]; exact Lib.cell_of_heap (heap_alloc_new wr _) 0
      have n1 : wN.cell? ⟨wr.heap.size, 1, none⟩ = some (.int .i64 (kn : Int)) := by rw [hwN]; exact Lib.cell_of_heap (heap_alloc_new wr _) 1
      have n2 : wN.cell? ⟨wr.heap.size, 2, none⟩ = some (.int .i64 ct) := by rw [hwN]; exact Lib.cell_of_heap (heap_alloc_new wr _) 2
      have w1 := (hbN.cell (World.block_lt_of_cell? _ _ d1)).trans d1
      have HNT : Hid (Ld.nameT ⟨nm, (kn : Int), ct⟩ = Ld.nameW kn ++ [32] ++ nm ++ (if Ld.counted (kn : Int) then 32 :: Lib.itoa ct else [])) := by show _ = _; unfold Ld.nameT; dsimp only; rw [Int.toNat_natCast]
      generalize Ld.nameW kn = kw at *
      have w3 := (hbN.cell (World.block_lt_of_cell? _ _ d3)).trans d3
      have lN := World.block_lt_of_cell? _ _ n0
      have HWN := hide hwN
      clear d2 e4 e5 e6 d1 d3 hbN
      go_upto_region 5 with fail
      rw [← HWN.out]
      clear hwN e1 e2 e3
      have lwN : w.heap.size < wN.heap.size := (Array.getElem?_eq_some_iff.1 HBN.out.2).1
      by_cases h3 : 3 ≤ kn
      · have h3i : (3 : Int) ≤ (kn : Int) := by omega
        have hcn : Ld.counted (kn : Int) = true := by
          have : kn = 3 ∨ kn = 4 := by omega
          rcases this with rfl | rfl <;> rfl
        rw [hcn, if_pos rfl] at HNT
        have hc17 : 1 ≤ ct ∧ ct ≤ 7 := by
          have hm := v4
          unfold Ld.mayCount at hm
          rw [hcn] at hm
          simpa using hm
        have hil := itoa_len ct (by omega)
        clear hcn v4
        go_quiet (fail)
        obtain ⟨wq, hwq⟩ : ∃ wq, wq = wN.drewN nq := ⟨_, rfl⟩
        rw [← hwq]
        have hbq : Below wN.heap.size wN wq := by rw [hwq]; exact ⟨rfl, rfl, rfl, Nat.le_refl _, fun _ _ => rfl⟩
        have HBQ := hide hbq
        have n1q := (hbq.cell (p := ⟨wr.heap.size, 1, none⟩) lN).trans n1
        have n2q := (hbq.cell (p := ⟨wr.heap.size, 2, none⟩) lN).trans n2
        have HCT := hide (HTD.out (wq.alloc (.cells #[.int .i64 ct] 3)) wq.heap.size ct ((HBN.out.1.trans (hbq.mono HBN.out.1.size)).alloc (Nat.le_trans HBN.out.1.size hbq.size) _) (Lib.cell_of_heap (heap_alloc_new wq _) 0) hc17.1 hc17.2)
        have hzq := hbq.size
        clear hwq hbq n0 n1 n2 w1 w3
        generalize Lib.itoa ct = ic at *
        go_wp2_with fail
        refine HCT.out.mono ?_
        rintro e w5 ⟨rfl, hb5⟩
        have HB5 : Hid (Below wN.heap.size wN w5) := (HBQ.out.alloc HBQ.out.size _).trans (hb5.mono (by simp; omega))
        have HBF : Hid (Below w.heap.size w w5 ∧ w5.heap[w.heap.size]? = some (.cells #[.slice (some ⟨g, 0, none⟩) n nc, .slice ra m rc] 32 (0, 0))) := ⟨HBN.out.1.trans (HB5.out.mono HBN.out.1.size), (HB5.out.block _ lwN).trans HBN.out.2⟩
        clear hb5 HCT n1q n2q
        go_wp2_with fail
        refine ⟨⟨k + 1, by omega, by go_num, ?_, ?_, HBF.out⟩, by simp [intOf]; omega⟩
        · rw [HSU.out, HNT.out, ba_named]
        · rw [HSU.out, HNT.out]
          simp only [List.length_append, List.length_cons, List.length_nil]
          omega
      · have h3i : ¬ (3 : Int) ≤ (kn : Int) := by omega
        have hcn : Ld.counted (kn : Int) = false := by
          have : kn = 1 ∨ kn = 2 := by omega
          rcases this with rfl | rfl <;> rfl
        rw [hcn, if_neg Bool.false_ne_true] at HNT
        clear hcn v4
        go_quiet (fail)
        obtain ⟨wq, hwq⟩ : ∃ wq, wq = wN.drewN nq := ⟨_, rfl⟩
        rw [← hwq]
        have hbq : Below wN.heap.size wN wq := by rw [hwq]; exact ⟨rfl, rfl, rfl, Nat.le_refl _, fun _ _ => rfl⟩
        have n1q := (hbq.cell (p := ⟨wr.heap.size, 1, none⟩) lN).trans n1
        have HBF : Hid (Below w.heap.size w wq ∧ wq.heap[w.heap.size]? = some (.cells #[.slice (some ⟨g, 0, none⟩) n nc, .slice ra m rc] 32 (0, 0))) := ⟨HBN.out.1.trans (hbq.mono HBN.out.1.size), (hbq.block _ lwN).trans HBN.out.2⟩
        clear hwq hbq n0 n1 n2 w1 w3
        go_wp2_with fail
        refine ⟨⟨k + 1, by omega, by go_num, ?_, ?_, HBF.out⟩, by simp [intOf]; omega⟩
        · rw [HSU.out, HNT.out, ba_name]
        · rw [HSU.out, HNT.out]
          simp only [List.length_append, List.length_cons, List.length_nil]
          omega
    · have hkn : k = n := by omega
      subst hkn
      have htk : p.names.take k = p.names := List.take_of_length_le (by rw [← HN.out]; exact Nat.le_refl _)
      rw [htk] at hTl ⊢
      have q1 : wr.cell? ⟨w.heap.size, 1, none⟩ = some (.slice ra m rc) := Lib.cell_of_heap HB.out.2 1
      have hn12 := HCN.out.1
      rw [← HN.out] at hn12
      obtain ⟨T0, hT0⟩ : ∃ T0, T0 = Ld.ended (p.names.map Ld.nameT) := ⟨_, rfl⟩
      rw [← hT0] at hTl ⊢
      have HT0 := hide hT0
      clear hT0
      obtain ⟨wo, rfl⟩ : ∃ wo, wo = wr := ⟨_, rfl⟩
      clear htk
      go_wp2_with fail
      clear q1
      go_loopw [3, 42] (fun l i wr => ∃ (z : Nat) (T : List UInt8), z ≤ m ∧ i = .int .i64 (z : Int) ∧ l = .string ⟨T.toArray⟩ ∧ T.length ≤ 2400 + z * 1000200 ∧ Hid (T = T0 ++ Ld.ended ((p.rungs.take z).map Ld.rungT)) ∧ Hid (Below w.heap.size w wr)) (fun _ i _ => m - (intOf i).toNat)
      case atStart => exact ⟨0, T0, Nat.zero_le _, rfl, rfl, by omega, by show _ = _; simp [Ld.ended], HB.out.1⟩
      case round =>
        clear HB
        obtain ⟨z, T, hz, rfl, rfl, hTZ, HT, HB⟩ := hrel
        by_cases hzm : z < m
        · have hzl : z < p.rungs.length := by rw [← HM.out]; exact hzm
          obtain ⟨gr, hgr, hcr, v, r1, r2, r3, r4, r5, r6⟩ := (HRA.out.below HB.out).at_ (List.getElem?_eq_getElem hzl)
          subst hgr
          obtain ⟨b1, o1, cw1, b2, o2, cw2, _, d1, hcw2, d2⟩ := HWD.out.below HB.out
          obtain ⟨v1, v2, v3, x, hx2, _⟩ := HCN.out.2.2.2 _ (List.getElem_mem hzl)
          have HSU : Hid (Ld.ended ((p.rungs.take (z + 1)).map Ld.rungT) = Ld.ended ((p.rungs.take z).map Ld.rungT) ++ (Ld.rungT p.rungs[z] ++ [10])) := by
            show _ = _
            rw [List.take_succ_eq_append_getElem hzl]
            unfold Ld.ended
            rw [List.map_append, List.map_append, List.flatten_append]
            simp
          have hm40 := HCN.out.2.1
          rw [← HM.out] at hm40
          rw [hx2] at r6
          generalize p.rungs[z] = y at *
          obtain ⟨kd, nm, cd⟩ := y
          dsimp only at r1 r2 r3 v1 v2 v3 hx2
          subst hx2
          obtain ⟨gx, rfl, hxx, hxs, hxt⟩ := r6
          obtain ⟨kn, rfl⟩ : ∃ kn : Nat, kd = (kn : Int) := ⟨kd.toNat, by omega⟩
          have hnml : nm.length ≤ 100 := by have := HNL.out nm v3; omega
          obtain ⟨wR, hwR⟩ : ∃ wR, wR = wr.alloc (.cells #[.int .i64 (kn : Int), .string ⟨nm.toArray⟩, .pointer (some ⟨gx, 0, none⟩)] 46) := ⟨_, rfl⟩
          have hbR : Below wr.heap.size wr wR := by rw [hwR]; exact (Below.refl _ _).alloc (Nat.le_refl _) _
          have HBR : Hid (Below w.heap.size w wR) := HB.out.trans (hbR.mono HB.out.size)
          have s0 : wR.cell? ⟨wr.heap.size, 0, none⟩ = some (.int .i64 (kn : Int)) := by rw [hwR]; exact Lib.cell_of_heap (heap_alloc_new wr _) 0
          have s1 : wR.cell? ⟨wr.heap.size, 1, none⟩ = some (.string ⟨nm.toArray⟩) := by rw [hwR]; exact Lib.cell_of_heap (heap_alloc_new wr _) 1
          have s2 : wR.cell? ⟨wr.heap.size, 2, none⟩ = some (.pointer (some ⟨gx, 0, none⟩)) := by rw [hwR]; exact Lib.cell_of_heap (heap_alloc_new wr _) 2
          have HXR : Hid (IsRx (fun _ => True) wR.drew x gx) := IsRx.stay (Stay.below (below_drew1 hbR)) (fun _ h => h) x gx hxx
          have HTE : Hid (Calls Tryz.prog 37 #[.pointer (some ⟨gx, 0, none⟩)] wR.drew fun e w' => e = .returned (.string ⟨x.text.toArray⟩) ∧ Below wR.drew.heap.size wR.drew w') := rtext_any x gx wR.drew HXR.out hxt
          have HRT1 : Hid (kn = 1 → Ld.rungT ⟨(kn : Int), nm, some x⟩ = (([] ++ nm ++ [32]) ++ [61, 32] ++ x.text)) := fun h1 => by subst h1; rfl
          have HRT2 : Hid (kn ≠ 1 → Ld.rungT ⟨(kn : Int), nm, some x⟩ = (((Ld.rungW kn ++ [32]) ++ nm ++ [32]) ++ [61, 32] ++ x.text)) := fun h1 => by
            unfold Ld.rungT Ld.headT
            dsimp only
            rw [if_neg (by omega), Int.toNat_natCast]
            rfl
          have HKS : Hid (∀ W, Below wR.heap.size wR W → W.cell? ⟨wr.heap.size, 1, none⟩ = some (.string ⟨nm.toArray⟩) ∧ W.cell? ⟨wr.heap.size, 2, none⟩ = some (.pointer (some ⟨gx, 0, none⟩))) := fun W hW => ⟨(hW.cell (World.block_lt_of_cell? _ _ s1)).trans s1, (hW.cell (World.block_lt_of_cell? _ _ s2)).trans s2⟩
          have HDR : Hid (Below wR.heap.size wR wR.drew) := below_drew1 (Below.refl _ _)
          have w1 := (hbR.cell (World.block_lt_of_cell? _ _ d1)).trans d1
          have hd2 : 2 ≤ kn → wR.cell? ⟨b2, o2 + kn, none⟩ = some (.string ⟨(Ld.rungW kn).toArray⟩) := fun h2 => by
            have := d2 kn h2 (by omega)
            exact (hbR.cell (World.block_lt_of_cell? _ _ this)).trans this
          have hrwl : (Ld.rungW kn).length ≤ 10 := by
            have : kn = 1 ∨ kn = 2 ∨ kn = 3 ∨ kn = 4 ∨ kn = 5 ∨ kn = 6 := by omega
            rcases this with rfl | rfl | rfl | rfl | rfl | rfl <;> decide
          have HWR := hide hwR
          have hzi : (z : Int) < (m : Int) := by omega
          generalize x.text = xt at *
          generalize Ld.ended ((p.rungs.take z).map Ld.rungT) = Z at *
          clear r4 r5 hzl hxx hbR d1 d2
          by_cases h1 : kn = 1
          · have HRT := hide (HRT1.out h1)
            have h1i : ¬ (1 : Int) < (kn : Int) := by omega
            clear HRT1 HRT2 h1
            go_upto_region 13 with fail
            rw [← HWR.out]
            clear hwR r1 r2 r3 hd2
            go_upto_region 15 with fail
            go_region_with (first | (go_at_call 37; refine HTE.out.mono ?_; rintro e w6 ⟨rfl, hb6⟩; have HB6 := hide (HDR.out.trans hb6); have t1 := (HKS.out _ HB6.out).1; clear hb6))
            all_goals go_wp2_with fail
            all_goals refine ⟨⟨z + 1, T ++ ((([] ++ nm ++ [32]) ++ [61, 32] ++ xt) ++ [10]), by omega, by go_num, ?_, ?_, ?_, HBR.out.trans (HB6.out.mono HBR.out.size)⟩, by simp [intOf]; omega⟩
            all_goals first
              | (show _ = T0 ++ _; rw [HSU.out, HT.out, HRT.out]; simp)
              | (rw [ba_rung1])
              | (simp only [List.length_append, List.length_cons, List.length_nil]; omega)
          · have h1i : (1 : Int) < (kn : Int) := by omega
            have hd3 := hd2 (by omega)
            have hk7 : (kn : Int) < 7 := by omega
            have HRT := hide (HRT2.out h1)
            clear HRT1 HRT2
            generalize Ld.rungW kn = kw at *
            clear hd2
            go_upto_region 14 with fail
            rw [← HWR.out]
            clear hwR r1 r2 r3
            go_upto_region 15 with fail
            go_region_with (first | (go_at_call 37; refine HTE.out.mono ?_; rintro e w6 ⟨rfl, hb6⟩; have HB6 := hide (HDR.out.trans hb6); have t1 := (HKS.out _ HB6.out).1; clear hb6))
            all_goals go_wp2_with fail
            all_goals refine ⟨⟨z + 1, T ++ ((((kw ++ [32]) ++ nm ++ [32]) ++ [61, 32] ++ xt) ++ [10]), by omega, by go_num, ?_, ?_, ?_, HBR.out.trans (HB6.out.mono HBR.out.size)⟩, by simp [intOf]; omega⟩
            all_goals first
              | (show _ = T0 ++ _; rw [HSU.out, HT.out, HRT.out]; simp)
              | (rw [ba_rung])
              | (simp only [List.length_append, List.length_cons, List.length_nil]; omega)
        · have hzz : z = m := by omega
          subst hzz
          have htk : p.rungs.take z = p.rungs := List.take_of_length_le (by rw [← HM.out]; exact Nat.le_refl _)
          rw [htk] at HT
          go_wp2_with fail
          go_ret
          exact ⟨by rw [← HT0.out, ← HT.out]; rfl, HB.out⟩
end
end Go.Proofs.YtefpelmdelkpmaaGreatDoor
