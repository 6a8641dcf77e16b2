/-
  The walk of the statement InductSound. What rows that reach package ladder's Parse list of the package variables, brought to the walks' own words (Laid); and a builder that hands on that the start's memory has the package variables' blocks. A start that meets what a row of the statements lists of the package variables. The closed facts of InductSound's row, one by one. For every text, every second text and every number, the call of InductSound returns true (of a text of up to 1500 bytes that package ladder reads, whose program has at most 4 inputs and 100 states, of a second text of up to 300 bytes that package expr reads, and of a number that picks how many scans are tried, 1 to 20: what package induct's Check says is proved, by how many scans, holds as package prop's Check says, and is told the same where one scan more is tried; what it says is refuted doesn't hold, by the inputs that prop's Check tells, as many as it says, and is told the same where one scan more is tried; what stays open holds, or is broken by more inputs than were tried; errors are prop's Check's), and the arguments read behind the call as they did before. Its conditions: the row's own reach, and that the variables that the row lists hold what the program's text lays (the card ties that to the text).
-/
import Derived.Test.YtjlkjhmmbaljiaaGreatDoorKeInductedAll
import Derived.Test.YtjlkjhmmbaljiaaGreatDoorPrViewAll
import Derived.Test.YtjlkjhmmbaljiaaGreatDoorLdParseW
import Derived.Test.YtjlkjhmmbaljiaaGreatDoorCards
import Derived.ProofKit
import Derived.LaidMore
import Derived.LaidHandle
import Derived.LaidSub
import Derived.OpenShut
import Derived.ShutString
import Derived.ChangeOld
import Derived.ChangeSame
import Derived.Below
import Derived.Handed
import Derived.Stop.Joined
import Derived.Stop.LaidErr
import Derived.Lay
import Derived.JoinedOf
namespace Go.Proofs.YtjlkjhmmbaljiaaGreatDoor
section
open Go.RowKit
set_option maxHeartbeats 8000000 in
set_option maxRecDepth 100000 in
theorem inductSound_any (s t : ByteArray) (mo : Int) (w : World) (hs : s.size ≤ maxLen) (ht : t.size ≤ maxLen) (hL : Laid w) :
    Calls Tryz.prog 3 #[.string s, .string t, .int .i64 mo] w fun e w' => e = .returned (.bool true) ∧ Below w.heap.size w w' := by
  have HL := hide hL
  have HMD := hide (kmade_any s 100 w hs hL (by omega))
  have HPX := hide (fun W => Parse_any t W ht)
  have HPB := hide (fun x h => Ex.parse_bnd t.data.toList x h)
  have HTL : Hid (t.data.toList.length = t.size) := by show _ = _; simp
  obtain ⟨T, hT⟩ : ∃ T, T = madeP s 100 := ⟨_, rfl⟩
  obtain ⟨PT, hPT⟩ : ∃ PT, PT = Ex.parse t.data.toList := ⟨_, rfl⟩
  rw [← hT] at HMD
  rw [← hPT] at HPX HPB
  have HT := hide hT
  have HPR : Hid (∀ W, Below w.heap.size w W → Calls Tryz.prog 5 #[] W fun e w' => e = .returned (.bool true) ∧ Below w.heap.size w w' ∧ Below W.heap.size W w') := fun W hW => by
    refine (inducted_any W (HL.out.below hW)).mono ?_
    rintro e w' ⟨rfl, h⟩
    exact ⟨rfl, hW.trans (h.mono hW.size), h⟩
  obtain ⟨r, hr, hr20⟩ : ∃ r : Nat, (r : Int) = mo % 18446744073709551616 % ((20 : Nat) : Int) ∧ r < 20 := by
    have h1 : 0 ≤ mo % 18446744073709551616 % 20 := Int.emod_nonneg _ (by decide)
    have h2 : mo % 18446744073709551616 % 20 < 20 := Int.emod_lt_of_pos _ (by decide)
    refine ⟨(mo % 18446744073709551616 % 20).toNat, ?_, by omega⟩
    rw [Int.toNat_of_nonneg h1]
    rfl
  have HPK : Hid (∀ W, Calls Tryz.prog 7 #[.int .i64 mo, .int .i64 20] W fun e w' => e = .returned (.int .i64 (r : Int)) ∧ W = w') := fun W => by
    have h1 := pick_any mo 20 W (by decide) (by decide)
    rw [← hr] at h1
    refine h1.mono ?_
    rintro e w' ⟨h2, h3⟩
    exact ⟨h2, h3.symm⟩
  have HMX : Hid (((1 + r : Nat) : Int) = 1 + (r : Int)) := by show _ = _; omega
  have HMY : Hid (((1 + r + 1 : Nat) : Int) = 1 + (r : Int) + 1) := by show _ = _; omega
  unfold maxLen at ht
  clear hT hPT hs hL hr
  go_enter Tryz.func3, Tryz.ntmps3
  go_wp2_with fail
  refine HMD.out.mono ?_
  intro e w1 hq
  clear HMD
  match T, hq, HT with
  | none, hq, _ =>
    obtain ⟨hb1, rfl⟩ := hq
    have HMC := hide (HPR.out w1 hb1)
    clear hb1
    go_wp2_with fail
    refine HMC.out.mono ?_
    rintro e w2 ⟨rfl, hb2, hk_⟩
    have HB2 := hide hb2
    clear hb2 hk_ HMC
    go_wp2_with fail
    go_ret
    exact ⟨rfl, HB2.out⟩
  | some p, hq, HT =>
    obtain ⟨hb1, bm, rfl, hbm, hmach, hck⟩ := hq
    obtain ⟨hq4, hS3⟩ := made_few HT.out
    have HB1 := hide hb1
    have HMA := hide hmach
    have HCK := hide hck
    clear hb1 hmach hck
    by_cases h3 : 300 < t.size
    · have h3i : (300 : Int) < (t.size : Int) := by omega
      have HP1 := hide (HPR.out w1 HB1.out)
      go_wp2_with fail
      refine HP1.out.mono ?_
      rintro e w2 ⟨rfl, hb2, hk_⟩
      have HB2 := hide hb2
      clear hb2 hk_ HP1
      go_wp2_with fail
      go_ret
      exact ⟨rfl, HB2.out⟩
    · have h3i : ¬ (300 : Int) < (t.size : Int) := by omega
      have HP2 := hide (HPX.out w1)
      go_wp2_with fail
      refine HP2.out.mono ?_
      intro e w2 hq
      clear HP2 HPX
      obtain ⟨hb2, hq⟩ := hq
      have HB2 := hide (HB1.out.trans (hb2.mono HB1.out.size))
      have HI2 := hide (HPR.out w2 HB2.out)
      match PT, hq, HPB with
      | .inl (err, none), hq, _ =>
        obtain rfl := hq
        clear hb2
        go_wp2_with fail
        refine HI2.out.mono ?_
        rintro e w3 ⟨rfl, hb3, hk_⟩
        have HI3 := hide (HPR.out w3 hb3)
        clear hb3 hk_ HI2
        go_wp2_with fail
        refine HI3.out.mono ?_
        rintro e w4 ⟨rfl, hb4, hk_⟩
        have HB4 := hide hb4
        clear hb4 hk_ HI3
        go_wp2_with fail
        go_ret
        exact ⟨rfl, HB4.out⟩
      | .inl (err, some pl), hq, _ =>
        obtain ⟨v, rfl, hv⟩ := hq
        obtain ⟨tu, yu, rfl⟩ : ∃ tu yu, v = .iface tu yu := by obtain ⟨a, _, h, _⟩ := hv; exact ⟨_, _, h⟩
        clear hb2 hv
        go_wp2_with fail
        refine HI2.out.mono ?_
        rintro e w3 ⟨rfl, hb3, hk_⟩
        have HI3 := hide (HPR.out w3 hb3)
        clear hb3 hk_ HI2
        go_wp2_with fail
        refine HI3.out.mono ?_
        rintro e w4 ⟨rfl, hb4, hk_⟩
        have HB4 := hide hb4
        clear hb4 hk_ HI3
        go_wp2_with fail
        go_ret
        exact ⟨rfl, HB4.out⟩
      | .inr x, hq, HPB =>
        obtain ⟨v, rfl, hx⟩ := hq
        obtain ⟨hp1, hp2, _⟩ := HPB.out x rfl
        have HSZ : Hid (x.size ≤ 1000000) := by
          show _ ≤ _
          rw [HTL.out] at hp1 hp2
          omega
        obtain ⟨tu, yu, rfl⟩ := IsEx.iface _ v hx
        have HX2 := hide hx
        have HM2 := hide (HMA.out.below hb2)
        clear hb2 hx hp1 hp2
        go_wp2_with fail
        refine HI2.out.mono ?_
        rintro e w3 ⟨rfl, hb3, hk3⟩
        have HB3 := hide hb3
        have HK3 := hide hk3
        have HIC : Hid (∀ W M, Below w3.heap.size w3 W → 1 ≤ M → M ≤ 50 → Calls Tryz.prog 8 #[.pointer (some ⟨bm, 0, none⟩), .iface tu yu, .int .i64 ((M : Nat) : Int)] W (IChecked W p x M)) := fun W M hW h1 h2 => by
          have hW2 : Below w2.heap.size w2 W := HK3.out.trans (hW.mono HK3.out.size)
          exact ICheck_any (fun _ => True) bm p x _ M W (HM2.out.below hW2) HCK.out (by omega) (by omega) (IsEx.stay (Stay.below hW2) (fun g _ => trivial) x _ HX2.out) HSZ.out h1 h2
        have HPC : Hid (∀ W, Below w3.heap.size w3 W → Calls Tryz.prog 9 #[.pointer (some ⟨bm, 0, none⟩), .iface tu yu] W (PChecked W p x)) := fun W hW => by
          have hW2 : Below w2.heap.size w2 W := HK3.out.trans (hW.mono HK3.out.size)
          exact PCheck_any (fun _ => True) bm p x _ W (HM2.out.below hW2) HCK.out (by omega) (by omega) (IsEx.stay (Stay.below hW2) (fun g _ => trivial) x _ HX2.out) HSZ.out
        have HC1 := hide (HIC.out w3 (1 + r) (Below.refl _ _) (by omega) (by omega))
        rw [HMX.out] at HC1
        have HP3 := hide (HPK.out w3)
        clear hb3 hk3 HI2
        go_wp2_with fail
        refine HP3.out.mono ?_
        rintro e w3' ⟨rfl, rfl⟩
        clear HP3
        go_wp2_with fail
        refine HC1.out.mono ?_
        intro e w4 hq
        obtain ⟨hb4, hq1⟩ := hq
        have HB4 := hide hb4
        have hz4 := hb4.size
        clear HC1 hb4
        have HKW : Hid (∀ W, Below w3.heap.size w3 W → Below w.heap.size w W) := fun W hW => HB3.out.trans (hW.mono HB3.out.size)
        cases hhas : Pr.has p.names x with
        | false =>
          rw [hhas, if_neg Bool.false_ne_true] at hq1
          have he : e = .returned (.tuple #[.agg #[.int .i64 0, .int .i64 0, .slice none 0 0], .iface 40 (.int .i64 7)]) := hq1
          subst he
          obtain ⟨w4', hw4'⟩ : ∃ w4', w4' = w4.alloc (.cells #[.int .i64 0, .int .i64 0, .slice none 0 0] 35) := ⟨_, rfl⟩
          have hb44 : Below w3.heap.size w3 w4' := by rw [hw4']; exact HB4.out.alloc hz4 _
          have q0 : w4'.cell? ⟨w4.heap.size, 0, none⟩ = some (.int .i64 0) := by rw [hw4']; exact Lib.cell_of_heap (heap_alloc_new w4 _) 0
          have HC2 := hide (HIC.out w4' (1 + r + 1) hb44 (by omega) (by omega))
          rw [HMY.out] at HC2
          have HB44 := hide hb44
          have HQ0 := hide q0
          have HW4 := hide hw4'
          rw [hw4'] at HC2
          clear hq1 hb44 q0 hw4'
          go_wp2_with fail
          refine HC2.out.mono ?_
          rw [← HW4.out]
          intro e w5 hq
          obtain ⟨hb5, hq2⟩ := hq
          rw [hhas, if_neg Bool.false_ne_true] at hq2
          have he : e = .returned (.tuple #[.agg #[.int .i64 0, .int .i64 0, .slice none 0 0], .iface 40 (.int .i64 7)]) := hq2
          subst he
          have hb35 : Below w3.heap.size w3 w5 := HB44.out.trans (hb5.mono HB44.out.size)
          obtain ⟨w5', hw5'⟩ : ∃ w5', w5' = w5.alloc (.cells #[.int .i64 0, .int .i64 0, .slice none 0 0] 35) := ⟨_, rfl⟩
          have hb55 : Below w3.heap.size w3 w5' := by rw [hw5']; exact hb35.alloc hb35.size _
          have q5 : w5'.cell? ⟨w4.heap.size, 0, none⟩ = some (.int .i64 0) := by
            have h1 := (hb5.cell (World.block_lt_of_cell? _ _ HQ0.out)).trans HQ0.out
            rw [hw5', World.cell?_alloc_lt _ _ _ (World.block_lt_of_cell? _ _ h1)]
            exact h1
          have HC3 := hide (HPC.out w5' hb55)
          have HB55 := hide hb55
          have HQ5 := hide q5
          have HW5 := hide hw5'
          rw [hw5'] at HC3
          clear hq2 hb35 hb55 hb5 q5 hw5' HC2
          go_wp2_with fail
          refine HC3.out.mono ?_
          rw [← HW5.out]
          intro e w6 hq
          obtain ⟨hb6, hq3⟩ := hq
          rw [hhas, if_neg Bool.false_ne_true] at hq3
          subst hq3
          have HTE : Hid (∀ W, Below w3.heap.size w3 W → Calls Tryz.prog 10 #[.iface 40 (.int .i64 7)] W fun e w' => e = .returned (.int .i64 7) ∧ Below w3.heap.size w3 w' ∧ Below W.heap.size W w') := fun W hW => by
            refine (ErAs.Tell_any _ 7 W (HL.out.below (HKW.out W hW)).door (.inl rfl)).mono ?_
            rintro e w' ⟨rfl, h⟩
            exact ⟨rfl, hW.trans (h.mono hW.size), h⟩
          have HB6 := hide (HB55.out.trans (hb6.mono HB55.out.size))
          have HQ6 := hide ((hb6.cell (World.block_lt_of_cell? _ _ HQ5.out)).trans HQ5.out)
          have HT1 := hide (HTE.out w6 HB6.out)
          clear hb6 HC3 hhas
          go_wp2_with fail
          refine HT1.out.mono ?_
          rintro e w7 ⟨rfl, hb7, hk7⟩
          have HT2 := hide (HTE.out w7 hb7)
          have HQ7 := hide ((hk7.cell (World.block_lt_of_cell? _ _ HQ6.out)).trans HQ6.out)
          clear hb7 hk7 HT1
          go_wp2_with fail
          refine HT2.out.mono ?_
          rintro e w8 ⟨rfl, hb8, hk8⟩
          have HT3 := hide (HTE.out w8 hb8)
          have HQ8 := hide ((hk8.cell (World.block_lt_of_cell? _ _ HQ7.out)).trans HQ7.out)
          clear hb8 hk8 HT2
          go_wp2_with fail
          refine HT3.out.mono ?_
          rintro e w9 ⟨rfl, hb9, hk9⟩
          have HT4 := hide (HTE.out w9 hb9)
          have HQ9 := hide ((hk9.cell (World.block_lt_of_cell? _ _ HQ8.out)).trans HQ8.out)
          clear hb9 hk9 HT3
          go_wp2_with fail
          refine HT4.out.mono ?_
          rintro e w10 ⟨rfl, hb10, hk10⟩
          have q10 := (hk10.cell (World.block_lt_of_cell? _ _ HQ9.out)).trans HQ9.out
          have HBE := hide (HKW.out _ hb10)
          clear hb10 hk10 HT4
          go_wp2_with fail
          go_ret
          exact ⟨rfl, HBE.out⟩
        | true =>
          rw [hhas, if_pos rfl] at hq1
          obtain ⟨c1, k1, a1, n1, p1, rfl, hF1⟩ := Indd.form hq1
          have HF1 := hide hF1
          obtain ⟨w4', hw4'⟩ : ∃ w4', w4' = w4.alloc (.cells #[.int .i64 (c1 : Int), .int .i64 (k1 : Int), .slice a1 n1 p1] 35) := ⟨_, rfl⟩
          have hb4n : Below w4.heap.size w4 w4' := by rw [hw4']; exact (Below.refl _ _).alloc (Nat.le_refl _) _
          have hb44 : Below w3.heap.size w3 w4' := by rw [hw4']; exact HB4.out.alloc hz4 _
          have HV4 : Hid (w4'.heap[w4.heap.size]? = some (.cells #[.int .i64 (c1 : Int), .int .i64 (k1 : Int), .slice a1 n1 p1] 35 (0, 0))) := by rw [hw4']; exact heap_alloc_new w4 _
          have HC2 := hide (HIC.out w4' (1 + r + 1) hb44 (by omega) (by omega))
          rw [HMY.out] at HC2
          have HB44 := hide hb44
          have HB4N := hide hb4n
          have HW4 := hide hw4'
          rw [hw4'] at HC2
          have hz44 : w4.heap.size < w4'.heap.size := by rw [hw4']; simp
          clear hq1 hb44 hw4' hF1 hb4n
          go_wp2_with fail
          refine HC2.out.mono ?_
          rw [← HW4.out]
          intro e w5 hq
          obtain ⟨hb5, hq2⟩ := hq
          rw [hhas, if_pos rfl] at hq2
          obtain ⟨c2, k2, a2, n2, p2, rfl, hF2⟩ := Indd.form hq2
          have HF2 := hide hF2
          have hb35 : Below w3.heap.size w3 w5 := HB44.out.trans (hb5.mono HB44.out.size)
          obtain ⟨w5', hw5'⟩ : ∃ w5', w5' = w5.alloc (.cells #[.int .i64 (c2 : Int), .int .i64 (k2 : Int), .slice a2 n2 p2] 35) := ⟨_, rfl⟩
          have hb5n : Below w5.heap.size w5 w5' := by rw [hw5']; exact (Below.refl _ _).alloc (Nat.le_refl _) _
          have hb55 : Below w3.heap.size w3 w5' := by rw [hw5']; exact hb35.alloc hb35.size _
          have HV5 : Hid (w5'.heap[w5.heap.size]? = some (.cells #[.int .i64 (c2 : Int), .int .i64 (k2 : Int), .slice a2 n2 p2] 35 (0, 0))) := by rw [hw5']; exact heap_alloc_new w5 _
          have HC3 := hide (HPC.out w5' hb55)
          have HB55 := hide hb55
          have HB5N := hide hb5n
          have HB5 := hide hb5
          have HW5 := hide hw5'
          rw [hw5'] at HC3
          have hz5 := hb5.size
          have hz55 : w5.heap.size < w5'.heap.size := by rw [hw5']; simp
          clear hq2 hb35 hb55 hb5 hw5' HC2 hF2 hb5n
          go_wp2_with fail
          refine HC3.out.mono ?_
          rw [← HW5.out]
          intro e w6 hq
          obtain ⟨hb6, hq3⟩ := hq
          rw [hhas, if_pos rfl] at hq3
          obtain ⟨b, a3, n3, p3, rfl, hF3⟩ := SaidT.formL hq3
          have v4 := (hb6.block _ (by omega)).trans ((HB5N.out.block _ (by omega)).trans ((HB5.out.block _ hz44).trans HV4.out))
          have v5 := (hb6.block _ (by omega)).trans HV5.out
          have s0 : w6.cell? ⟨w4.heap.size, 0, none⟩ = some (.int .i64 (c1 : Int)) := by rw [Lib.cell_of_heap v4]; rfl
          have s1 : w6.cell? ⟨w4.heap.size, 1, none⟩ = some (.int .i64 (k1 : Int)) := by rw [Lib.cell_of_heap v4]; rfl
          have s2 : w6.cell? ⟨w4.heap.size, 2, none⟩ = some (.slice a1 n1 p1) := by rw [Lib.cell_of_heap v4]; rfl
          have u0 : w6.cell? ⟨w5.heap.size, 0, none⟩ = some (.int .i64 (c2 : Int)) := by rw [Lib.cell_of_heap v5]; rfl
          have u1 : w6.cell? ⟨w5.heap.size, 1, none⟩ = some (.int .i64 (k2 : Int)) := by rw [Lib.cell_of_heap v5]; rfl
          have u2 : w6.cell? ⟨w5.heap.size, 2, none⟩ = some (.slice a2 n2 p2) := by rw [Lib.cell_of_heap v5]; rfl
          have HB6 := hide (HKW.out _ (HB55.out.trans (hb6.mono HB55.out.size)))
          have HK6 := hide hb6
          have HSH := hide (any_short p x HCK.out)
          clear hq3 HC3 v4 v5 hb6 hhas HV4 HV5
          obtain rfl | rfl | rfl := HF1.out.code
          · obtain ⟨rfl, rfl, rfl, hk1, hkM⟩ := ind_one HSH.out HF1.out HF2.out hF3
            have t0 : w6.cell? ⟨w4.heap.size, 0, none⟩ = some (.int .i64 1) := s0
            have t1 : w6.cell? ⟨w5.heap.size, 0, none⟩ = some (.int .i64 1) := u0
            have hk1i : (1 : Int) ≤ (k2 : Int) := by omega
            have hkMi : (k2 : Int) ≤ 1 + (r : Int) := by omega
            clear s0 u0 hF3 HF1 HF2
            go_wp2_with fail
            go_ret
            exact ⟨rfl, HB6.out⟩
          · obtain ⟨rfl, rfl, rfl, l, g1, g2, g3, hlk, hl5, hbr, rfl, rfl, ho1, rfl, rfl, ho2, rfl, rfl, ho3⟩ := ind_two HF1.out HF2.out hF3
            have t0 : w6.cell? ⟨w4.heap.size, 0, none⟩ = some (.int .i64 2) := s0
            have t1 : w6.cell? ⟨w5.heap.size, 0, none⟩ = some (.int .i64 2) := u0
            have hsm : ∀ i, i ∈ l → i ≤ 1000 := fun i hi => by
              have h1 := Pr.InR.lt (fun s => Mc.nexts_len p s) l 0 hbr.inr i hi
              have h2 : 2 ^ (Ld.kindL p.names 1).length ≤ 2 ^ 4 := Nat.pow_le_pow_right (by decide) hq4
              omega
            have hbw : Below w4.heap.size w4 w6 := HB4N.out.trans ((HB5.out.trans ((HB5N.out.trans (HK6.out.mono (by omega))).mono (by omega))).mono (by omega))
            have hbw5 : Below w5.heap.size w5 w6 := HB5N.out.trans (HK6.out.mono (by omega))
            have i1 := ints_own (own_below ho1 hbw) rfl hsm
            have i2 := ints_own (own_below ho2 hbw5) rfl hsm
            have i3 := ints_own ho3 rfl hsm
            rw [hlk] at i1 i2 i3
            have HS1 := hide (sameI_any _ _ _ w6 i1 i3 (by rw [List.length_map]; omega))
            have HS2 := hide (fun (W : World) (hW : Below w6.heap.size w6 W) => sameI_any _ _ _ W (i2.below hW) (i3.below hW) (by rw [List.length_map]; omega))
            clear s0 u0 hF3 HF1 HF2 ho1 ho2 ho3 i1 i2 i3 hbw hbw5 hsm hlk hl5 hbr
            go_wp2_with fail
            refine HS1.out.mono ?_
            rintro e w7 ⟨rfl, hb7⟩
            have HT2 := hide (HS2.out w7 hb7)
            have HB7 := hide (HB6.out.trans (hb7.mono HB6.out.size))
            have s1' := (hb7.cell (World.block_lt_of_cell? _ _ s1)).trans s1
            have t0' := (hb7.cell (World.block_lt_of_cell? _ _ t0)).trans t0
            have u1' := (hb7.cell (World.block_lt_of_cell? _ _ u1)).trans u1
            have t1' := (hb7.cell (World.block_lt_of_cell? _ _ t1)).trans t1
            have u2' := (hb7.cell (World.block_lt_of_cell? _ _ u2)).trans u2
            clear hb7 HS1 HS2 s1 t0 u1 t1 u2 s2
            go_wp2_with fail
            refine HT2.out.mono ?_
            rintro e w8 ⟨rfl, hb8⟩
            have HB8 := hide (HB7.out.trans (hb8.mono HB7.out.size))
            clear hb8 HT2
            go_wp2_with fail
            go_ret
            exact ⟨rfl, HB8.out⟩
          · obtain ⟨rfl, hb3⟩ := ind_three (by omega) HF1.out hF3
            have t0 : w6.cell? ⟨w4.heap.size, 0, none⟩ = some (.int .i64 3) := s0
            rw [HMX.out] at s1
            clear s0 u0 hF3 HF1 HF2
            rcases hb3 with rfl | ⟨rfl, hn3⟩
            · go_wp2_with fail
              go_ret
              exact ⟨rfl, HB6.out⟩
            · have hn3i : 1 + (r : Int) < (n3 : Int) := by omega
              go_wp2_with fail
              go_ret
              exact ⟨rfl, HB6.out⟩
end
section
namespace LdLaid
open Go.ChangeShapes Go.WideShapes Go.ChangeAt Go.RowKit
theorem gDoor : Tryz.prog.globalNamed "errors.errorType" = some 0 := by kernel_rfl
theorem rt : (Tryz.prog.cutTypes.find? (·.1 == "internal/reflectlite.rtype")).map (·.2) = some 163 := by kernel_rfl
theorem sizes : Tryz.prog.types.size = 329 := by kernel_rfl
theorem oneRow : ((List.range 329).filter fun t => Tryz.prog.rowNamed t [101, 114, 114, 111, 114]) = [29] := by kernel_rfl
theorem door_of {W : World} (h : handlesMet Tryz.prog [("errors.errorType", Rows.laid_errors_errorType)] W) : ErAs.Door W := by
  obtain ⟨name, u, ty, e1, e2, e3, e4, e5⟩ := h _ (List.mem_singleton.2 rfl)
  have en : name = [101, 114, 114, 111, 114] := (Option.some.inj e1).symm
  subst en
  obtain rfl := Option.some.inj (rt.symm.trans e2)
  have hm : ty ∈ (List.range 329).filter fun t => Tryz.prog.rowNamed t [101, 114, 114, 111, 114] := List.mem_filter.2 ⟨List.mem_range.2 (by rw [← sizes]; exact e3), e4⟩
  rw [oneRow] at hm
  obtain rfl := List.mem_singleton.1 hm
  have hh : typeHandle Tryz.prog 29 = .pointer (some ⟨11, 29, none⟩) := by kernel_rfl
  rw [hh] at e5
  unfold ErAs.Door
  simpa using World.var?_cell gDoor e5 0
theorem tPow : (Tryz.prog.globals[8]?).map (·.type) = some 297 := by kernel_rfl
theorem pows_of {W : World} (h : laidMet Tryz.prog [("internal/strconv.uint64pow10", Lib.tabData .u64 Lib.pow10Tab)] W) : Pows W :=
  Lib.tabIs_of_head gPows tPow Tryz.underlying297 Tryz.underlying249 (by kernel_rfl) (by kernel_rfl) h
theorem star : "*" ++ "errors.errorString" = "*errors.errorString" := by decide
theorem rowE (u : TypeId) (h : Tryz.prog.typeName? 3 u = some "*errors.errorString") : u = 293 :=
  typeName_ptr_named (nm := "errors.errorString") (by rw [star]; kernel_rfl) (by kernel_rfl) (by decide) u (by rw [star]; exact h)
theorem gES : Tryz.prog.globalNamed "strconv.ErrSyntax" = some 6 := by kernel_rfl
theorem gESType : (Tryz.prog.globals[6]?).map (·.type) = some 29 := by kernel_rfl
theorem gER : Tryz.prog.globalNamed "strconv.ErrRange" = some 7 := by kernel_rfl
theorem gERType : (Tryz.prog.globals[7]?).map (·.type) = some 29 := by kernel_rfl
theorem errs_of {W : World} (h1 : laidMet Tryz.prog [("strconv.ErrSyntax", Rows.laid_strconv_ErrSyntax)] W) (h2 : laidMet Tryz.prog [("strconv.ErrRange", Rows.laid_strconv_ErrRange)] W) : NumErrs W := by
  obtain ⟨a0, s0, hv0, -, -, -⟩ := laid_sentinel h1 gES gESType Tryz.underlying29 rowE Tryz.underlying293 Tryz.underlying295 rfl rfl Tryz.underlying9 (by kernel_rfl) (by kernel_rfl)
  obtain ⟨a1, s1, hv1, -, -, -⟩ := laid_sentinel h2 gER gERType Tryz.underlying29 rowE Tryz.underlying293 Tryz.underlying295 rfl rfl Tryz.underlying9 (by kernel_rfl) (by kernel_rfl)
  exact ⟨⟨_, _, by have h0 := World.var?_cell gES hv0 0; simpa using h0⟩, _, _, by have h0 := World.var?_cell gER hv1 0; simpa using h0⟩
/-- a table of texts -/
theorem strs_of {W : World} {name : String} {g n : Nat} {t : TypeId} {ls : List (List UInt8)} (hg : Tryz.prog.globalNamed name = some g) (ht : (Tryz.prog.globals[g]?).map (·.type) = some t) (hu : Tryz.prog.underlying t = some (.array n 9))
    (h : laidMet Tryz.prog [(name, .agg (ls.map fun l => .lit (.string l)))] W) : ∀ (i : Nat) l, ls[i]? = some l → W.cell? ⟨g, i, none⟩ = some (.string ⟨l.toArray⟩) := by
  intro i l hl
  obtain ⟨ps, ⟨g0, t0, cs0, f0, p0, q0, hg0, ht0, hv0, hd0, _, _⟩, _, _⟩ := h
  obtain rfl := Option.some.inj (hg.symm.trans hg0)
  obtain rfl := Option.some.inj (ht.symm.trans ht0)
  obtain ⟨xs, m, _, hx, hlen, hn, hall⟩ := DataW.trod_array hu hd0
  have hce : Tryz.prog.cellsOf 9 = 1 := by kernel_rfl
  simp only [Prod.mk.injEq, DataW.agg.injEq] at hx
  have hi : i < n := by
    have h1 := congrArg List.length hx.1
    simp only [List.length_map] at h1
    have h2 := (List.getElem?_eq_some_iff.1 hl).1
    omega
  have h1 := hall i hi
  rw [hce, Nat.mul_one] at h1
  obtain ⟨y, hy⟩ : ∃ y, xs[i]? = some y := ⟨xs[i], List.getElem?_eq_getElem (by omega)⟩
  rw [hy] at h1
  obtain ⟨s, e1, e2, _⟩ := DataW.trod_string Tryz.underlying9 h1
  have h3 := congrArg (·[i]?) hx.1
  simp only [List.getElem?_map, hl, hy, Option.map_some, e2, Option.some.injEq, DataW.lit.injEq, Lit.string.injEq] at h3
  have h4 := World.var?_cell hg0 hv0 i
  have h5 : cs0.toList[i]? = some (.string s) := by
    have h6 := congrArg (·[0]?) e1
    simpa [List.getElem?_take, List.getElem?_drop] using h6
  rw [h3]
  have h7 : cs0[i]? = some (.string s) := by rw [← Array.getElem?_toList]; exact h5
  simpa [h7] using h4
theorem gNW : Tryz.prog.globalNamed "signalcabin/ladder.nameWords" = some 1 := by kernel_rfl
theorem gRW : Tryz.prog.globalNamed "signalcabin/ladder.rungWords" = some 2 := by kernel_rfl
theorem tNW : (Tryz.prog.globals[1]?).map (·.type) = some 235 := by kernel_rfl
theorem tRW : (Tryz.prog.globals[2]?).map (·.type) = some 237 := by kernel_rfl
theorem words_of {W : World} (h1 : laidMet Tryz.prog [("signalcabin/ladder.nameWords", Rows.laid_signalcabin_ladder_nameWords)] W) (h2 : laidMet Tryz.prog [("signalcabin/ladder.rungWords", Rows.laid_signalcabin_ladder_rungWords)] W) : Words W := by
  have k1 := strs_of (ls := [[], [105, 110, 112, 117, 116], [99, 111, 105, 108], [116, 105, 109, 101, 114], [99, 111, 117, 110, 116, 101, 114]]) gNW tNW Tryz.underlying235 h1
  have k2 := strs_of (ls := [[], [], [115, 101, 116], [114, 101, 115, 101, 116], [114, 117, 110], [99, 111, 117, 110, 116], [122, 101, 114, 111]]) gRW tRW Tryz.underlying237 h2
  refine ⟨fun i hi => ?_, fun i hi => ?_⟩
  · match i, hi with
    | 0, _ => exact k1 0 _ rfl
    | 1, _ => exact k1 1 _ rfl
    | 2, _ => exact k1 2 _ rfl
    | 3, _ => exact k1 3 _ rfl
    | 4, _ => exact k1 4 _ rfl
    | n + 5, h => omega
  · match i, hi with
    | 0, _ => exact k2 0 _ rfl
    | 1, _ => exact k2 1 _ rfl
    | 2, _ => exact k2 2 _ rfl
    | 3, _ => exact k2 3 _ rfl
    | 4, _ => exact k2 4 _ rfl
    | 5, _ => exact k2 5 _ rfl
    | 6, _ => exact k2 6 _ rfl
    | n + 7, h => omega
/-- one variable of a list -/
def only (l : List (String × DataW Unit)) (s : String) : List (String × DataW Unit) := (l.filter fun x => x.2.handleName?.isNone).filter fun x => x.1 == s
theorem laid_of {W : World} {l : List (String × DataW Unit)} (hh : (l.filter fun x => x.2.handleName?.isSome) = [("errors.errorType", Rows.laid_errors_errorType)])
    (h1 : only l "strconv.ErrSyntax" = [("strconv.ErrSyntax", Rows.laid_strconv_ErrSyntax)]) (h2 : only l "strconv.ErrRange" = [("strconv.ErrRange", Rows.laid_strconv_ErrRange)])
    (h3 : only l "internal/strconv.uint64pow10" = [("internal/strconv.uint64pow10", Lib.tabData .u64 Lib.pow10Tab)])
    (h4 : only l "signalcabin/ladder.nameWords" = [("signalcabin/ladder.nameWords", Rows.laid_signalcabin_ladder_nameWords)]) (h5 : only l "signalcabin/ladder.rungWords" = [("signalcabin/ladder.rungWords", Rows.laid_signalcabin_ladder_rungWords)])
    (h : laidMetH Tryz.prog l W) (hlow : 11 ≤ W.heap.size) : Laid W := by
  unfold laidMetH at h
  rw [hh] at h
  obtain ⟨hd, hx⟩ := h
  have f := fun s => hd.filter fun x => x.1 == s
  have f1 := f "strconv.ErrSyntax"
  have f2 := f "strconv.ErrRange"
  have f3 := f "internal/strconv.uint64pow10"
  have f4 := f "signalcabin/ladder.nameWords"
  have f5 := f "signalcabin/ladder.rungWords"
  unfold only at h1 h2 h3 h4 h5
  rw [h1] at f1
  rw [h2] at f2
  rw [h3] at f3
  rw [h4] at f4
  rw [h5] at f5
  exact ⟨words_of f4 f5, errs_of f1 f2, pows_of f3, door_of hx, hlow⟩
/-- the last package variable's block -/
theorem low_of {W : World} (h : W.ShapedOpen Tryz.prog) : 11 ≤ W.heap.size := by
  have hg : Tryz.prog.globals.size = 11 := by kernel_rfl
  have hi : (((begin Tryz.prog (fun _ _ => 0) default).world.heap[11 - 1]?).bind Obj.row?).isSome = true := by kernel_rfl
  obtain ⟨⟨z, t⟩, hr⟩ := Option.isSome_iff_exists.1 hi
  obtain ⟨cs, hc, _⟩ := h.1 (11 - 1) z t (by rw [hg]; decide) hr
  have := (Array.getElem?_eq_some_iff.1 hc).1
  omega
set_option maxRecDepth 100000 in
/-- a row's contract, proved where the start's memory is known to be shaped -/
theorem returns_low {H : Type} {enc : TypeId × Value → H} {os : Os} {f : FuncId} {fn : Func} {s : ChangeSpec} {X : World → Prop} (hX : ∀ (w w' : World), w.heap = w'.heap → X w → X w')
    (own : ownKnob Tryz.checked.prog.godebug = none) (started : os.Started) (noInit : Tryz.checked.prog.inits.idxOf? f = none) (hfn : Tryz.checked.prog.funcs[f]? = some fn)
    (witness : ∃ (w : World) (tape : Tape) (i : Input), w.os = os ∧ (w.forCall tape i).Shaped Tryz.checked.prog ∧ i.vars = [] ∧ Input.okWide Tryz.checked.prog (w.forCall tape i) .any w.heap.size f i ∧
      ((s.pre enc Tryz.checked.prog fn [] false (w.forCall tape i).memory i.args ∧ X (w.forCall tape i).memory) ∧ sizedMet enc Tryz.checked.prog fn (OpenSpec.ofChange s) false (w.forCall tape i).memory i.args) ∧ ({} : Assume).holds Tryz.checked.prog (lone (Frame.enter Tryz.checked.prog f i.args .normal) [] (w.forCall tape i)))
    (contract : ∀ (W : World) (base : Nat) (args : Array Value) (ds gs : List (DataW H)) (before : List MemPlace), 11 ≤ W.heap.size →
      (∀ (j : Nat) t v, fn.params[j]? = some t → args[j]? = some v → Value.okWide Tryz.checked.prog W .any base t v) →
      DataW.Whole enc Tryz.checked.prog fn.params.toList s.vars false W args.toList ds gs before → X W →
      Calls Tryz.checked.prog f args W fun e W' => ∃ v, e = .returned v ∧ s.post enc Tryz.checked.prog fn false true false false W args v W') :
    ReturnsInHanded {} Tryz.checked os f .any (fun w args => (s.pre enc Tryz.checked.prog fn [] false w args ∧ X w) ∧ sizedMet enc Tryz.checked.prog fn (OpenSpec.ofChange s) false w args) (s.post enc Tryz.checked.prog fn false true false false) := by
  refine returnsInHanded_of_calls own started noInit witness fun w tape i _ hsh _ hok hpre _ => ?_
  obtain ⟨_, _, _, fn', hfn', _, _, _, _, hval⟩ := hok
  obtain rfl : fn' = fn := Option.some.inj (hfn'.symm.trans hfn)
  obtain ⟨⟨⟨ds, gs, before, hw, _⟩, hx⟩, _⟩ := hpre
  have hw' := DataW.Whole.of_heap (w' := w.forCall tape i) (by rfl) hw
  have hx' := hX _ (w.forCall tape i) (by rfl) hx
  refine (contract (w.forCall tape i) w.heap.size i.args ds gs before (low_of hsh) hval hw' hx').mono ?_
  rintro e W' ⟨v, rfl, hp⟩
  exact ChangeSpec.post_blind hp
end LdLaid
end
section
namespace LbMet
open Go.RowKit
theorem all {w0 : World} {laid : List (String × DataW Unit)} (args : Array Value) (hf : w0.layFits Tryz.prog laid [] = true) (hi : w0.layIfaces Tryz.prog laid (w0.layVars Tryz.prog laid) = true) :
    laidMet Tryz.prog laid ((w0.layVars Tryz.prog laid).forCall (fun _ _ => 0) ⟨#[], args, []⟩).memory := by
  have e1 : (laid.filter fun x => (laid.map (·.1)).contains x.1) = laid := List.filter_eq_self.2 fun x hx => List.contains_iff_mem.2 (List.mem_map.2 ⟨x, hx, rfl⟩)
  have e2 : (laid.filter fun x => !(laid.map (·.1)).contains x.1) = [] := List.filter_eq_nil_iff.2 fun x hx => by rw [List.contains_iff_mem.2 (List.mem_map.2 ⟨x, hx, rfl⟩)]; simp
  have h : laidMet Tryz.prog laid (w0.layVars Tryz.prog laid) := laidMet_layVars (w0 := w0) (laid.map (·.1)) [] (by rw [e1]) (by rw [e1]; exact hf) (by rw [e1]; exact hi) (by rw [e2]; exact LaidIn.none)
  exact h.of_heap (by simp [World.memory, World.forCall, Input.heap])
/-- what is laid by the law -/
def data : List (String × DataW Unit) := Rows.inductSoundRow.laid.filter fun x => x.2.handleName?.isNone
theorem start_os (os : Os) : ((World.doorLaid Tryz.prog 400 os).layVars Tryz.prog data).os = os := (World.layVars_os _ _ _).trans rfl
theorem fits (os : Os) : (World.doorLaid Tryz.prog 400 os).layFits Tryz.prog data [] = true := by kernel_rfl
theorem ifaces (os : Os) : (World.doorLaid Tryz.prog 400 os).layIfaces Tryz.prog data ((World.doorLaid Tryz.prog 400 os).layVars Tryz.prog data) = true := by kernel_rfl
theorem hand (os : Os) (args : Array Value) : (Rows.inductSoundRow.laid.filter fun x => x.2.handleName?.isSome && x.2.funcsIn?.isNone).all (handleAtB Tryz.prog (((World.doorLaid Tryz.prog 400 os).layVars Tryz.prog data).forCall (fun _ _ => 0) ⟨#[], args, []⟩).memory) = true := by kernel_rfl
theorem met (os : Os) (args : Array Value) : laidMetH Tryz.prog Rows.inductSoundRow.laid (((World.doorLaid Tryz.prog 400 os).layVars Tryz.prog data).forCall (fun _ _ => 0) ⟨#[], args, []⟩).memory :=
  laidMetH_of_parts3 (fuel := 8) (all args (fits os) (ifaces os)) (hand os args) (by kernel_rfl)
theorem shape (os : Os) (args : Array Value) : (((World.doorLaid Tryz.prog 400 os).layVars Tryz.prog data).forCall (fun _ _ => 0) ⟨#[], args, []⟩).Shaped Tryz.prog := World.shaped_of_ZipB (by kernel_rfl) (by kernel_rfl)
end LbMet
end
section
namespace IdFacts
set_option maxHeartbeats 4000000 in
theorem closed : joinedFacts Tryz.prog 3 Tryz.f3 Rows.inductSoundSpec Rows.inductSoundRow = true := by
  unfold joinedFacts
  repeat' rw [Bool.and_eq_true]
  repeat' apply And.intro
  all_goals (as_aux_lemma => kernel_rfl)
end IdFacts
end
section
namespace ClaimInduct
open Go.ChangeShapes Go.WideShapes Go.ChangeAt Go.RowKit
open Go.ChangeMaps (open_string shut_string)
set_option linter.unusedVariables false
theorem own : ownKnob Tryz.prog.godebug = none := by kernel_rfl
theorem laidOut : laidOutB Tryz.prog = true := by kernel_rfl
theorem laid {W : World} (h : laidMetH Tryz.prog Rows.inductSoundRow.laid W) (hlow : 11 ≤ W.heap.size) : Laid W :=
  LdLaid.laid_of (by kernel_rfl) (by kernel_rfl) (by kernel_rfl) (by kernel_rfl) (by kernel_rfl) (by kernel_rfl) h hlow
set_option maxRecDepth 100000 in
theorem lifted (os : Os) (started : os.Started) (H : Type) (enc : TypeId × Value → H) :
    ReturnsInHanded {} Tryz.checked os 3 .any (fun w args => (Rows.inductSoundSpec.pre enc Tryz.prog Tryz.f3 [] false w args ∧ laidMetH Tryz.prog Rows.inductSoundRow.laid w) ∧ sizedMet enc Tryz.prog Tryz.f3 (OpenSpec.ofChange Rows.inductSoundSpec) false w args)
      (Rows.inductSoundSpec.post enc Tryz.prog Tryz.f3 false true false false) := by
  refine LdLaid.returns_low (X := fun w => laidMetH Tryz.prog Rows.inductSoundRow.laid w) (fun _ _ hh h => h.of_heap hh) own started (by kernel_rfl) Tryz.func3
    (ChangeSpec.witness_shaped (enc := enc) (C := Tryz.checked) (os := os) (X := fun w _ => laidMetH Tryz.prog Rows.inductSoundRow.laid w) false ((World.doorLaid Tryz.prog 400 os).layVars Tryz.prog LbMet.data) #[.string ByteArray.empty, .string ByteArray.empty, .int .i64 0] 8 (LbMet.start_os os) (LbMet.shape os _) (by kernel_rfl) (by kernel_rfl) (by kernel_rfl) (LbMet.met os _)) ?_
  intro W base args ds gs before hlow hval0 hW hL
  have hld := laid hL hlow
  have hval : ∀ (j : Nat) t v, Tryz.f3.params[j]? = some t → args[j]? = some v → Value.okWide Tryz.prog W .any base t v := hval0
  have hW' := hW
  obtain ⟨p, q, hA0, hV, rfl, hfz, hnd⟩ := hW
  have hA : DataW.TrodAll enc Tryz.prog W 0 (fun _ => true) true Tryz.f3.params.toList args.toList ds p := hA0
  rw [Tryz.params3] at hA hval
  obtain ⟨v0, vs0, d0, ds0, p0, q0, hargs, rfl, rfl, h0, r0⟩ := trodAll_cons hA
  obtain ⟨v1, vs1, d1, ds1, p1, q1, rfl, rfl, rfl, h1, r1⟩ := trodAll_cons r0
  obtain ⟨v2, vs2, d2, ds2, p2, q2, rfl, rfl, rfl, h2, r2⟩ := trodAll_cons r1
  obtain ⟨rfl, rfl, rfl⟩ := trodAll_nil r2
  obtain rfl : args = #[v0, v1, v2] := by cases args; simp_all
  obtain ⟨rfl, rfl⟩ := trodVars_none hV
  obtain ⟨a0, rfl, rfl, rfl, w0⟩ := open_string Tryz.underlying9 (hval 0 9 v0 rfl rfl) h0
  obtain ⟨b0, rfl, rfl, rfl, w1⟩ := open_string Tryz.underlying9 (hval 1 9 v1 rfl rfl) h1
  obtain ⟨c0, rfl, rfl, rfl, w2⟩ := open_int Tryz.underlying3 (hval 2 3 v2 rfl rfl) h2
  clear hA0 hval0
  refine (inductSound_any a0 b0 c0 W w0 w1 hld).mono fun e W' ⟨he, bel⟩ => ?_
  subst he
  exact ⟨_, rfl, _, _, _, [], _, [], hW', trodAll_mk1 (shut_bool Tryz.underlying4 _), (trodAll_cons_mk (shut_string Tryz.underlying9 w0) (trodAll_cons_mk (shut_string Tryz.underlying9 w1) (trodAll_cons_mk (shut_int Tryz.underlying3 w2) trodAll_mk0))), rfl, bel.frame _, fun h => by cases h⟩
theorem named : Tryz.prog.funcNamed "signalcabin/signalcabinkeep.InductSound" = some 3 := by kernel_rfl
theorem inst : Tryz.f3.isInstance Tryz.prog Rows.inductSoundRow.origin Rows.inductSoundRow.targs := of_decide_eq_true (by kernel_rfl)
theorem wrap : Tryz.f3.isWrapper Tryz.prog Rows.inductSoundRow.wrapper Rows.inductSoundRow.mainSum := by unfold Func.isWrapper; first | (rw [if_pos (by decide +kernel)]; kernel_rfl) | (rw [if_neg (by decide +kernel)]; exact ⟨rfl, rfl⟩)
theorem over : Rows.InductSoundSaid :=
  OpenClaim.holds_of_wide 3 Tryz.f3 rfl rfl rfl rfl rfl rfl rfl ⟨rfl, rfl, rfl, rfl, rfl⟩ rfl rfl rfl rfl rfl named Tryz.func3 IdFacts.closed
    inst wrap (fun os started H enc _ => lifted os started H enc)
end ClaimInduct
end
end Go.Proofs.YtjlkjhmmbaljiaaGreatDoor
