/-
  The walk of the statement BlockBlocks.
-/
import Derived.Test.YtdeijfkahhgojaaDoorRkLeast
import Derived.Test.YtdeijfkahhgojaaDoorRkAt
namespace Go.Proofs.YtdeijfkahhgojaaDoor
namespace Bk
open Go.RowKit ErAs
theorem nilR (w : World) : Rows w (.slice none 0 0) [] := ⟨none, 0, rfl, by simp, fun k r hk => by simp at hk⟩
theorem nilJ (w : World) : Ints w (.slice none 0 0) [] := Ints.nil _ _ _
theorem check_err {N T : List (List Int)} {e : Nat} {p : Option Nat} (h : check N T = some (e, p)) : e = 2 ∨ e = 3 ∨ e = 4 := by
  unfold check at h
  split at h
  · simp only [Option.some.injEq, Prod.mk.injEq] at h; omega
  · split at h
    · simp only [Option.some.injEq, Prod.mk.injEq] at h; omega
    · obtain ⟨s, _, hs⟩ := List.exists_of_findSome?_eq_some h
      rw [Option.map_eq_some_iff] at hs
      obtain ⟨e', he, hx⟩ := hs
      simp only [Prod.mk.injEq] at hx
      obtain ⟨rfl, _⟩ := hx
      unfold badAt rowBad at he
      split at he
      · split at he
        · cases he; exact .inl rfl
        · cases he
      · cases he; exact .inr (.inl rfl)
theorem gd_same {N T : List (List Int)} {d e : Nat} (hd : Stable (tab N T) d) (he : Stable (tab N T) e) : gd N T d = gd N T e := grp_stable_eq (t := tab N T) d e hd he
/-- what Blocks comes to, in one form -/
def BSum (N T : List (List Int)) (r : Option (Nat × Option Nat)) (l : List Int) : Prop := (check N T ≠ none ∧ r = check N T ∧ l = []) ∨ (check N T = none ∧ r = none ∧ ∃ d, Stable (tab N T) d ∧ l = ints (gd N T d).1)
theorem blocks_sum {w w' : World} {N T : List (List Int)} {e : Ending} (h : BlocksDone w N T e w') : Below w.heap.size w w' ∧ ∃ pa pc l ev r, e = .returned (.tuple #[.slice pa l.length pc, ev]) ∧ ErrIs w' ev r ∧ Ints w' (.slice pa l.length pc) l ∧ BSum N T r l := by
  obtain ⟨hb, h⟩ := h
  refine ⟨hb, ?_⟩
  rcases h with ⟨h1, v, rfl, h2⟩ | ⟨h1, d, g, _, h2, rfl, h3, _⟩
  · exact ⟨none, 0, [], v, _, rfl, h2, nilJ _, .inl ⟨h1, rfl, rfl⟩⟩
  · have hG := good_of h1
    have hn5 := hG.few
    have HI : GInv (eqB (tab N T) d) N.length (gd N T d).1 (gd N T d).2 := inv_grp (eqv_eqB (tab N T) d) N.length (Nat.le_refl _)
    have hl : (ints (gd N T d).1).length = N.length := by rw [ints_len, HI.len]
    refine ⟨some ⟨g, 0, none⟩, N.length, _, .nilIface, none, by rw [hl], rfl, ?_, .inr ⟨h1, rfl, d, h2, rfl⟩⟩
    have := ints_row h3 (by rw [hl]; unfold maxLen; omega) (fun x hx => by
      obtain ⟨j, hj⟩ := List.getElem?_of_mem hx
      have hjs : j < N.length := by have := (List.getElem?_eq_some_iff.1 hj).1; rw [hl] at this; exact this
      obtain ⟨q, f, e1, e2, _⟩ := HI.has j hjs
      have hq := (List.getElem?_eq_some_iff.1 e2).1
      have hf := firsts_le (al := eqB (tab N T) d) N.length
      have hf : (gd N T d).2.length ≤ N.length := hf
      rw [ints_get _ _ _ e1] at hj
      cases hj
      unfold I64; omega)
    rw [hl] at this ⊢
    exact this
/-- what Least comes to, in one form -/
def LSum (N T : List (List Int)) (r : Option (Nat × Option Nat)) (LN LT : List (List Int)) : Prop := (check N T ≠ none ∧ r = check N T ∧ LN = [] ∧ LT = []) ∨ (check N T = none ∧ r = none ∧ ∃ d, Stable (tab N T) d ∧ LN = leastN N T d ∧ LT = leastT N T d)
theorem least_sum {w w' : World} {N T : List (List Int)} {e : Ending} (h : LeastDone w N T e w') : Below w.heap.size w w' ∧ ∃ na nc ta tc LN LT ev r, e = .returned (.tuple #[.agg #[.slice na LN.length nc, .slice ta LT.length tc], ev]) ∧ ErrIs w' ev r ∧ Rows w' (.slice na LN.length nc) LN ∧ Rows w' (.slice ta LT.length tc) LT ∧ LSum N T r LN LT := by
  obtain ⟨hb, h⟩ := h
  refine ⟨hb, ?_⟩
  rcases h with ⟨h1, v, rfl, h2⟩ | ⟨h1, d, nv, tv, _, h2, rfl, h3, h4⟩
  · exact ⟨none, 0, none, 0, [], [], v, _, rfl, h2, nilR _, nilR _, .inl ⟨h1, rfl, rfl, rfl⟩⟩
  · obtain ⟨na, nc, rfl⟩ := h3.slice
    obtain ⟨ta, tc, rfl⟩ := h4.slice
    exact ⟨na, nc, ta, tc, _, _, .nilIface, none, rfl, rfl, h3, h4, .inr ⟨h1, rfl, d, h2, rfl, rfl⟩⟩
set_option maxHeartbeats 16000000 in
set_option maxRecDepth 100000 in
theorem blockBlocks_any (N T : List (List Int)) (nv tv : Value) (w : World) (hN : Rows w nv N) (hT : Rows w tv T) (hf : Fine w) (hg : Door w) :
    Calls Tryd.prog 3 #[.agg #[nv, tv]] w fun e w' => e = .returned (.bool true) ∧ Below w.heap.size w w' := by
  obtain ⟨wA, hwA⟩ : ∃ wA, wA = w.alloc (.cells #[nv, tv] 24) := ⟨_, rfl⟩
  have hBA : Below w.heap.size w wA := by rw [hwA]; exact (Below.refl _ _).alloc (Nat.le_refl _) _
  have hTA : Tab wA w.heap.size nv tv := by rw [hwA]; exact Tab.new _ _ _
  have HTC := hide (tables_any N T nv tv wA (hN.below hBA) (hT.below hBA) (hf.below hBA))
  have HNA := hide (hN.below hBA)
  have HTT := hide (hT.below hBA)
  have HGA := hide (door_kept hg hBA)
  have HTA := hide hTA
  have HBA := hide hBA
  obtain ⟨na, nc, rfl⟩ := hN.slice
  obtain ⟨ta, tc, rfl⟩ := hT.slice
  obtain ⟨t0, t1⟩ := hTA
  clear hN hT hf hg hBA
  go_enter Tryd.func3, Tryd.ntmps3
  go_wp2_with fail
  rw [← hwA]
  clear hwA
  refine HTC.out.mono ?_
  rintro e w1 ⟨hb1, E, P, ok, rfl, hok⟩
  obtain ⟨w2, hw2⟩ : ∃ w2, w2 = w1.alloc (.cells #[.slice na N.length nc, .slice ta T.length tc] 25) := ⟨_, rfl⟩
  obtain ⟨w3, hw3⟩ : ∃ w3, w3 = w2.alloc (.cells #[.int .i64 E, .int .i64 P] 28) := ⟨_, rfl⟩
  have hzw2 : w2.heap.size = w1.heap.size + 1 := by rw [hw2]; simp
  have hb2 : Below w1.heap.size w1 w2 := by rw [hw2]; exact (Below.refl _ _).alloc (Nat.le_refl _) _
  have hb3 : Below w2.heap.size w2 w3 := by rw [hw3]; exact (Below.refl _ _).alloc (Nat.le_refl _) _
  have HB3 : Hid (Below wA.heap.size wA w3) := then_ hb1 (then_ hb2 hb3)
  have HR2 : Hid (RowIs w3 w1.heap.size 25 [.slice na N.length nc, .slice ta T.length tc]) := (by rw [hw2]; exact RowIs.new _ _ _ : RowIs w2 _ _ _).below hb3
  have HR3 : Hid (RowIs w3 (w1.heap.size + 1) 28 [.int .i64 E, .int .i64 P]) := by rw [hw3, ← hzw2]; exact RowIs.new _ _ _
  have HOK := hide hok
  obtain ⟨s0, s1⟩ := HTA.out.below hb1
  have s0' := fun o o' => cell_alloc_keep (w1.alloc o) o' _ _ (cell_alloc_keep w1 o _ _ s0)
  have s1' := fun o o' => cell_alloc_keep (w1.alloc o) o' _ _ (cell_alloc_keep w1 o _ _ s1)
  clear hb1 hb2 hb3 hok hzw2
  cases ok with
  | false =>
    have HFE : Hid (Below w.heap.size w w3) := then_ HBA.out HB3.out
    go_wp2_with fail
    rw [← hw2, ← hw3]
    go_ret
    exact ⟨rfl, HFE.out⟩
  | true =>
    obtain ⟨hE, hP, _⟩ := HOK.out rfl
    have HE := hide hE
    have HP := hide hP
    clear hE hP HOK
    have HBW3 : Hid (Below w.heap.size w w3) := then_ HBA.out HB3.out
    have HBL := hide (Blocks_any N T (.slice na N.length nc) (.slice ta T.length tc) w3 (HNA.out.below HB3.out) (HTT.out.below HB3.out))
    go_wp2_with fail
    rw [← hw2, ← hw3]
    clear hw2 hw3
    refine HBL.out.mono ?_
    intro e w4 hbd
    obtain ⟨hb4, pa, pc, l, ev1, r1, rfl, her1, hpi, hbs⟩ := blocks_sum hbd
    have HB4 := hide (then_ HB3.out hb4)
    have HER1 := hide her1
    have HPI := hide hpi
    have HBS := hide hbs
    have HLE := hide (Least_any N T (.slice na N.length nc) (.slice ta T.length tc) w4 (HNA.out.below HB4.out) (HTT.out.below HB4.out))
    obtain ⟨t0, t1⟩ := HTA.out.below HB4.out
    have HR2' := hide (HR2.out.below hb4)
    have HR3' := hide (HR3.out.below hb4)
    clear hb4 hbd her1 hpi hbs HBL HR2 HR3 s0' s1' s0 s1
    go_wp2_with fail
    refine HLE.out.mono ?_
    intro e w5 hld
    obtain ⟨hb5, xa, xc, ya, yc, LN, LT, ev2, r2, rfl, her2, hxn, hxt, hls⟩ := least_sum hld
    obtain ⟨w6, hw6⟩ : ∃ w6, w6 = w5.alloc (.cells #[.slice xa LN.length xc, .slice ya LT.length yc] 24) := ⟨_, rfl⟩
    have hb6 : Below w5.heap.size w5 w6 := by rw [hw6]; exact (Below.refl _ _).alloc (Nat.le_refl _) _
    have HR6 : Hid (RowIs w6 w5.heap.size 24 [.slice xa LN.length xc, .slice ya LT.length yc]) := by rw [hw6]; exact RowIs.new _ _ _
    have hb56 := then_ hb5 hb6
    have HB6 := hide (then_ HB4.out hb56)
    have HER1' := hide (HER1.out.below hb56)
    have HPI' := hide (HPI.out.below hb56)
    have HER2 := hide (her2.below hb6)
    have HXN := hide (hxn.below hb6)
    have HXT := hide (hxt.below hb6)
    have HLS := hide hls
    have HR2 := hide (HR2'.out.below hb56)
    have HR3 := hide (HR3'.out.below hb56)
    have HG6 := hide (door_kept HGA.out HB6.out)
    have HT6 := hide (HTA.out.below HB6.out)
    clear hb5 hb6 hb56 hld her2 hxn hxt hls HLE HR2' HR3' HER1 HPI t0 t1
    have hrr : r1 = check N T ∧ r2 = check N T := by
      constructor
      · rcases HBS.out with ⟨_, h, _⟩ | ⟨h, h2, _⟩
        · exact h
        · rw [h, h2]
      · rcases HLS.out with ⟨_, h, _⟩ | ⟨h, h2, _⟩
        · exact h
        · rw [h, h2]
    obtain ⟨rfl, rfl⟩ := hrr
    have HN6 := hide (HNA.out.below HB6.out)
    have HTT6 := hide (HTT.out.below HB6.out)
    have HCH := hide (fun W (hW : Below w6.heap.size w6 W) => Check_any N T (.slice na N.length nc) (.slice ta T.length tc) W (HN6.out.below hW) (HTT6.out.below hW))
    have HA0 : Hid (∀ W v, Below w6.heap.size w6 W → ErrIs W v (check N T) → Calls Tryd.prog 8 #[v, .agg #[.int .i64 E, .int .i64 P]] W fun x w' => x = .returned (.bool true) ∧ Below W.heap.size W w') := fun W v hW h => by
      have h := atf_any (check N T) v W (door_kept HG6.out hW) h
      rw [← HE.out, ← HP.out] at h
      exact h
    have HKS : Hid (∀ W, Below w6.heap.size w6 W → W.cell? ⟨w.heap.size, 0, none⟩ = some (.slice na N.length nc) ∧ W.cell? ⟨w.heap.size, 1, none⟩ = some (.slice ta T.length tc) ∧ W.cell? ⟨w1.heap.size + 1, 0, none⟩ = some (.int .i64 E) ∧ W.cell? ⟨w1.heap.size + 1, 1, none⟩ = some (.int .i64 P)) := fun W hW => by
      obtain ⟨a0, a1⟩ := HT6.out.below hW
      exact ⟨a0, a1, (HR3.out.below hW).cell 0 _ rfl, (HR3.out.below hW).cell 1 _ rfl⟩
    have HDR := hide (drewB w6)
    go_wp2_with fail
    rw [← hw6]
    clear hw6
    go_region_held3 (fun W => W.cell? ⟨w.heap.size, 0, none⟩ = some (.slice na N.length nc) ∧ W.cell? ⟨w.heap.size, 1, none⟩ = some (.slice ta T.length tc) ∧ W.cell? ⟨w1.heap.size + 1, 0, none⟩ = some (.int .i64 E) ∧ W.cell? ⟨w1.heap.size + 1, 1, none⟩ = some (.int .i64 P)) ((refine HKS.out _ ?_; first | exact HDR.out | exact HBA10.out | exact HB9.out | exact HB8.out | exact HB7.out | exact Below.refl _ _)) ((first
      | (go_at_call 9; (with_reducible refine (HCH.out _ HDR.out).mono ?_); rintro e w7 ⟨v7, rfl, he7, hb7⟩; have HB7 : Hid (Below w6.heap.size w6 w7) := then_ HDR.out hb7; have HE7 := hide he7; clear he7 hb7)
      | (go_at_call 8; (with_reducible refine (HA0.out _ _ HB7.out HE7.out).mono ?_); rintro e w8 ⟨rfl, hb8⟩; have HB8 : Hid (Below w6.heap.size w6 w8) := then_ HB7.out hb8; clear hb8)
      | (go_at_call 8; (with_reducible refine (HA0.out _ _ HB8.out (HER1'.out.below HB8.out)).mono ?_); rintro e w9 ⟨rfl, hb9⟩; have HB9 : Hid (Below w6.heap.size w6 w9) := then_ HB8.out hb9; clear hb9)
      | (go_at_call 8; (with_reducible refine (HA0.out _ _ HB9.out (HER2.out.below HB9.out)).mono ?_); rintro e w10 ⟨rfl, hb10⟩; have HBA10 : Hid (Below w6.heap.size w6 w10) := then_ HB9.out hb10; clear hb10)))
    obtain ⟨a0, a1, f0, f1⟩ := HKS.out w10 HBA10.out
    have HBWX := hide (then_ HBA.out (then_ HB6.out HBA10.out))
    have HR6' := hide (HR6.out.below HBA10.out)
    have HR2' := hide (HR2.out.below HBA10.out)
    have HXN' := hide (HXN.out.below HBA10.out)
    have HXT' := hide (HXT.out.below HBA10.out)
    have HPI2 := hide (HPI'.out.below HBA10.out)
    have HN10 := hide (HN6.out.below HBA10.out)
    have HT10 := hide (HTT6.out.below HBA10.out)
    have x0 := HR6'.out.cell 0 _ rfl
    have x1 := HR6'.out.cell 1 _ rfl
    have y0 := HR2'.out.cell 0 _ rfl
    have y1 := HR2'.out.cell 1 _ rfl
    clear HCH HA0 HKS HER1' HER2 HB7 HB8 HB9 HE7
    cases hck : check N T with
    | some r =>
      obtain ⟨e0, p0⟩ := r
      have hl : l = [] := by
        rcases HBS.out with ⟨_, _, h⟩ | ⟨h, _⟩
        · exact h
        · rw [hck] at h; cases h
      have hx : LN = [] ∧ LT = [] := by
        rcases HLS.out with ⟨_, _, h⟩ | ⟨h, _⟩
        · exact h
        · rw [hck] at h; cases h
      obtain ⟨rfl, rfl⟩ := hx
      subst hl
      have hE0 : ¬ E = 0 := by
        have h := check_err hck
        have h2 := HE.out
        rw [hck] at h2
        have h3 : fltE (some (e0, p0)) = (e0 : Int) := rfl
        rw [h3] at h2
        omega
      have hE1 : (E != 0) = true := by simpa using hE0
      clear hck hE0
      go_wp2_with fail
      go_ret
      exact ⟨rfl, HBWX.out⟩
    | none =>
      have hG := good_of hck
      have hE0 : E = 0 := by rw [HE.out, hck]; rfl
      obtain ⟨d, hd, hl⟩ : ∃ d, Stable (tab N T) d ∧ l = ints (gd N T d).1 := by
        rcases HBS.out with ⟨h, _⟩ | ⟨_, _, h⟩
        · exact absurd hck h
        · exact h
      obtain ⟨d2, hd2, hxn, hxt⟩ : ∃ d, Stable (tab N T) d ∧ LN = leastN N T d ∧ LT = leastT N T d := by
        rcases HLS.out with ⟨h, _⟩ | ⟨_, _, h⟩
        · exact absurd hck h
        · exact h
      have HRL := hide (RLeast_any N T (.slice na N.length nc) (.slice ta T.length tc) w10 hG HN10.out HT10.out)
      have HRB := hide (fun W (hW : Below w10.heap.size w10 W) => RBlocks_any N T (.slice na N.length nc) (.slice ta T.length tc) W hG (HN10.out.below hW) (HT10.out.below hW))
      have HGD : Hid (∀ D, Stable (tab N T) D → leastN N T D = LN ∧ leastT N T D = LT ∧ ints (gd N T D).1 = l) := fun D hD => by
        have h1 : gd N T D = gd N T d := gd_same hD hd
        have h2 : gd N T D = gd N T d2 := gd_same hD hd2
        refine ⟨?_, ?_, ?_⟩
        · rw [hxn]; unfold leastN; rw [h2]
        · rw [hxt]; unfold leastT; rw [h2]
        · rw [hl, h1]
      have HLI := hide HPI2.out.len
      have HLB : Hid (∀ x, x ∈ l → I64 x) := fun x hx => by
        obtain ⟨k, hk⟩ := List.getElem?_of_mem hx
        obtain ⟨_, _, _, _, h⟩ := HPI2.out.cell k x hk
        exact h
      subst hE0
      clear hck hG hd hl hd2 hxn hxt HBS HLS
      go_wp2_with fail
      refine HRL.out.mono ?_
      rintro e wP ⟨hbP, D, nv', tv', hst, rfl, hrn, hrt⟩
      obtain ⟨g1, g2, g3⟩ := HGD.out D hst
      rw [g1] at hrn
      rw [g2] at hrt
      obtain ⟨ma, mc, rfl⟩ := hrn.slice
      obtain ⟨za, zc, rfl⟩ := hrt.slice
      obtain ⟨wQ, hwQ⟩ : ∃ wQ, wQ = wP.alloc (.cells #[.slice ma LN.length mc, .slice za LT.length zc] 25) := ⟨_, rfl⟩
      have hbQ : Below wP.heap.size wP wQ := by rw [hwQ]; exact (Below.refl _ _).alloc (Nat.le_refl _) _
      have HRQ : Hid (RowIs wQ wP.heap.size 25 [.slice ma LN.length mc, .slice za LT.length zc]) := by rw [hwQ]; exact RowIs.new _ _ _
      have HBQ := hide (then_ hbP hbQ)
      have HMN := hide (hrn.below hbQ)
      have HMT := hide (hrt.below hbQ)
      have yP0 := kept hbP y0
      have yP1 := kept hbP y1
      have yQ0 := fun o => cell_alloc_keep wP o _ _ yP0
      have yQ1 := fun o => cell_alloc_keep wP o _ _ yP1
      clear hbP hbQ hst hrn hrt g1 g2 g3 HRL
      go_wp2_with fail
      rw [← hwQ]
      clear hwQ
      refine (HRB.out _ HBQ.out).mono ?_
      rintro e wR ⟨hbR, D2, v, hst, rfl, hrw⟩
      obtain ⟨_, _, g3⟩ := HGD.out D2 hst
      rw [g3] at hrw
      obtain ⟨va, vc, rfl⟩ := own_slice hrw
      have HBR := hide (then_ HBQ.out hbR)
      have HVI := hide (Rw.ints hrw HLI.out HLB.out)
      have HSI := hide (lsameI_any l _ _ wR (HPI2.out.below HBR.out) HVI.out)
      have HRR := hide (HRQ.out.below hbR)
      have HMN' := hide (HMN.out.below hbR)
      have HMT' := hide (HMT.out.below hbR)
      clear hbR hst hrw g3 HRB HGD
      go_wp2_with fail
      refine HSI.out.mono ?_
      rintro e wS ⟨rfl, hbS⟩
      have HBS := hide (then_ HBR.out hbS)
      have HSL := hide (lsameL_any LN _ _ wS (HXN'.out.below HBS.out) (HMN'.out.below hbS))
      have k0 := (HR6'.out.below HBS.out).cell 0 _ rfl
      have k1 := (HR6'.out.below HBS.out).cell 1 _ rfl
      have k2 := (HRR.out.below hbS).cell 0 _ rfl
      have k3 := (HRR.out.below hbS).cell 1 _ rfl
      have HRS := hide (HRR.out.below hbS)
      have HMT2 := hide (HMT'.out.below hbS)
      clear hbS HSI
      go_wp2_with fail
      refine HSL.out.mono ?_
      rintro e wT ⟨rfl, hbT⟩
      have HBT := hide (then_ HBS.out hbT)
      have HSM := hide (lsameL_any LT _ _ wT (HXT'.out.below HBT.out) (HMT2.out.below hbT))
      have j0 := (HR6'.out.below HBT.out).cell 0 _ rfl
      have j1 := (HR6'.out.below HBT.out).cell 1 _ rfl
      have j2 := (HRS.out.below hbT).cell 0 _ rfl
      have j3 := (HRS.out.below hbT).cell 1 _ rfl
      clear hbT HSL
      go_wp2_with fail
      refine HSM.out.mono ?_
      rintro e wU ⟨rfl, hbU⟩
      have HBU := hide (then_ HBWX.out (then_ HBT.out hbU))
      clear hbU
      go_wp2_with fail
      go_ret
      exact ⟨rfl, HBU.out⟩
end Bk
end Go.Proofs.YtdeijfkahhgojaaDoor
