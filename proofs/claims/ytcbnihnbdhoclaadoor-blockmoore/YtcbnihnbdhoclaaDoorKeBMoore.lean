/-
  The walk of the statement BlockMoore.
-/
import Derived.Test.YtcbnihnbdhoclaaDoorBkKeep
import Derived.Test.YtcbnihnbdhoclaaDoorBkTell
import Derived.Test.YtcbnihnbdhoclaaDoorBkErWalk
namespace Go.Proofs.YtcbnihnbdhoclaaDoor
namespace Bk
open Go.RowKit
def pk (x : Int) (I : Nat) : Nat := (x % 18446744073709551616 % (I : Int)).toNat
theorem pk_lt (x : Int) (I : Nat) (h : 1 ≤ I) : pk x I < I := by
  have h4 : 0 ≤ x % 18446744073709551616 % (I : Int) := Int.emod_nonneg _ (by omega)
  have h5 : x % 18446744073709551616 % (I : Int) < (I : Int) := Int.emod_lt_of_pos _ (by omega)
  unfold pk
  omega
set_option maxHeartbeats 2000000 in
set_option maxRecDepth 100000 in
theorem pick_any (x : Int) (I : Nat) (w : World) (h1 : 1 ≤ I) (h2 : I ≤ 100000) :
    Calls Tryd.prog 21 #[.int .i64 x, .int .i64 (I : Int)] w fun e w' => e = .returned (.int .i64 ((pk x I : Nat) : Int)) ∧ w = w' := by
  go_enter Tryd.func21, Tryd.ntmps21
  go_wp2_with fail
  refine bodyPost_ret (results_tmp rfl _ _ _) rfl ⟨?_, rfl⟩
  have e1 : IntKind.u64.wrap x = x % 18446744073709551616 := IntKind.wrap_u64 x
  have h3 : 0 ≤ x % 18446744073709551616 := Int.emod_nonneg _ (by decide)
  have h4 : 0 ≤ x % 18446744073709551616 % (I : Int) := Int.emod_nonneg _ (by omega)
  have h5 : x % 18446744073709551616 % (I : Int) < (I : Int) := Int.emod_lt_of_pos _ (by omega)
  have e2 : wrap64 (x % 18446744073709551616 % (I : Int)) = x % 18446744073709551616 % (I : Int) := by unfold wrap64; omega
  have e3 : ((pk x I : Nat) : Int) = x % 18446744073709551616 % (I : Int) := by unfold pk; omega
  rw [e3, e1, Int.tmod_eq_emod_of_nonneg h3, e2]
  rfl
/-- the inputs that are tried -/
def xs (l : List Int) (k : Nat) (j : Nat) : List Nat := (l.take j).map fun x => pk x k
theorem xs_succ (l : List Int) (k j : Nat) (h : j < l.length) : xs l k (j + 1) = xs l k j ++ [pk l[j] k] := by
  unfold xs
  rw [List.take_succ_eq_append_getElem h, List.map_append]
  rfl
theorem xs_len (l : List Int) (k j : Nat) (h : j ≤ l.length) : (xs l k j).length = j := by simp [xs]; omega
theorem xs_lt (l : List Int) (k j : Nat) (h : 1 ≤ k) : ∀ i, i ∈ xs l k j → i < k := fun i hi => by
  obtain ⟨x, _, rfl⟩ := List.mem_map.1 hi
  exact pk_lt x k h
theorem TellDone.good {w w' : World} {N T : List (List Int)} {x : Nat} {X : List Nat} {e : Ending} (h : TellDone w N T (x : Int) (ints X) e w') (hck : check N T = none) (hx : x < N.length) (hX : ∀ i, i ∈ X → i < (tab N T).k) : Below w.heap.size w w' ∧ ∃ g, e = .returned (.tuple #[.slice (some ⟨g, 0, none⟩) X.length X.length, .nilIface]) ∧ RowIs w' g 3 ((tell (tab N T) x X).map intV) ∧ w.heap.size ≤ g := by
  obtain ⟨hb, h⟩ := h
  refine ⟨hb, ?_⟩
  rcases h with ⟨h0, _⟩ | ⟨_, h0, _⟩ | ⟨_, x', ls, g, e1, _, e2, _, e3, e4, e5⟩
  · exact absurd hck h0
  · have h1 : hasB N.length (x : Int) = true := by simp [hasB]; omega
    rw [h1, ints_insB (k := (N.getD 0 []).length) hX] at h0
    cases h0
  · have : x' = x := by omega
    subst this
    have := ints_inj e2
    subst this
    rw [ints_len] at e3
    exact ⟨g, e3, e4, e5⟩
theorem tell_small {t : Tb} (ok : t.Ok) (hs : ∀ s, s < t.n → ∀ i, i < t.k → I64 (t.tl s i)) : ∀ (l : List Nat) (s : Nat), s < t.n → (∀ i, i ∈ l → i < t.k) → ∀ x, x ∈ tell t s l → I64 x
  | [], _, _, _, x, hx => by simp [tell] at hx
  | i :: r, s, h, hl, x, hx => by
    rw [tell, List.mem_cons] at hx
    rcases hx with rfl | hx
    · exact hs s h i (hl i (by simp))
    · exact tell_small ok hs r _ (ok s h i (hl i (by simp))) (fun j hj => hl j (by simp [hj])) x hx
theorem tl_small {W : World} {N T : List (List Int)} {tv : Value} (hG : Good N T) (hT : Rows W tv T) : ∀ s, s < (tab N T).n → ∀ i, i < (tab N T).k → I64 ((tab N T).tl s i) := fun s hs i hi => by
  have hsT : s < T.length := by rw [hG.tells]; exact hs
  have h := hG.told s hs i hi
  rw [getD_in _ _ _ hsT] at h
  exact hT.small s hsT _ (List.mem_of_getElem? h)
theorem tell_ints {W : World} {N T : List (List Int)} {g x : Nat} {X : List Nat} (hG : Good N T) (hs : ∀ s, s < (tab N T).n → ∀ i, i < (tab N T).k → I64 ((tab N T).tl s i)) (hr : RowIs W g 3 ((tell (tab N T) x X).map intV)) (hx : x < N.length) (hX : ∀ i, i ∈ X → i < (tab N T).k) (hl : X.length ≤ 1000000) : Ints W (.slice (some ⟨g, 0, none⟩) X.length X.length) (tell (tab N T) x X) := by
  have h := ints_row hr (by rw [tell_len]; unfold maxLen; omega) (tell_small hG.ok hs X x hx hX)
  rw [tell_len] at h
  exact h
open ErAs in
set_option maxHeartbeats 16000000 in
set_option maxRecDepth 100000 in
theorem blockMoore_any (N T : List (List Int)) (nv tv sv : Value) (a b : Int) (l : List Int) (w : World) (hN : Rows w nv N) (hT : Rows w tv T) (hI : Ints w sv l) (hg : Door w) :
    Calls Tryd.prog 5 #[.agg #[nv, tv], .int .i64 a, .int .i64 b, sv] w fun e w' => e = .returned (.bool true) ∧ Below w.heap.size w w' := by
  obtain ⟨i1, hi1, hy0, hy1, hy2⟩ := info_parts Tryd.infoInt
  obtain ⟨wA, hwA⟩ : ∃ wA, wA = w.alloc (.cells #[nv, tv] 24) := ⟨_, rfl⟩
  have hBA : Below w.heap.size w wA := by rw [hwA]; exact newB _ _
  have hTA : Tab wA w.heap.size nv tv := by rw [hwA]; exact Tab.new _ _ _
  have HF := hide (few_any N T nv tv 60 wA (hN.below hBA) (hT.below hBA))
  have HBLK := hide (fun W (hW : Below w.heap.size w W) => Blocks_any N T nv tv W (hN.below hW) (hT.below hW))
  have HLEA := hide (fun W (hW : Below w.heap.size w W) => Least_any N T nv tv W (hN.below hW) (hT.below hW))
  have HTEL := hide (fun W s u ls (hW : Below w.heap.size w W) (hu : Ints W u ls) (hl : ls.length ≤ 1000000) => Bk.Tell_any N T nv tv u s ls W (hN.below hW) (hT.below hW) hu hl)
  have HPAR := hide (fun W x y (hW : Below w.heap.size w W) => Part_any N T nv tv x y W (hN.below hW) (hT.below hW))
  have HDR : Hid (∀ W, Below w.heap.size w W → Door W) := fun W hW => kept hW hg
  have HN := hide hN
  have HTR := hide hT
  have HI := hide hI
  obtain ⟨na, nc, rfl⟩ := hN.slice
  obtain ⟨ta, tc, rfl⟩ := hT.slice
  obtain ⟨ia, ic, rfl⟩ := hI.slice
  have HBA := hide hBA
  have HTA := hide hTA
  obtain ⟨t0, t1⟩ := hTA
  have nq := neqNil
  have nn := neqNilN
  have HBK := hide (fun W => blocked_any W)
  clear hN hT hBA hI hg
  go_enter Tryd.func5, Tryd.ntmps5
  go_wp2_with fail
  rw [← hwA]
  clear hwA
  refine HF.out.mono ?_
  rintro e w1 ⟨rfl, hb1⟩
  have HB1 := hide (then_ HBA.out hb1)
  have HT1 := hide (HTA.out.below hb1)
  obtain ⟨s0, s1⟩ := HTA.out.below hb1
  clear hb1 HF HTA
  cases hfw : fewB N T 60 with
  | false =>
    clear hfw
    go_wp2_with fail
    go_ret
    exact ⟨rfl, HB1.out⟩
  | true =>
    have hn60 : N.length ≤ 60 := by simp [fewB] at hfw; omega
    by_cases h40 : 40 < l.length
    · have h40i : (40 : Int) < (l.length : Int) := by omega
      clear hfw
      go_wp2_with fail
      go_ret
      exact ⟨rfl, HB1.out⟩
    have h40i : ¬ (40 : Int) < (l.length : Int) := by omega
    have HFW := hide hfw
    clear hfw
    go_wp2_with fail
    refine (HBLK.out w1 HB1.out).mono ?_
    rintro e w2 ⟨hb2, hres⟩
    have HB2 := hide (then_ HB1.out hb2)
    have HT2 := hide (HT1.out.below hb2)
    rcases hres with ⟨hck0, v, rfl, he⟩ | ⟨hck, d, gO, hd, hst, rfl, hrO, hgO⟩
    · obtain ⟨tt, yy, rfl⟩ := he.iface hck0
      clear hb2 he hck0
      go_wp2_with fail
      refine (HBK.out w2).mono ?_
      rintro e w3 ⟨rfl, hb3⟩
      have HB3 := hide (then_ HB2.out hb3)
      clear hb3
      go_wp2_with fail
      refine (HBK.out w3).mono ?_
      rintro e w4 ⟨rfl, hb4⟩
      have HB4 := hide (then_ HB3.out hb4)
      clear hb4
      go_wp2_with fail
      go_ret
      exact ⟨rfl, HB4.out⟩
    · have HG := hide (good_of hck)
      have HCK := hide hck
      have HST := hide hst
      have HRO := hide hrO
      clear hb2 hrO hst hck hgO
      go_wp2_with fail
      refine (HBK.out w2).mono ?_
      rintro e w3 ⟨rfl, hb3⟩
      have HB3 := hide (then_ HB2.out hb3)
      have HT3 := hide (HT2.out.below hb3)
      have HRO3 := hide (RowIs.below HRO.out hb3)
      obtain ⟨u0, u1⟩ := HT2.out.below hb3
      have hp0 : 0 < N.length := HG.out.pos
      obtain ⟨g, o, rfl, ur, dr, cr, _⟩ := (HN.out.below HB3.out).cell 0 _ (List.getElem?_eq_getElem hp0)
      simp only [Nat.add_zero] at cr
      have hz0 : N.getD 0 [] = N[0] := getD_in _ _ _ hp0
      obtain ⟨k, hk⟩ : ∃ k, k = (tab N T).k := ⟨_, rfl⟩
      have hkl : N[0].length = k := by rw [hk, ← hz0]; rfl
      rw [hkl] at cr
      have HK := hide hk
      have hpi : (0 : Int) < (N.length : Int) := by omega
      have hk64 : k ≤ 64 := by rw [hk]; exact HG.out.ins
      clear hb3 HRO hz0 hkl hk
      go_wp2_with fail
      go_quiet (fail)
      have HPK := hide (fun x W => pick_any x N.length W (by omega) (by omega))
      have HPL := hide (fun x => pk_lt x N.length (by omega))
      go_wp2_with (first | (go_at_call 21; (with_reducible refine (HPK.out _ _).mono ?_); rintro e w' ⟨rfl, rfl⟩))
      have hAl := HPL.out a
      have hBl := HPL.out b
      generalize pk a N.length = A at *
      generalize pk b N.length = B at *
      have HQ : Hid (Below w3.heap.size w3 (w3.drewN nq)) := ⟨rfl, rfl, rfl, Nat.le_refl _, fun _ _ => rfl⟩
      have HBQ := hide (then_ HB3.out HQ.out)
      have HTQ := hide (HT3.out.below HQ.out)
      have HROQ := hide (RowIs.below HRO3.out HQ.out)
      have HSM := hide (tl_small HG.out (HTR.out.below HBQ.out))
      refine (HLEA.out _ HBQ.out).mono ?_
      rintro e w4 ⟨hb4, hres⟩
      rcases hres with ⟨hck0, _⟩ | ⟨_, d', nv2, tv2, hd', hst', rfl, hrn, hrt⟩
      · exact absurd HCK.out hck0
      have hgd : gd N T d' = gd N T d := grp_stable_eq d' d hst' HST.out
      have hLN : leastN N T d' = leastN N T d := by unfold leastN; rw [hgd]
      have hLT : leastT N T d' = leastT N T d := by unfold leastT; rw [hgd]
      rw [hLN] at hrn
      rw [hLT] at hrt
      have HB4 := hide (then_ HBQ.out hb4)
      have HT4 := hide (HTQ.out.below hb4)
      have HRO4 := hide (RowIs.below HROQ.out hb4)
      obtain ⟨na2, nc2, rfl⟩ := hrn.slice
      obtain ⟨ta2, tc2, rfl⟩ := hrt.slice
      obtain ⟨wX, hwX⟩ : ∃ wX, wX = w4.alloc (.cells #[.slice na2 (leastN N T d).length nc2, .slice ta2 (leastT N T d).length tc2] 24) := ⟨_, rfl⟩
      have hBX : Below w4.heap.size w4 wX := by rw [hwX]; exact newB _ _
      have HBX := hide (then_ HB4.out hBX)
      have HTX := hide (HT4.out.below hBX)
      have HROX := hide (RowIs.below HRO4.out hBX)
      have HLX : Hid (Tab wX w4.heap.size (.slice na2 (leastN N T d).length nc2) (.slice ta2 (leastT N T d).length tc2)) := by rw [hwX]; exact Tab.new _ _ _
      have HLG := hide (least_good HG.out HST.out)
      have HTL2 := hide (fun W s u ls (hW : Below wX.heap.size wX W) (hu : Ints W u ls) (hl : ls.length ≤ 1000000) => Bk.Tell_any (leastN N T d) (leastT N T d) _ _ u s ls W (hrn.below (then_ hBX hW)) (hrt.below (then_ hBX hW)) hu hl)
      have HSM2 := hide (tl_small HLG.out hrt)
      have HLTL := hide (least_tell HG.out HST.out)
      have hkk2 : (tab (leastN N T d) (leastT N T d)).k = (tab N T).k := least_ins HG.out
      have HKK2 := hide hkk2
      have hOL : (gd N T d).1.getD A 0 < (leastN N T d).length := by
        obtain ⟨f, e1, _, _⟩ := first_alike HST.out A hAl
        rw [least_len]; exact (List.getElem?_eq_some_iff.1 e1).1
      have HOF : Hid (∀ x, x < N.length → ((ints (gd N T d).1).map intV)[x]? = some (.int .i64 (((gd N T d).1.getD x 0 : Nat) : Int))) := fun x hx => by
        have hl : (gd N T d).1.length = N.length := gdI.len
        rw [List.getElem?_map, ints_get _ x ((gd N T d).1.getD x 0) (by rw [getD_in _ _ _ (by rw [hl]; exact hx), List.getElem?_eq_getElem])]; rfl
      have HIFF : Hid ((gd N T d).1.getD A 0 = (gd N T d).1.getD B 0 ↔ eqB (tab N T) d A B = true) := by
        have hl : (gd N T d).1.length = N.length := gdI.len
        rw [getD_iff hl A B hAl hBl]
        exact grp_iff (eqv_eqB (tab N T) d) A B hAl hBl
      have hLL : l.length ≤ 40 := by omega
      clear hb4 hrn hrt hgd hLN hLT hst' hkk2 hBX HRO3 HROQ HRO4 HT3 HTQ HT4 HLEA HBLK
      go_wp2_with fail
      rw [← hwX]
      clear hwX cr
      obtain ⟨n, hn⟩ : ∃ n, n = l.length := ⟨_, rfl⟩
      have HNn := hide hn
      rw [← hn] at HI hLL h40 h40i ⊢
      clear hn
      go_loopw [14, 15] (fun xv jv wr => ∃ (j : Nat) (xa : Option Addr) (xc : Nat), j ≤ n ∧ (k = 0 → j = 0) ∧ jv = .int .i64 (j : Int) ∧ xv = .slice xa j xc ∧ Hid (Rw wr wX.heap.size (.slice xa j xc) (ints (xs l k j))) ∧ Hid (Below wX.heap.size wX wr)) (fun _ jv _ => n - (intOf jv).toNat)
      case atStart => exact ⟨0, none, 0, Nat.zero_le _, fun _ => rfl, rfl, rfl, World.ownsRow_nil _ _ _ _, Below.refl _ _⟩
      case round =>
        obtain ⟨j, xa, xc, hj, hk0, rfl, rfl, HX, HB⟩ := hrel
        by_cases hgo : j < n ∧ 0 < k
        · obtain ⟨hlt, hkp⟩ := hgo
          have hjl : j < l.length := by rw [← HNn.out]; exact hlt
          obtain ⟨gi, oi, rfl, ci, _⟩ := (HI.out.below (then_ HBX.out HB.out)).cell j _ (List.getElem?_eq_getElem hjl)
          have HXS := hide (xs_succ l k j hjl)
          have hlx : (ints (xs l k j)).length = j := by rw [ints_len, xs_len l k j (by omega)]
          have HPJ := hide (fun W => pick_any l[j] k W hkp (by omega))
          have HXO : Hid (∀ o, (wr.alloc o).ownsRow wX.heap.size 3 1 (.slice xa j xc) j ((ints (xs l k j)).map intV)) := fun o => by have h := HX.out; unfold Rw at h; rw [hlx] at h; exact h.alloc o
          have HONE : Hid (∀ z : Nat, ∀ u ∈ [Value.int .i64 (z : Int)], u.oneCell' = true) := by
            intro z u hu
            simp only [List.mem_cons, List.not_mem_nil, or_false] at hu
            subst hu; rfl
          have HFIN : Hid (∀ (o : Obj) (g cap : Nat) (wC : World), wC.ownsRow wX.heap.size 3 1 (.slice (some ⟨g, 0, none⟩) (j + 1) cap) (j + 1) ((ints (xs l k j)).map intV ++ [.int .i64 ((pk l[j] k : Nat) : Int)]) → (wr.alloc o).grownBy wC (Value.slice xa j xc).ownBlock →
              Rw wC wX.heap.size (.slice (some ⟨g, 0, none⟩) (j + 1) cap) (ints (xs l k (j + 1))) ∧ Below wX.heap.size wX wC) := fun o g cap wC h1 h2 => by
            refine ⟨?_, (HB.out.alloc HB.out.size o).grown h2 (by have := HB.out.size; simp; omega) (fun q e => (own_lt HX.out q e).1)⟩
            unfold Rw
            rw [HXS.out, ints_snoc, List.map_append, List.length_append, hlx]
            exact h1
          have hji : (j : Int) < (n : Int) := by omega
          have hki : (0 : Int) < (k : Int) := by omega
          have hsz := HB.out.size
          generalize pk l[j] k = z at *
          generalize l[j] = lj at *
          clear hlx
          go_wp2_with (first
            | (at_builtin; refine wpList_append_lies _ rfl (.tmp 88) (.tmp 95) 31 rfl wX.heap.size 3 i1 _ 1 8 Tryd.underlying31 hi1 hy0 hy1 hy2 rfl (by decide) (.slice xa j xc) j ((ints (xs l k j)).map intV) rfl (HXO.out _) ⟨wr.heap.size, 0, none⟩ 1 1 [.int .i64 (z : Int)] rfl rfl (World.news_of_block (heap_alloc_new wr _)) (HONE.out z) (by decide) (by unfold maxLen; omega) (by omega) (by simp; omega) (wr.heap.size + 1) (by simp) ?_; intro g5 cap5 wC hown hgrow hat hltg; have HFI := hide (HFIN.out _ g5 cap5 wC hown hgrow); clear hown hgrow hat)
            | (go_at_call 21; (with_reducible refine (HPJ.out _).mono ?_); rintro e w' ⟨rfl, rfl⟩))
          go_roundw
          case rel => exact ⟨j + 1, _, _, by omega, fun h => by omega, by go_num, rfl, HFI.out.1, HFI.out.2⟩
          case measure => simp [intOf]; omega
        · have HX1 : Hid (∀ i, i ∈ xs l k j → i < (tab N T).k) := by
            rw [← HK.out]
            by_cases hkp : k = 0
            · have := hk0 hkp
              subst this
              intro i hi
              simp [xs] at hi
            · exact xs_lt l k j (by omega)
          have hxl : (xs l k j).length = j := xs_len l k j (by rw [← HNn.out]; exact hj)
          have HXI : Hid (Ints wr (.slice xa j xc) (ints (xs l k j))) := by
            have h := Rw.ints HX.out (by rw [ints_len, hxl]; unfold maxLen; omega) (fun x hx => by have := ints_mem _ _ HX1.out x hx; have := HG.out.ins; have h9 : (tab N T).k ≤ 64 := this; unfold I64; omega)
            exact h
          have hgi : (Decidable.decide ((j : Int) < (n : Int)) && Decidable.decide ((0 : Int) < (k : Int))) = false := by
            by_cases h1 : j < n
            · have : k = 0 := by omega
              subst this; simp
            · have : ¬ (j : Int) < (n : Int) := by omega
              simp [this]
          generalize xs l k j = X at *
          have HTG : Hid (∀ (W : World) (s : Nat) (u : Value) (Y : List Nat), s < N.length → Below w.heap.size w W → Ints W u (ints Y) → Y.length ≤ 1000000 → (∀ i, i ∈ Y → i < (tab N T).k) → Calls Tryd.prog 16 #[.agg #[.slice (some ⟨g, o, none⟩) N.length nc, .slice ta T.length tc], .int .i64 (s : Int), u] W fun e w' => Below W.heap.size W w' ∧ ∃ g, e = .returned (.tuple #[.slice (some ⟨g, 0, none⟩) Y.length Y.length, .nilIface]) ∧ RowIs w' g 3 ((tell (tab N T) s Y).map intV) ∧ W.heap.size ≤ g) := fun W s u Y h1 h2 h3 h4 h5 =>
            (HTEL.out W (s : Int) u (ints Y) h2 h3 (by rw [ints_len]; exact h4)).mono (fun e w' h => h.good HCK.out h1 h5)
          have HLGK := hide (HLG.out.fine)
          have HTG2 : Hid (∀ (W : World) (u : Value) (Y : List Nat), Below wX.heap.size wX W → Ints W u (ints Y) → Y.length ≤ 1000000 → (∀ i, i ∈ Y → i < (tab N T).k) → Calls Tryd.prog 16 #[.agg #[.slice na2 (leastN N T d).length nc2, .slice ta2 (leastT N T d).length tc2], .int .i64 (((gd N T d).1.getD A 0 : Nat) : Int), u] W fun e w' => Below W.heap.size W w' ∧ ∃ g, e = .returned (.tuple #[.slice (some ⟨g, 0, none⟩) Y.length Y.length, .nilIface]) ∧ Ints w' (.slice (some ⟨g, 0, none⟩) Y.length Y.length) (tell (tab N T) A Y) ∧ W.heap.size ≤ g) := fun W u Y h2 h3 h4 h5 =>
            (HTL2.out W _ u (ints Y) h2 h3 (by rw [ints_len]; exact h4)).mono (fun e w' h => by
              have h5' : ∀ i, i ∈ Y → i < (tab (leastN N T d) (leastT N T d)).k := by rw [HKK2.out]; exact h5
              obtain ⟨q1, gq, q2, q3, q4⟩ := h.good HLGK.out hOL h5'
              refine ⟨q1, gq, q2, ?_, q4⟩
              have q5 := tell_ints HLG.out HSM2.out q3 hOL h5' h4
              rw [HLTL.out Y A hAl h5] at q5
              exact q5)
          have HTI := hide (fun (W : World) (g s : Nat) (Y : List Nat) (h1 : RowIs W g 3 ((tell (tab N T) s Y).map intV)) (h2 : s < N.length) (h3 : ∀ i, i ∈ Y → i < (tab N T).k) (h4 : Y.length ≤ 1000000) => tell_ints HG.out HSM.out h1 h2 h3 h4)
          have HBWr := hide (then_ HBX.out HB.out)
          have HTAB := hide (fun W (hW : Below wX.heap.size wX W) => HTX.out.below hW)
          have HLAB := hide (fun W (hW : Below wX.heap.size wX W) => HLX.out.below hW)
          have HRAB := hide (fun W (hW : Below wX.heap.size wX W) => RowIs.below HROX.out hW)
          obtain ⟨p0, p1⟩ := HTAB.out wr HB.out
          have HC1 := hide (HTG.out wr A _ X hAl HBWr.out HXI.out (by omega) HX1.out)
          have hX4 : X.length ≤ 1000000 := by omega
          have hAi : (A : Int) < (N.length : Int) := by omega
          have hBi : (B : Int) < (N.length : Int) := by omega
          clear HX hk0 HTEL HTL2 HROX HTX HLX hxl
          have HCA : Hid (∀ W, Below wX.heap.size wX W → W.cell? ⟨gO, A, none⟩ = some (.int .i64 (((gd N T d).1.getD A 0 : Nat) : Int)) ∧ W.cell? ⟨gO, B, none⟩ = some (.int .i64 (((gd N T d).1.getD B 0 : Nat) : Int))) := fun W hW => ⟨RowIs.cell (HRAB.out W hW) A _ (HOF.out A hAl), RowIs.cell (HRAB.out W hW) B _ (HOF.out B hBl)⟩
          have HIF2 := hide HIFF.out
          clear HIFF HOF HRAB
          generalize (gd N T d).1.getD A 0 = oA at *
          generalize (gd N T d).1.getD B 0 = oB at *
          have hstop : (j : Int) < (n : Int) → ¬ (0 : Int) < (k : Int) := fun h1 h2 => hgo ⟨by omega, by omega⟩
          by_cases hjn : (j : Int) < (n : Int)
          all_goals
            have hkn : (j : Int) < (n : Int) → Decidable.decide ((0 : Int) < (k : Int)) = false := fun h => by simpa using hstop h
            first | (have hkd := hkn hjn; have hkd2 := hstop hjn) | skip
            clear hkn hstop hgi hgo
            go_wp2_with fail
            refine HC1.out.mono ?_
            rintro e w5 ⟨hb5, gP, rfl, hrP, hgP⟩
            have HB5 := hide (then_ HB.out hb5)
            have HIP := hide (HTI.out w5 gP A X hrP hAl HX1.out hX4)
            have HC2 := hide (HTG.out w5 B _ X hBl (then_ HBX.out HB5.out) (HXI.out.below hb5) hX4 HX1.out)
            obtain ⟨q0, q1⟩ := HTAB.out w5 HB5.out
            have HX5 := hide (HXI.out.below hb5)
            clear hb5 hrP hgP
            go_wp2_with fail
            refine HC2.out.mono ?_
            rintro e w6 ⟨hb6, gQ, rfl, hrQ, hgQ⟩
            have HB6 := hide (then_ HB5.out hb6)
            have HIQ6 := hide (HTI.out w6 gQ B X hrQ hBl HX1.out hX4)
            have HIP6 := hide (HIP.out.below hb6)
            have HX6 := hide (HX5.out.below hb6)
            have HD6 := hide (drewB w6)
            have HC3 := hide (fun W (hW : Below w6.heap.size w6 W) => HTG2.out W _ X (then_ HB6.out hW) (HX6.out.below hW) hX4 HX1.out)
            have HKS : Hid (∀ W, Below w6.heap.size w6 W → W.cell? ⟨w4.heap.size, 0, none⟩ = some (.slice na2 (leastN N T d).length nc2) ∧ W.cell? ⟨w4.heap.size, 1, none⟩ = some (.slice ta2 (leastT N T d).length tc2) ∧ W.cell? ⟨gO, A, none⟩ = some (.int .i64 (oA : Int))) := fun W hW =>
              ⟨(HLAB.out W (then_ HB6.out hW)).1, (HLAB.out W (then_ HB6.out hW)).2, (HCA.out W (then_ HB6.out hW)).1⟩
            clear hb6 hrQ hgQ
            go_wp2_with fail
            go_region_held3 (fun W => W.cell? ⟨w4.heap.size, 0, none⟩ = some (.slice na2 (leastN N T d).length nc2) ∧ W.cell? ⟨w4.heap.size, 1, none⟩ = some (.slice ta2 (leastT N T d).length tc2) ∧ W.cell? ⟨gO, A, none⟩ = some (.int .i64 (oA : Int))) ((refine HKS.out _ ?_; first | exact HD6.out | exact HB7.out | exact Below.refl _ _)) ((go_at_call 16; (with_reducible refine (HC3.out _ HD6.out).mono ?_); rintro e w7 ⟨hb7, gR, rfl, hiR, hgR⟩; have HB7 : Hid (Below w6.heap.size w6 w7) := then_ HD6.out hb7; have HIR := hide hiR; clear hb7 hiR hgR))
            have HBX7 := hide (then_ HB6.out HB7.out)
            have HIP7 := hide (HIP6.out.below HB7.out)
            have HIQ7 := hide (HIQ6.out.below HB7.out)
            have HS7 := hide (sameI_any _ _ _ w7 HIP7.out HIR.out)
            clear HC1 HC2 HC3 HKS
            go_wp2_with (go_at_call 22; (with_reducible refine HS7.out.mono ?_); rintro e w8 ⟨rfl, hb8⟩; have HBX8 := hide (then_ HBX7.out hb8); have HIP8 := hide (HIP7.out.below hb8); have HIQ8 := hide (HIQ7.out.below hb8); obtain ⟨r0, r1⟩ := HTAB.out w8 HBX8.out; clear hb8)
            refine (HPAR.out w8 (A : Int) (B : Int) (then_ HBX.out HBX8.out)).mono ?_
            rintro e w9 ⟨hb9, hres⟩
            have HBX9 := hide (then_ HBX8.out hb9)
            have HBW9 := hide (then_ HBX.out HBX9.out)
            have HIP9 := hide (HIP8.out.below hb9)
            have HIQ9 := hide (HIQ8.out.below hb9)
            obtain ⟨cA, cB⟩ := HCA.out w9 HBX9.out
            have hIFF := HIF2.out
            clear hb9
            rcases hres with ⟨h0, _⟩ | ⟨_, h0, _⟩ | ⟨_, x, y, hx, hy, _, _, hal, rfl⟩ | ⟨_, x, y, hx, hy, _, _, M, K, i, m, g9, c9, hF, rfl, hrw⟩
            · exact absurd HCK.out h0
            · exfalso
              have h1 : hasB N.length (A : Int) = true := by simp [hasB]; omega
              have h2 : hasB N.length (B : Int) = true := by simp [hasB]; omega
              rw [h1, h2] at h0
              cases h0
            · have hxA : x = A := by omega
              have hyB : y = B := by omega
              subst hxA
              subst hyB
              have hoo : oA = oB := hIFF.2 (hal d)
              have HTE : Hid (tell (tab N T) x X = tell (tab N T) y X) := hal.tell X HX1.out
              subst hoo
              have HQ9 : Hid (∀ n, Below w9.heap.size w9 (w9.drewN n)) := fun n => ⟨rfl, rfl, rfl, Nat.le_refl _, fun _ _ => rfl⟩
              have HSS := hide (fun n => sameI_any (tell (tab N T) x X) _ _ (w9.drewN n) (HIP9.out.below (HQ9.out n)) (by have h := HIQ9.out.below (HQ9.out n); rw [← HTE.out] at h; exact h))
              have HTL := hide (fun n W (hW : Below (w9.drewN n).heap.size (w9.drewN n) W) => ErAs.Tell_any (.iface 26 (.int .i64 8)) 8 W (HDR.out W (then_ HBW9.out (then_ (HQ9.out n) hW))) (.inl rfl))
              clear hIFF hal hx hy
              go_wp2_with fail
              go_quiet (fail)
              go_wp2_with (first
                | (go_at_call 22; (with_reducible refine (HSS.out _).mono ?_); rintro e wU ⟨rfl, hbU⟩; have HBU := hide hbU; clear hbU)
                | (go_at_call 23; (with_reducible refine (HTL.out _ _ HBU.out).mono ?_); rintro e wV ⟨rfl, hbV⟩; have HBV := hide (then_ HBW9.out (then_ (HQ9.out _) (then_ HBU.out hbV))); clear hbV))
              go_ret
              exact ⟨rfl, HBV.out⟩
            · have hxA : x = A := by omega
              have hyB : y = B := by omega
              subst hxA
              subst hyB
              have hoo : ¬ oA = oB := fun e => hF.apart (HST.out x y hAl hBl (hIFF.1 e))
              have hooi : ¬ (oA : Int) = (oB : Int) := by omega
              have hoob : ((oA : Int) == (oB : Int)) = false := by simpa using hooi
              have hooc : Decidable.decide ((oA : Int) = (oB : Int)) = false := by simpa using hooi
              obtain ⟨f1, f2, f3, f4⟩ := hF.parts
              have HF4 := hide f4
              have hpl : (pathTo M K).length ≤ 500 * 500 := by have h1 := path_len hF.inv K m hF.here; have h2 := (List.getElem?_eq_some_iff.1 hF.here).1; have := hF.few; omega
              have HPL : Hid ((pathTo M K ++ [i]).length = (pathTo M K).length + 1) := by show _ = _; simp
              have HIPt : Hid (Ints w9 (.slice (some ⟨g9, 0, none⟩) ((pathTo M K).length + 1) c9) (ints (pathTo M K ++ [i]))) := by
                refine Rw.ints hrw (by rw [ints_len, HPL.out]; unfold maxLen; omega) (fun z hz => ?_)
                have := ints_mem _ _ f4 z hz
                have h9 : (tab N T).k ≤ 64 := HG.out.ins
                unfold I64; omega
              have HNE := hide hF.ne
              have HTY : Hid (tell (tab N T) x (pathTo M K ++ [i]) = tell (tab N T) x (pathTo M K) ++ [(tab N T).tl m.a i]) := f2
              have HTZ : Hid (tell (tab N T) y (pathTo M K ++ [i]) = tell (tab N T) x (pathTo M K) ++ [(tab N T).tl m.b i]) := by rw [f1]; exact f3
              have HPT : Hid ((tell (tab N T) x (pathTo M K)).length = (pathTo M K).length) := tell_len _ _ _
              have HQ9 : Hid (∀ n, Below w9.heap.size w9 (w9.drewN n)) := fun n => ⟨rfl, rfl, rfl, Nat.le_refl _, fun _ _ => rfl⟩
              have HC9 := hide (fun n => HTG.out (w9.drewN n) x _ (pathTo M K ++ [i]) hAl (then_ HBW9.out (HQ9.out n)) (HIPt.out.below (HQ9.out n)) (by rw [HPL.out]; omega) HF4.out)
              obtain ⟨v0, v1⟩ := HTAB.out w9 HBX9.out
              have HC10 := hide (fun W (hW : Below w9.heap.size w9 W) => HTG.out W y _ (pathTo M K ++ [i]) hBl (then_ HBW9.out hW) (HIPt.out.below hW) (by rw [HPL.out]; omega) HF4.out)
              have HSMP : Hid (∀ z, z ∈ tell (tab N T) x (pathTo M K) → I64 z) := tell_small HG.out.ok HSM.out _ x hAl (fun i' hi' => HF4.out i' (List.mem_append.2 (.inl hi')))
              rw [HTZ.out] at HC10
              generalize tell (tab N T) x (pathTo M K ++ [i]) = tY at *
              generalize tell (tab N T) x (pathTo M K) = tP at *
              generalize (tab N T).tl m.a i = zA at *
              generalize (tab N T).tl m.b i = zB at *
              clear hIFF hx hy f1 f2 f3 f4 hF hrw
              rw [HPL.out] at HC9 HC10
              generalize (pathTo M K).length = pl at *
              go_wp2_with fail
              go_quiet (fail)
              go_wp2_with fail
              refine (HC9.out _).mono ?_
              rintro e wY ⟨hbY, gY, rfl, hrY, _⟩
              have HBY := hide (then_ (HQ9.out _) hbY)
              have hbX10 := then_ HBX9.out HBY.out
              obtain ⟨x0', x1'⟩ := HTAB.out wY hbX10
              have HRY := hide hrY
              clear hbY hrY hbX10
              go_wp2_with fail
              refine (HC10.out _ HBY.out).mono ?_
              rintro e wZ ⟨hbZ, gZ, rfl, hrZ, _⟩
              have hrY2 := RowIs.below HRY.out hbZ
              rw [HTY.out] at hrY2
              have HBZ := hide (then_ HBW9.out (then_ HBY.out hbZ))
              have k1 : wZ.cell? ⟨gY, pl, none⟩ = some (.int .i64 zA) := hrY2.cell pl _ (by rw [List.map_append, List.getElem?_append_right (by rw [List.length_map, HPT.out]; omega), List.length_map, HPT.out]; simp [intV])
              have k2 : wZ.cell? ⟨gZ, pl, none⟩ = some (.int .i64 zB) := hrZ.cell pl _ (by rw [List.map_append, List.getElem?_append_right (by rw [List.length_map, HPT.out]; omega), List.length_map, HPT.out]; simp [intV])
              have HPRE : Hid (∀ W g z, RowIs W g 3 ((tP ++ [z]).map intV) → Ints W (.slice (some ⟨g, 0, none⟩) pl (pl + 1)) tP) := fun W g z h => by
                refine ⟨_, _, by rw [HPT.out], by rw [HPT.out]; unfold maxLen; omega, fun q u hq => ⟨g, 0, rfl, by rw [HPT.out]; omega, ?_, HSMP.out u (List.mem_of_getElem? hq)⟩⟩
                rw [Nat.zero_add]
                exact h.cell q _ (by rw [List.map_append, List.getElem?_append_left (by rw [List.length_map]; exact (List.getElem?_eq_some_iff.1 hq).1), List.getElem?_map, hq]; rfl)
              have HIY := hide (HPRE.out _ _ _ hrY2)
              have HIZ := hide (HPRE.out _ _ _ hrZ)
              have hzz : ¬ zA = zB := HNE.out
              have hzb : (zA == zB) = false := by simpa using hzz
              have hpl1 : ¬ ((pl + 1 : Nat) : Int) = 0 := by omega
              clear hbZ hrZ hrY2
              have HDZ := hide (drewB wZ)
              have HKZ : Hid (∀ W, Below wZ.heap.size wZ W → W.cell? ⟨gY, pl, none⟩ = some (.int .i64 zA) ∧ W.cell? ⟨gZ, pl, none⟩ = some (.int .i64 zB)) := fun W hW => ⟨kept hW k1, kept hW k2⟩
              have HSZ := hide (fun W (hW : Below wZ.heap.size wZ W) => sameI_any tP _ _ W (HIY.out.below hW) (HIZ.out.below hW))
              have hpi : (pl : Int) < ((pl + 1 : Nat) : Int) := by omega
              have hpi2 : (pl : Int) < (pl : Int) + 1 := by omega
              have hpi3 : (pl : Int) ≤ (pl : Int) + 1 := by omega
              have hzn : (zA != zB) = true := by simpa using hzz
              go_wp2_with fail
              go_region_held3 (fun W => W.cell? ⟨gY, pl, none⟩ = some (.int .i64 zA) ∧ W.cell? ⟨gZ, pl, none⟩ = some (.int .i64 zB)) ((refine HKZ.out _ ?_; first | exact HDZ.out | exact HBS.out | exact Below.refl _ _)) ((go_at_call 22; (with_reducible refine (HSZ.out _ HDZ.out).mono ?_); rintro e wS ⟨rfl, hbS⟩; have HBS : Hid (Below wZ.heap.size wZ wS) := then_ HDZ.out hbS; clear hbS))
              go_wp2_with fail
              go_ret
              exact ⟨rfl, then_ HBZ.out HBS.out⟩
end Bk
end Go.Proofs.YtcbnihnbdhoclaaDoor
