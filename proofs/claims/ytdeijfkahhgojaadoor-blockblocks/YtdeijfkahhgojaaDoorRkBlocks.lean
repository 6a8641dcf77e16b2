/-
  The walk of the document's own Blocks (9.2).
-/
import Derived.Test.YtdeijfkahhgojaaDoorRkApartW
import Derived.Test.YtdeijfkahhgojaaDoorBkLst
namespace Go.Proofs.YtdeijfkahhgojaaDoor
namespace Bk
open Go.RowKit
/-- the least group of those that are alike -/
theorem grp_at {al : Nat → Nat → Bool} {n s r j : Nat} (e : Eqv n al) (hs : s < n) (hr : r < s) (ha : al r s = true) (hj : (grp al s).1[r]? = some j) : grp al (s + 1) = ((grp al s).1 ++ [j], (grp al s).2) := by
  have I := inv_grp e s (by omega)
  obtain ⟨j', f, a1, a2, a3, a4⟩ := I.has r hr
  obtain rfl : j' = j := Option.some.inj (a1.symm.trans hj)
  have hfs : al f s = true := e.trans f r s (by omega) (by omega) hs a4 ha
  refine grp_hit al s j' ?_
  rw [List.findIdx?_eq_some_iff_getElem]
  obtain ⟨h1, h2⟩ := List.getElem?_eq_some_iff.1 a2
  refine ⟨h1, by rw [h2]; exact hfs, fun i hi => ?_⟩
  have hg := List.getElem?_eq_getElem (show i < (grp al s).2.length by omega)
  have hap := I.apart i j' _ f hi hg a2
  intro hb
  have hl := (I.lt i _ hg).1
  have := e.trans _ s f (by omega) hs (by omega) hb (e.symm f s (by omega) hs hfs)
  rw [hap.2] at this
  cases this
theorem grp_alone {al : Nat → Nat → Bool} {n s : Nat} (e : Eqv n al) (hs : s < n) (h : ∀ r, r < s → al r s = false) : grp al (s + 1) = ((grp al s).1 ++ [(grp al s).2.length], (grp al s).2 ++ [s]) := by
  have I := inv_grp e s (by omega)
  refine grp_new al s ?_
  rw [List.findIdx?_eq_none_iff]
  intro f hf
  rw [h f (I.mem_lt f hf)]
/-- what is found among those ahead, so far -/
def KAt (al : Nat → Nat → Bool) (s q : Nat) (kv : Int) : Prop := (kv = -1 ∧ ∀ r, r < q → al r s = false) ∨ ∃ r j, r < q ∧ al r s = true ∧ (grp al s).1[r]? = some j ∧ kv = (j : Int)
/-- a row of numbers that grows by one -/
theorem rw_app {W wC : World} {q : Nat} {v : Value} {l : List Int} (h : Rw W q v l) (hq : q ≤ W.heap.size) (x : Int) (o : Obj) (g cap : Nat) (hown : wC.ownsRow q 3 1 (.slice (some ⟨g, 0, none⟩) (l.length + 1) cap) (l.length + 1) (l.map intV ++ [.int .i64 x])) (hgrow : (W.alloc o).grownBy wC v.ownBlock) : Rw wC q (.slice (some ⟨g, 0, none⟩) (l.length + 1) cap) (l ++ [x]) ∧ Below q W wC := by
  refine ⟨?_, ?_⟩
  · unfold Rw
    rw [List.length_append, List.map_append]
    exact hown
  · have hb : Below q W (W.alloc o) := (Below.refl _ _).alloc hq o
    exact hb.grown hgrow (by simp; omega) (fun k e => (own_lt h k e).1)
set_option maxHeartbeats 8000000 in
set_option maxRecDepth 100000 in
theorem RBlocks_any (N T : List (List Int)) (nv tv : Value) (w : World) (hG : Good N T) (hN : Rows w nv N) (hT : Rows w tv T) :
    Calls Tryd.prog 12 #[.agg #[nv, tv]] w fun e w' => Below w.heap.size w w' ∧ ∃ D v, Stable (tab N T) D ∧ e = .returned v ∧ Rw w' w.heap.size v (ints (gd N T D).1) := by
  obtain ⟨i0, hi0, hz0, hz1, hz2⟩ := info_parts Tryd.infoInt
  obtain ⟨wA, hwA⟩ : ∃ wA, wA = w.alloc (.cells #[nv, tv] 25) := ⟨_, rfl⟩
  have hzA : wA.heap.size = w.heap.size + 1 := by rw [hwA]; simp
  have hBA : Below w.heap.size w wA := by rw [hwA]; exact (Below.refl _ _).alloc (Nat.le_refl _) _
  have hTA : Tab wA w.heap.size nv tv := by rw [hwA]; exact TabR.new _ _ _
  have HC := hide (apart_any N T nv tv wA hG (hN.below hBA) (hT.below hBA))
  obtain ⟨gN, oN, nc, rfl⟩ := hN.base hG.pos
  obtain ⟨ta, tc, rfl⟩ := hT.slice
  have HTA := hide hTA
  have HBA := hide hBA
  have hn5 := hG.few
  obtain ⟨n, hn⟩ : ∃ n, n = N.length := ⟨_, rfl⟩
  have HNn := hide hn
  rw [← hn] at HTA hwA HC hn5 ⊢
  obtain ⟨t0, t1⟩ := HTA.out
  clear hN hT hBA hTA hG hn
  go_enter Tryd.func12, Tryd.ntmps12
  go_wp2_with fail
  rw [← hwA]
  clear hwA
  refine HC.out.mono ?_
  rintro e w1 ⟨hb1, D, g, rfl, hx, hst, _⟩
  rw [← HNn.out] at hx ⊢
  have HX := hide hx
  have HST := hide hst
  have HB1 := hide hb1
  have HEQ : Hid (Eqv n (eqB (tab N T) D)) := by rw [HNn.out]; exact eqv_eqB (tab N T) D
  have HLZ := hide (fun a b => lv_zero (tab N T) D a b)
  have HFIN : Hid (∀ W v, Below w1.heap.size w1 W → Rw W w1.heap.size v (ints (grp (eqB (tab N T) D) n).1) → Below w.heap.size w W ∧ ∃ D v', Stable (tab N T) D ∧ Ending.returned v = .returned v' ∧ Rw W w.heap.size v' (ints (gd N T D).1)) := fun W v h1 h2 => by
    refine ⟨then_ HBA.out (then_ HB1.out h1), D, v, HST.out, rfl, own_mono ?_ (then_ HBA.out HB1.out).size⟩
    unfold gd
    rw [← HNn.out]; exact h2
  obtain ⟨t0, t1⟩ := HTA.out.below hb1
  clear hx hst hb1 HC
  go_wp2_with fail
  generalize eqB (tab N T) D = al at *
  generalize lv (tab N T) D = F at *
  go_loopw [4, 5, 14] (fun ov mv iv wr => ∃ s : Nat, s ≤ n ∧ iv = .int .i64 (s : Int) ∧ mv = .int .i64 (((grp al s).2.length : Nat) : Int) ∧ (∃ a c, ov = .slice a s c) ∧ Hid (Rw wr w1.heap.size ov (ints (grp al s).1)) ∧ Hid (Below w1.heap.size w1 wr)) (fun _ _ iv _ => n - (intOf iv).toNat)
  case atStart => exact ⟨0, Nat.zero_le _, rfl, rfl, ⟨_, _, rfl⟩, World.ownsRow_nil _ _ _ _, Below.refl _ _⟩
  case round =>
    obtain ⟨s, hs, rfl, rfl, ⟨oa, oc, rfl⟩, HO, HB⟩ := hrel
    obtain ⟨wo, hwo⟩ : ∃ wo, wo = wr := ⟨_, rfl⟩
    subst hwo
    have HI : Hid (GInv al s (grp al s).1 (grp al s).2) := inv_grp HEQ.out s hs
    have HLEN : Hid ((ints (grp al s).1).length = s) := by show _ = _; rw [ints_len, HI.out.len]
    have hm5 : (grp al s).2.length ≤ 500 := Nat.le_trans (firsts_le s) (by omega)
    by_cases hlt : s < n
    · have hsi : (s : Int) < (n : Int) := by omega
      have HOI : Hid (Ints wo (.slice oa s oc) (ints (grp al s).1)) := HO.out.ints (by rw [HLEN.out]; unfold maxLen; omega) (fun x hx => by
        obtain ⟨j, hj⟩ := List.getElem?_of_mem hx
        have hjs : j < s := by have := (List.getElem?_eq_some_iff.1 hj).1; rw [HLEN.out] at this; exact this
        obtain ⟨q, f, e1, e2, _⟩ := HI.out.has j hjs
        have hq := (List.getElem?_eq_some_iff.1 e2).1
        rw [ints_get _ _ _ e1] at hj
        cases hj
        unfold I64; omega)
      have HXo := hide (HX.out.below HB.out)
      obtain ⟨m, hm⟩ : ∃ m, m = (grp al s).2.length := ⟨_, rfl⟩
      have HM := hide hm
      rw [← hm] at hm5 ⊢
      clear hm
      go_wp2_with fail
      go_loopw [7, 18] (fun kv rv wr => ∃ (q : Nat) (kk : Int), q ≤ s ∧ rv = .int .i64 (q : Int) ∧ kv = .int .i64 kk ∧ Hid (KAt al s q kk) ∧ Hid (wr = wo)) (fun _ rv _ => s - (intOf rv).toNat)
      case atStart => exact ⟨0, -1, Nat.zero_le _, rfl, rfl, .inl ⟨rfl, fun r hr => by omega⟩, rfl⟩
      case round =>
        obtain ⟨q, kk, hq, rfl, rfl, HK, HWR⟩ := hrel
        obtain rfl := HWR.out
        by_cases hqs : q < s
        · have hqi : (q : Int) < (s : Int) := by omega
          rcases HK.out with ⟨rfl, hno⟩ | ⟨r0, j, h1, h2, h3, rfl⟩
          · have HNO := hide hno
            obtain ⟨x0, x1, _⟩ := HXo.out.cells q s (by omega) hlt
            obtain ⟨j, hj⟩ : ∃ j, (grp al s).1[q]? = some j := ⟨_, List.getElem?_eq_getElem (by rw [HI.out.len]; exact hqs)⟩
            obtain ⟨go, oo, rfl, co, _⟩ := HOI.out.cell q _ (ints_get _ _ _ hj)
            have hz := HLZ.out q s
            by_cases h0 : F q s = 0
            · have HKN : Hid (KAt al s (q + 1) (j : Int)) := .inr ⟨q, j, by omega, hz.1 h0, hj, rfl⟩
              rw [h0] at x1
              clear hz hno hj
              go_wp2_with fail
              go_roundw
              case rel => exact ⟨q + 1, (j : Int), by omega, by go_num, rfl, HKN.out, trivial⟩
              case measure => simp [intOf]; omega
            · have HKN : Hid (KAt al s (q + 1) (-1)) := .inl ⟨rfl, fun r hr => by
                by_cases e : r = q
                · subst e
                  cases hb : al r s with
                  | false => rfl
                  | true => exact absurd (hz.2 hb) h0
                · exact HNO.out r (by omega)⟩
              have h0i : ¬ ((F q s : Nat) : Int) = 0 := by omega
              have h0b : (((F q s : Nat) : Int) == 0) = false := by simpa using h0i
              clear hz hno hj h0
              generalize F q s = c at *
              go_wp2_with fail
              go_roundw
              case rel => exact ⟨q + 1, -1, by omega, by go_num, rfl, HKN.out, trivial⟩
              case measure => simp [intOf]; omega
          · have HKN : Hid (KAt al s (q + 1) (j : Int)) := .inr ⟨r0, j, by omega, h2, h3, rfl⟩
            have hj0 : ¬ (j : Int) < 0 := by omega
            clear h1 h2 h3
            go_wp2_with fail
            go_roundw
            case rel => exact ⟨q + 1, (j : Int), by omega, by go_num, rfl, HKN.out, trivial⟩
            case measure => simp [intOf]; omega
        · have hqe : q = s := by omega
          subst hqe
          have hzw : w1.heap.size ≤ wr.heap.size := HB.out.size
          have HOWN : Hid (∀ o, (wr.alloc o).ownsRow w1.heap.size 3 1 (.slice oa q oc) q ((ints (grp al q).1).map intV)) := fun o => by have h := HO.out; unfold Rw at h; rw [HLEN.out] at h; exact h.alloc o
          have HONE : Hid (∀ x : Int, ∀ u ∈ [Value.int .i64 x], u.oneCell' = true) := by
            intro x u hu
            simp only [List.mem_cons, List.not_mem_nil, or_false] at hu
            subst hu; rfl
          have HAPP : Hid (∀ (x : Int) (o : Obj) (g2 cap2 : Nat) (wC : World), wC.ownsRow w1.heap.size 3 1 (.slice (some ⟨g2, 0, none⟩) (q + 1) cap2) (q + 1) ((ints (grp al q).1).map intV ++ [.int .i64 x]) → (wr.alloc o).grownBy wC (Value.slice oa q oc).ownBlock → Rw wC w1.heap.size (.slice (some ⟨g2, 0, none⟩) (q + 1) cap2) (ints (grp al q).1 ++ [x]) ∧ Below w1.heap.size w1 wC) := fun x o g2 cap2 wC h1 h2 => by
            have h := rw_app HO.out HB.out.size x o g2 cap2 (by rw [HLEN.out]; exact h1) h2
            rw [HLEN.out] at h
            exact ⟨h.1, HB.out.trans h.2⟩
          rcases HK.out with ⟨rfl, hno⟩ | ⟨r0, j, h1, h2, h3, rfl⟩
          · have hg := grp_alone HEQ.out hlt hno
            rw [← HM.out] at hg
            have HG1 : Hid (ints (grp al (q + 1)).1 = ints (grp al q).1 ++ [(m : Int)]) := by show _ = _; rw [hg, ints_snoc]
            have HG2 : Hid ((grp al (q + 1)).2.length = m + 1) := by show _ = _; rw [hg, List.length_append, ← HM.out]; rfl
            clear hno hg
            go_wp2_with (at_builtin; refine wpList_append_lies _ rfl (.tmp 43) (.tmp 45) 31 rfl w1.heap.size 3 i0 _ 1 8 Tryd.underlying31 hi0 hz0 hz1 hz2 rfl (by decide) (.slice oa q oc) q ((ints (grp al q).1).map intV) rfl (HOWN.out _) ⟨wr.heap.size, 0, none⟩ 1 1 [.int .i64 (m : Int)] rfl rfl (World.news_of_block (heap_alloc_new wr _)) (HONE.out _) (by decide) (by unfold maxLen; omega) (by omega) (by simp; omega) (wr.heap.size + 1) (by simp) ?_; intro g2 cap2 wC hown hgrow hat hltg; obtain ⟨ha1, ha2⟩ := HAPP.out _ _ g2 cap2 wC hown hgrow; have HA1 := hide ha1; have HA2 := hide ha2; clear hown hgrow hat ha1 ha2)
            go_roundw
            case rel => exact ⟨q + 1, by omega, by go_num, by rw [HG2.out]; go_num, ⟨_, _, rfl⟩, by rw [HG1.out]; exact HA1.out, HA2.out⟩
            case measure => simp [intOf]; omega
          · have hg := grp_at HEQ.out hlt h1 h2 h3
            have HG1 : Hid (ints (grp al (q + 1)).1 = ints (grp al q).1 ++ [(j : Int)]) := by show _ = _; rw [hg, ints_snoc]
            have HG2 : Hid ((grp al (q + 1)).2.length = m) := by show _ = _; rw [hg, ← HM.out]
            have hj0 : ¬ (j : Int) < 0 := by omega
            clear h1 h2 h3 hg
            go_wp2_with (at_builtin; refine wpList_append_lies _ rfl (.tmp 43) (.tmp 45) 31 rfl w1.heap.size 3 i0 _ 1 8 Tryd.underlying31 hi0 hz0 hz1 hz2 rfl (by decide) (.slice oa q oc) q ((ints (grp al q).1).map intV) rfl (HOWN.out _) ⟨wr.heap.size, 0, none⟩ 1 1 [.int .i64 (j : Int)] rfl rfl (World.news_of_block (heap_alloc_new wr _)) (HONE.out _) (by decide) (by unfold maxLen; omega) (by omega) (by simp; omega) (wr.heap.size + 1) (by simp) ?_; intro g2 cap2 wC hown hgrow hat hltg; obtain ⟨ha1, ha2⟩ := HAPP.out _ _ g2 cap2 wC hown hgrow; have HA1 := hide ha1; have HA2 := hide ha2; clear hown hgrow hat ha1 ha2)
            go_roundw
            case rel => exact ⟨q + 1, by omega, by go_num, by rw [HG2.out], ⟨_, _, rfl⟩, by rw [HG1.out]; exact HA1.out, HA2.out⟩
            case measure => simp [intOf]; omega
    · have hsn : s = n := by omega
      subst hsn
      have HFE := hide (HFIN.out wo _ HB.out HO.out)
      go_wp2_with fail
      go_ret
      exact HFE.out
end Bk
end Go.Proofs.YtdeijfkahhgojaaDoor
