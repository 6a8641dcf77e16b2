/-
  The walk of the document's Good. The way by which a state is come to first is the least of the shortest ones, in plain words.
-/
import Derived.Test.YtgldbliohpfljaaGreatDoorPcRowsAll
import Derived.Test.YtgldbliohpfljaaGreatDoorRfMachOfAll
import Derived.Test.YtgldbliohpfljaaGreatDoorRwEvalAll
import Derived.Deep.RegionHeld3
import Derived.Test.YtgldbliohpfljaaGreatDoorRcNextAll
namespace Go.Proofs.YtgldbliohpfljaaGreatDoor
section
namespace Rf
open Go.RowKit
/-- what names are, or were: the closures over a state's box -/
theorem askG_any (K : Nat) (hK : K = 49 ∨ K = 50) (g b1 n : Nat) (f : List UInt8 → Bool) (w : World) (hc : w.cell? ⟨g, 0, none⟩ = some (.map (some b1))) (hm : BM w b1 n f) (nm : List UInt8) (hn : nm.length ≤ maxLen) :
    Calls Tryz.prog K #[.string ⟨nm.toArray⟩, .pointer (some ⟨g, 0, none⟩)] w fun e w' => e = .returned (.bool (f nm)) ∧ Below w.heap.size w w' := by
  have hl := hm.look nm hn
  clear hm
  generalize f nm = y at *
  rcases hK with rfl | rfl
  · go_enter Tryz.func49, Tryz.ntmps49
    go_wp2_with fail
    go_ret
    exact ⟨rfl, Below.refl _ _⟩
  · go_enter Tryz.func50, Tryz.ntmps50
    go_wp2_with fail
    go_ret
    exact ⟨rfl, Below.refl _ _⟩
set_option maxRecDepth 100000 in
theorem BX.tells {w0 W : World} {n b : Nat} {st : St} (K : Nat) (hK : K = 49 ∨ K = 50) (h : BX w0 n st b W) : R3.Tells (fun nm => nm.length ≤ maxLen) (.func (.func K) #[] #[.pointer (some ⟨b, 0, none⟩)]) st.is W := by
  obtain ⟨m1, m2, h1, ⟨x1, x2, e, h2, _⟩, _⟩ := h
  have e1 : x1 = m1 := by
    simp only [Value.agg.injEq, List.toArray_eq_iff, List.cons.injEq, Value.map.injEq, Option.some.injEq, and_true] at e
    exact e.1.symm
  subst e1
  refine ⟨K, _, rfl, ?_, fun W' hW nm hn => askG_any K hK b x1 n st.is W' ?_ (h2.below hW) nm hn⟩
  · rcases hK with rfl | rfl <;> exact fun _ _ => by kernel_rfl
  · have := (two_cells ((hW.block _ (lt_some h1)).trans h1)).1
    exact this
set_option maxHeartbeats 16000000 in
set_option maxRecDepth 100000 in
theorem RGood_any (bx g : Nat) (p : Ld.Prg) (x : Ex) (w : World) (hm : IsRMach w bx p) (hL : RLaid w) (hck : Ld.check p = none) (hq6 : (Ld.kindL p.names 1).length ≤ 6) (hS4 : Mc.total (Mc.parts p) ≤ 4096) (hx : IsRx (fun _ => True) w x g) (hnm : ∀ n, n ∈ x.named true → n.length ≤ maxLen) :
    Calls Tryz.prog 14 #[.pointer (some ⟨bx, 0, none⟩), .pointer (some ⟨g, 0, none⟩)] w fun e w' => ∃ o, e = .returned o ∧ GoodAt w' o (Mc.total (Mc.parts p)) (2 ^ (Ld.kindL p.names 1).length) (Pr.goodRow p x (2 ^ (Ld.kindL p.names 1).length)) ∧ Below w.heap.size w w' := by
  obtain ⟨i0, hi0, hz0, hz1, hz2⟩ := info_parts Tryz.infoBool
  obtain ⟨i1, hi1, hy0, hy1, hy2⟩ := info_parts Tryz.infoBools
  obtain ⟨nv, rv, nx, us0, q0, k1, k2, _⟩ := hm
  obtain ⟨nv', rv', he, hn, hr⟩ := id k2
  simp only [Value.agg.injEq, List.toArray_eq_iff, List.cons.injEq, and_true] at he
  obtain ⟨rfl, rfl⟩ := he
  obtain ⟨na, nc, rfl, _⟩ := hn.slice
  obtain ⟨ra, rc, rfl, _⟩ := hr.slice
  obtain ⟨n, hnn⟩ : ∃ n, n = p.names.length := ⟨_, rfl⟩
  obtain ⟨m, hmm⟩ : ∃ m, m = p.rungs.length := ⟨_, rfl⟩
  obtain ⟨q, hqq⟩ : ∃ q, q = (Ld.kindL p.names 1).length := ⟨_, rfl⟩
  obtain ⟨S, hSS⟩ : ∃ S, S = Mc.total (Mc.parts p) := ⟨_, rfl⟩
  obtain ⟨I, hII⟩ : ∃ I, I = 2 ^ q := ⟨_, rfl⟩
  rw [← hqq] at k1 hq6 ⊢
  rw [← hSS] at k1 hS4 ⊢
  rw [← hII] at k1 ⊢
  rw [← hnn, ← hmm] at k1 k2
  rw [← hnn] at hn
  have hI64 : I ≤ 64 := by rw [hII]; exact Nat.le_trans (Nat.pow_le_pow_right (by decide) hq6) (by decide)
  have HKC : Hid (∀ W, Below w.heap.size w W → (W.cell? ⟨bx, 0, none⟩ = some (.slice na n nc) ∧ W.cell? ⟨bx, 1, none⟩ = some (.slice ra m rc)) ∧ (W.cell? ⟨bx, 2, none⟩ = some (.int .i64 (S : Int)) ∧ W.cell? ⟨bx, 3, none⟩ = some (.int .i64 (I : Int)))) := fun W hW => ⟨(k1.below hW).cells.1, (k1.below hW).cells.2.1⟩
  have HSTA : Hid (∀ W (s : Nat), Below w.heap.size w W → s ≤ 1000000 → Calls Tryz.prog 45 #[.pointer (some ⟨bx, 0, none⟩), .int .i64 (s : Int)] W fun e w' => Below W.heap.size W w' ∧ ∃ v', e = .returned v' ∧ StIs w' v' 12 (state p s)) := fun W s hW hs =>
    RState_any _ p _ _ _ S I s W (k1.below hW) (k2.below hW) (hL.below hW) hck hs
  have HIN : Hid (∀ W (k : Nat), Below w.heap.size w W → k ≤ 1000000 → Calls Tryz.prog 47 #[.pointer (some ⟨bx, 0, none⟩), .int .i64 (k : Int)] W fun e w' => ∃ v, e = .returned v ∧ w'.ownsRow W.heap.size 4 1 v (bitsTo k (Ld.kindL p.names 1).length).length ((bitsTo k (Ld.kindL p.names 1).length).map boolV) ∧ Below W.heap.size W w') := fun W k hW hk => by
    rw [bitsTo_len]
    exact RInput_any _ p.names _ _ _ S I k W (k1.below hW) (hn.below hW) ⟨_, _, _, rfl⟩ hk
  have HSTP : Hid (∀ W (s k : Nat) sv iv, Below w.heap.size w W → StIs W sv 12 (state p s) → Bools W iv (bitsTo k (Ld.kindL p.names 1).length) → Calls Tryz.prog 46 #[.agg #[.slice na n nc, .slice ra m rc], sv, iv] W fun e w' => Below W.heap.size W w' ∧ ∃ v', e = .returned v' ∧ StIs w' v' 212 (step p (state p s) (bitsTo k (Ld.kindL p.names 1).length))) := fun W s k sv iv hW hs hb =>
    Step_any p _ sv iv 12 _ _ W (k2.below hW) hck hs (by omega) hb (bitsTo_len _ _)
  have HEV : Hid (∀ W (s k b1 b2 : Nat) (W1 W2 : World), Below w.heap.size w W → BX W1 212 (step p (state p s) (bitsTo k (Ld.kindL p.names 1).length)) b1 W → BX W2 12 (state p s) b2 W → Calls Tryz.prog 48 #[.pointer (some ⟨g, 0, none⟩), .func (.func 49) #[] #[.pointer (some ⟨b1, 0, none⟩)], .func (.func 50) #[] #[.pointer (some ⟨b2, 0, none⟩)]] W fun e w' => e = .returned (.bool (Pr.good p x s k)) ∧ Below W.heap.size W w') := fun W s k b1 b2 W1 W2 hW h1 h2 => by
    have h := R3.reval_any (fun nm => nm.length ≤ maxLen) x g _ _ _ _ W hnm (IsRx.later hx hW) (h1.tells _ (.inl rfl)) (h2.tells _ (.inr rfl))
    rw [doc_good p hck x s k] at h
    exact h
  have HLR : Hid (∀ k : Nat, (bitsTo (k : Int) (Ld.kindL p.names 1).length).length ≤ 1000000) := fun k => by rw [bitsTo_len, ← hqq]; omega
  have HRL : Hid (∀ s, (Pr.goodRow p x I s).length = I) := fun s => Pr.goodRow_len p x I s
  have HRS : Hid (∀ s k, k < I → (Pr.goodRow p x I s).take (k + 1) = (Pr.goodRow p x I s).take k ++ [Pr.good p x s k]) := fun s k hk => range_take_succ (Pr.good p x s) I k hk
  have HOS : Hid (∀ s, s < S → ((List.range S).map (Pr.goodRow p x I)).take (s + 1) = ((List.range S).map (Pr.goodRow p x I)).take s ++ [Pr.goodRow p x I s]) := fun s hs => range_take_succ (Pr.goodRow p x I) S s hs
  have HOL : Hid (((List.range S).map (Pr.goodRow p x I)).length = S) := by show _ = _; simp
  have HGA : Hid (∀ W o us, BolR w.heap.size W o us ((List.range S).map (Pr.goodRow p x I)) → GoodAt W o S I (Pr.goodRow p x I)) := fun W o us h => h.goodAt (by rw [hSS]; exact Mc.total_pos _ (Mc.parts_ok p)) (by rw [hII]; exact Nat.pow_pos (by decide)) (fun s => Pr.goodRow_len p x I s)
  obtain ⟨rows, hrows⟩ : ∃ rows, rows = (List.range S).map (Pr.goodRow p x I) := ⟨_, rfl⟩
  rw [← hrows] at HGA HOS HOL
  clear hrows
  obtain ⟨⟨c0, c1⟩, c2, c3⟩ := HKC.out w (Below.refl _ _)
  have hmf : ∀ (fn : Fn) (first cap : Array Value) (w : World), (Instr.makeFunc fn first cap).run Tryz.prog w = .ok (.func fn first cap) w := fun _ _ _ _ => rfl
  clear k1 k2 hn hr hx hnm hck hL hnn hmm hqq hSS hII
  go_enter Tryz.func14, Tryz.ntmps14
  go_wp2_with fail
  clear c0 c1 c2 c3
  go_loopw [15, 5] (fun i o wr => ∃ (s : Nat) (xa : Option Addr) (xc : Nat) (us : List Value), s ≤ S ∧ i = .int .i64 (s : Int) ∧ o = .slice xa s xc ∧ Hid (BolR w.heap.size wr (.slice xa s xc) us (rows.take s)) ∧ Hid (Below w.heap.size w wr)) (fun i _ _ => S - (intOf i).toNat)
  case atStart => exact ⟨0, none, 0, [], Nat.zero_le _, rfl, rfl, BolR.nil _ _, Below.refl _ _⟩
  case round =>
    obtain ⟨s, xa, xc, us, hs, rfl, rfl, HR, HBW⟩ := hrel
    obtain ⟨wo, hwo⟩ : ∃ wo, wo = wr := ⟨_, rfl⟩
    subst hwo
    by_cases hlt : s < S
    · have hsi : (s : Int) < (S : Int) := by omega
      have HST := hide (HSTA.out wo s HBW.out (by omega))
      go_wp2_with fail
      refine HST.out.mono ?_
      rintro e wB ⟨hbB, sv, rfl, hst⟩
      obtain ⟨m1, m2, hsv, _⟩ := id hst
      subst hsv
      obtain ⟨wC, hwC⟩ : ∃ wC, wC = wB.alloc (.cells #[.map (some m1), .map (some m2)] 123) := ⟨_, rfl⟩
      have HBX : Hid (BX wo 12 (state p s) wB.heap.size wC) := by show BX _ _ _ _ _; rw [hwC]; exact BX.new hbB hst
      have hboC : Below wo.heap.size wo wC := by rw [hwC]; exact then_ hbB (below_al _ _)
      have HBOC := hide hboC
      obtain ⟨_, c2, c3⟩ := HKC.out wC (then_ HBW.out hboC)
      obtain ⟨_, d2, d3⟩ := HKC.out wB (then_ HBW.out hbB)
      have HWC := hide hwC
      have e3 := fun o => cell_alloc_keep wB o _ _ d3
      clear hst hbB hwC hboC HST
      go_wp2_with fail
      rw [← HWC.out]
      clear c2 c3 d2 d3 e3
      go_loopw [25, 8] (fun i l wr => ∃ (k : Nat) (la : Option Addr) (lc : Nat), k ≤ I ∧ i = .int .i64 (k : Int) ∧ l = .slice la k lc ∧ Hid (wr.ownsRow wC.heap.size 4 1 (.slice la k lc) k (((Pr.goodRow p x I s).take k).map boolV)) ∧ Hid (Below wC.heap.size wC wr)) (fun i _ _ => I - (intOf i).toNat)
      case atStart => exact ⟨0, none, 0, Nat.zero_le _, rfl, rfl, World.ownsRow_nil _ _ _ _, Below.refl _ _⟩
      case round =>
        obtain ⟨k, la, lc, hk, rfl, rfl, HO, HBC⟩ := hrel
        have HB : Hid (Below wo.heap.size wo wr) := then_ HBOC.out HBC.out
        obtain ⟨wi, hwi⟩ : ∃ wi, wi = wr := ⟨_, rfl⟩
        subst hwi
        by_cases hlt2 : k < I
        · have hki : (k : Int) < (I : Int) := by omega
          have HBWI : Hid (Below w.heap.size w wi) := then_ HBW.out HB.out
          have HBXI : Hid (BX wo 12 (state p s) wB.heap.size wi) := HBX.out.below HBC.out
          obtain ⟨z1, z2, hz, hzs, _⟩ := HBXI.out
          have HZ := hide hz
          have HZS := hide hzs
          have HDR : Hid (Below wi.heap.size wi wi.drew) := ⟨rfl, rfl, rfl, Nat.le_refl _, fun _ _ => rfl⟩
          have HKE : Hid (∀ W, Below wi.heap.size wi W → W.cell? ⟨bx, 0, none⟩ = some (.slice na n nc) ∧ W.cell? ⟨bx, 1, none⟩ = some (.slice ra m rc) ∧ W.cell? ⟨wB.heap.size, 0, none⟩ = some (.map (some z1)) ∧ W.cell? ⟨wB.heap.size, 1, none⟩ = some (.map (some z2))) := fun W hW => by
            have h1 := (HKC.out W (then_ HBWI.out hW)).1
            have h2 := two_cells ((hW.block _ (lt_some HZ.out)).trans HZ.out)
            exact ⟨h1.1, h1.2, h2.1, h2.2.1⟩
          have HIN2 : Hid (∀ W, Below wi.heap.size wi W → Calls Tryz.prog 47 #[.pointer (some ⟨bx, 0, none⟩), .int .i64 (k : Int)] W fun e w' => ∃ v, e = .returned v ∧ w'.ownsRow W.heap.size 4 1 v (bitsTo k (Ld.kindL p.names 1).length).length ((bitsTo k (Ld.kindL p.names 1).length).map boolV) ∧ Below W.heap.size W w') := fun W hW => HIN.out W k (then_ HBWI.out hW) (by omega)
          have HSTP2 : Hid (∀ W iv, Below wi.heap.size wi W → Bools W iv (bitsTo k (Ld.kindL p.names 1).length) → Calls Tryz.prog 46 #[.agg #[.slice na n nc, .slice ra m rc], .agg #[.map (some z1), .map (some z2)], iv] W fun e w' => Below W.heap.size W w' ∧ ∃ v', e = .returned v' ∧ StIs w' v' 212 (step p (state p s) (bitsTo k (Ld.kindL p.names 1).length))) := fun W iv hW hb => HSTP.out W s k _ iv (then_ HBWI.out hW) (HZS.out.below hW) hb
          have HLK := hide (HLR.out k)
          obtain ⟨x0, x1, x2, x3⟩ := HKE.out wi (Below.refl _ _)
          have HAD : Hid (∀ o, Below wi.heap.size wi (wi.alloc o).drew) := fun o => then_ (below_al wi o) ⟨rfl, rfl, rfl, Nat.le_refl _, fun _ _ => rfl⟩
          clear hz hzs
          go_upto_region 10 with fail
          go_cut [10] (fun v wx => ∃ b, v = .pointer (some ⟨b, 0, none⟩) ∧ BX wi 212 (step p (state p s) (bitsTo k (Ld.kindL p.names 1).length)) b wx)
          case first =>
            go_region_held3 (fun W => W.cell? ⟨bx, 0, none⟩ = some (.slice na n nc) ∧ W.cell? ⟨bx, 1, none⟩ = some (.slice ra m rc) ∧ W.cell? ⟨wB.heap.size, 0, none⟩ = some (.map (some z1)) ∧ W.cell? ⟨wB.heap.size, 1, none⟩ = some (.map (some z2))) ((refine HKE.out _ ?_; first | exact ((HB2.out.setCell (p := ⟨w1.heap.size, 0, none⟩) HB1.out.size _).setCell (p := ⟨w1.heap.size, 1, none⟩) HB1.out.size _) | exact ((HB2.out.setCell (p := ⟨wi.heap.size, 0, none⟩) (Nat.le_refl _) _).setCell (p := ⟨wi.heap.size, 1, none⟩) (Nat.le_refl _) _) | exact HDR.out | exact HAD.out _ | exact HB1.out | exact HB2.out | exact (then_ HB1.out (below_al _ _)) | exact (then_ HB2.out (below_al _ _)) | exact (then_ HDR.out (below_al _ _)) | exact below_al _ _ | exact Below.refl _ _)) ((first
              | (go_at_call 47; (with_reducible refine (HIN2.out _ HDR.out).mono ?_); rintro e w1 ⟨iv, rfl, hown, hb⟩; have HB1 : Hid (Below wi.heap.size wi w1) := then_ HDR.out hb; have HBO := hide (bools_of hown HLK.out); clear hb hown)
              | (go_at_call 47; (with_reducible refine (HIN2.out _ (below_al _ _)).mono ?_); rintro e w1 ⟨iv, rfl, hown, hb⟩; have HB1 : Hid (Below wi.heap.size wi w1) := then_ (below_al _ _) hb; have HV : Hid (w1.heap[wi.heap.size]? = some (.cells #[.map none, .map none] 123 (0, 0))) := at1 hb; have HBO := hide (bools_of hown HLK.out); clear hb hown)
              | (go_at_call 47; (with_reducible refine (HIN2.out _ (then_ HDR.out (below_al _ _))).mono ?_); rintro e w1 ⟨iv, rfl, hown, hb⟩; have HB1 : Hid (Below wi.heap.size wi w1) := then_ (then_ HDR.out (below_al _ _)) hb; have HV : Hid (w1.heap[wi.heap.size]? = some (.cells #[.map none, .map none] 123 (0, 0))) := at1 hb; have HBO := hide (bools_of hown HLK.out); clear hb hown)
              | (go_at_call 47; (with_reducible refine (HIN2.out _ (HAD.out _)).mono ?_); rintro e w1 ⟨iv, rfl, hown, hb⟩; have HB1 : Hid (Below wi.heap.size wi w1) := then_ (HAD.out _) hb; have HV : Hid (w1.heap[wi.heap.size]? = some (.cells #[.map none, .map none] 123 (0, 0))) := at1d hb; have HBO := hide (bools_of hown HLK.out); clear hb hown)
              | (go_at_call 46; (with_reducible refine (HSTP2.out _ _ HB1.out HBO.out).mono ?_); rintro e w2 ⟨hb, v2, rfl, hst⟩; have HB2 : Hid (Below wi.heap.size wi w2) := then_ HB1.out hb; have HV2 := hide ((hb.block _ (lt_some HV.out)).trans HV.out); obtain ⟨t0, t1, t2, t3⟩ := two_cells HV2.out; have HST2 := hide hst; obtain ⟨y1, y2, hy, _⟩ := id hst; subst hy; clear hb hst)
              | (go_at_call 46; (with_reducible refine (HSTP2.out _ _ HB1.out HBO.out).mono ?_); rintro e w2 ⟨hb, v2, rfl, hst⟩; have HB2 : Hid (Below wi.heap.size wi w2) := then_ HB1.out hb; have HB12 := hide hb; have HST2 := hide hst; obtain ⟨y1, y2, hy, _⟩ := id hst; subst hy; clear hb hst)
              | (go_at_call 46; (with_reducible refine (HSTP2.out _ _ (then_ HB1.out (below_al _ _)) (HBO.out.below (below_al _ _))).mono ?_); rintro e w2 ⟨hb, v2, rfl, hst⟩; have HB2 : Hid (Below wi.heap.size wi w2) := then_ (then_ HB1.out (below_al _ _)) hb; have HV2 : Hid (w2.heap[w1.heap.size]? = some (.cells #[.map none, .map none] 123 (0, 0))) := at1 hb; obtain ⟨t0, t1, t2, t3⟩ := two_cells HV2.out; have HST2 := hide hst; obtain ⟨y1, y2, hy, _⟩ := id hst; subst hy; clear hb hst)))
            all_goals go_wp2_with fail
            all_goals go_meet
            all_goals first
              | exact ⟨_, rfl, BX.new HB2.out HST2.out⟩
              | exact ⟨_, rfl, BX.put HV2.out HB2.out HB1.out.size HST2.out⟩
              | exact ⟨_, rfl, BX.put HV2.out HB2.out (Nat.le_refl _) HST2.out⟩
          case rest =>
            obtain ⟨b, rfl, hbx⟩ := hcut
            obtain ⟨_, _, _, _, hbw, _⟩ := id hbx
            have HEV2 := hide (HEV.out wc s k b wB.heap.size wi wo (then_ HBWI.out hbw) hbx (HBXI.out.below hbw))
            have HBC2 := hide hbw
            have HSU := hide (HRS.out s k hlt2)
            generalize Pr.good p x s k = gd at *
            clear hbx hbw x0 x1 x2 x3
            go_wp2_with fail
            refine HEV2.out.mono ?_
            rintro e w5 ⟨rfl, hb5⟩
            have HB5 : Hid (Below wi.heap.size wi w5) := then_ HBC2.out hb5
            obtain ⟨xs, hxs⟩ : ∃ xs, xs = (Pr.goodRow p x I s).take k := ⟨_, rfl⟩
            rw [← hxs] at HO HSU
            have HO5 := hide (own_below HO.out HB5.out)
            have HOWN : Hid (∀ o, (w5.alloc o).ownsRow wC.heap.size 4 1 (.slice la k lc) k (xs.map boolV)) := fun o => HO5.out.alloc o
            have HONE : Hid (∀ u ∈ [Value.bool gd], u.oneCell' = true) := by
              intro u hu
              simp only [List.mem_cons, List.not_mem_nil, or_false] at hu
              subst hu; rfl
            have HC5 : Hid (Below wC.heap.size wC w5) := then_ HBC.out HB5.out
            have hzw : wC.heap.size ≤ w5.heap.size := HC5.out.size
            have HFIN : Hid (∀ (o : Obj) (g2 cap : Nat) (wD : World), wD.ownsRow wC.heap.size 4 1 (.slice (some ⟨g2, 0, none⟩) (k + 1) cap) (k + 1) (xs.map boolV ++ [.bool gd]) → (w5.alloc o).grownBy wD (Value.slice la k lc).ownBlock →
                wD.ownsRow wC.heap.size 4 1 (.slice (some ⟨g2, 0, none⟩) (k + 1) cap) (k + 1) (((Pr.goodRow p x I s).take (k + 1)).map boolV) ∧ Below wC.heap.size wC wD) := by
              intro o g2 cap wD hown hgrow
              rw [HSU.out, List.map_append]
              exact ⟨hown, (HC5.out.alloc (by omega) o).grown hgrow (by simp; omega) (fun j e => (HO5.out.lt j e).1)⟩
            clear hxs hb5
            go_wp2_with (at_builtin; refine wpList_append_lies _ rfl (.tmp 37) (.tmp 42) 51 rfl wC.heap.size 4 i0 _ 1 1 Tryz.underlying51 hi0 hz0 hz1 hz2 rfl (by decide) (.slice la k lc) k (xs.map boolV) rfl (HOWN.out _) ⟨w5.heap.size, 0, none⟩ 1 1 [.bool gd] rfl rfl (World.news_of_block (heap_alloc_new w5 _)) HONE.out (by decide) (by unfold maxLen; omega) (by omega) (by simp; omega) (w5.heap.size + 1) (by simp) ?_; intro g2 cap2 wD hown hgrow hat hltg; obtain ⟨hoD, hcD⟩ := HFIN.out _ g2 cap2 wD hown hgrow; have HOD := hide hoD; have HCD := hide hcD; clear hown hgrow hat hoD hcD)
            go_roundw
            case rel => exact ⟨k + 1, _, _, by omega, by go_num, rfl, HOD.out, HCD.out⟩
            case measure => simp [intOf]; omega
        · obtain rfl : k = I := by omega
          have hle : (Pr.goodRow p x k s).take k = Pr.goodRow p x k s := List.take_of_length_le (by rw [HRL.out]; exact Nat.le_refl _)
          rw [hle] at HO
          have HSU := hide (HOS.out s hlt)
          have HTL : Hid ((rows.take s).length = s) := by show _ = _; rw [List.length_take, HOL.out]; omega
          have HRr := hide (HR.out.below HB.out)
          have HOWN : Hid (∀ o, (wi.alloc o).ownsRow w.heap.size 51 1 (.slice xa s xc) s us) := fun o => by
            have h := HRr.out.own.alloc o
            rw [HTL.out] at h
            exact h
          have HONE : Hid (∀ u ∈ [Value.slice la k lc], u.oneCell' = true) := by
            intro u hu
            simp only [List.mem_cons, List.not_mem_nil, or_false] at hu
            subst hu; rfl
          have HBWI : Hid (Below w.heap.size w wi) := then_ HBW.out HB.out
          have HZC : Hid (w.heap.size ≤ wC.heap.size) := (then_ HBW.out HBOC.out).size
          have hzw : w.heap.size ≤ wi.heap.size := HBWI.out.size
          have HFIN : Hid (∀ (o : Obj) (g2 cap : Nat) (wD : World), wD.ownsRow w.heap.size 51 1 (.slice (some ⟨g2, 0, none⟩) (s + 1) cap) (s + 1) (us ++ [.slice la k lc]) → (wi.alloc o).grownBy wD (Value.slice xa s xc).ownBlock →
              BolR w.heap.size wD (.slice (some ⟨g2, 0, none⟩) (s + 1) cap) (us ++ [.slice la k lc]) (rows.take (s + 1)) ∧ Below w.heap.size w wD) := by
            intro o g2 cap wD hown hgrow
            rw [HSU.out]
            exact ⟨HRr.out.put (by rw [HRL.out]; exact own_mono HO.out HZC.out) o (by rw [HTL.out]; exact hown) hgrow, (HBWI.out.alloc HBWI.out.size o).grown hgrow (by simp; omega) (fun j e => ((HOWN.out o).lt j e).1)⟩
          have hki : ¬ (k : Int) < (k : Int) := by omega
          clear hle
          go_wp2_with (at_builtin; refine wpList_append_lies _ rfl (.tmp 45) (.tmp 47) 31 rfl w.heap.size 51 i1 _ 1 24 Tryz.underlying31 hi1 hy0 hy1 hy2 rfl (by decide) (.slice xa s xc) s us rfl (HOWN.out _) ⟨wi.heap.size, 0, none⟩ 1 1 [.slice la k lc] rfl rfl (World.news_of_block (heap_alloc_new wi _)) HONE.out (by decide) (by unfold maxLen; omega) (by omega) (by simp; omega) (wi.heap.size + 1) (by simp) ?_; intro g2 cap2 wD hown hgrow hat hltg; obtain ⟨hrD, hbD⟩ := HFIN.out _ g2 cap2 wD hown hgrow; have HRD := hide hrD; have HBD := hide hbD; clear hown hgrow hat hrD hbD)
          go_roundw
          case rel => exact ⟨s + 1, _, _, _, by omega, by go_num, rfl, HRD.out, HBD.out⟩
          case measure => simp [intOf]; omega
    · obtain rfl : s = S := by omega
      have HF : Hid (GoodAt wo (.slice xa s xc) s I (Pr.goodRow p x I)) := by
        refine HGA.out wo _ us ?_
        have h := HR.out
        rw [List.take_of_length_le (by rw [HOL.out]; exact Nat.le_refl _)] at h
        exact h
      have hsi : ¬ (s : Int) < (s : Int) := by omega
      go_wp2_with fail
      go_ret
      exact ⟨_, rfl, HF.out, HBW.out⟩
end Rf
end
section
namespace Rc
/-- is a list ahead of another one of the same length? -/
def bef : List Nat → List Nat → Bool
  | a :: ar, b :: bs => if a = b then bef ar bs else decide (a < b)
  | _, _ => false
theorem bef_irr : ∀ a, bef a a = false
  | [] => rfl
  | _ :: ar => by unfold bef; rw [if_pos rfl]; exact bef_irr ar
theorem bef_snoc : ∀ (p q : List Nat) (i j : Nat), p.length = q.length → bef (p ++ [i]) (q ++ [j]) = (bef p q || (decide (p = q) && decide (i < j)))
  | [], [], i, j, _ => by
    by_cases e : i = j
    · subst e; simp [bef]
    · simp [bef, e]
  | [], _ :: _, _, _, h => by simp at h
  | _ :: _, [], _, _, h => by simp at h
  | a :: p, b :: q, i, j, h => by
    have ih := bef_snoc p q i j (by simpa using h)
    simp only [List.cons_append, bef]
    by_cases e : a = b
    · subst e; rw [if_pos rfl, if_pos rfl, ih]; simp
    · rw [if_neg e, if_neg e]; simp [e]
theorem bef_asym : ∀ (a b : List Nat), bef a b = true → bef b a = false
  | [], _, h => by simp [bef] at h
  | _ :: _, [], h => by simp [bef] at h
  | x :: a, y :: b, h => by
    unfold bef at h ⊢
    by_cases e : x = y
    · subst e; rw [if_pos rfl] at h ⊢; exact bef_asym a b h
    · rw [if_neg e] at h
      rw [if_neg (fun k => e k.symm)]
      simp at h ⊢
      omega
theorem bef_trans : ∀ (a b c : List Nat), bef a b = true → bef b c = true → bef a c = true
  | [], _, _, h, _ => by simp [bef] at h
  | _ :: _, [], _, h, _ => by simp [bef] at h
  | _ :: _, _ :: _, [], _, h => by simp [bef] at h
  | x :: a, y :: b, z :: c, h, k => by
    unfold bef at h k ⊢
    by_cases e : x = y
    · subst e
      rw [if_pos rfl] at h
      by_cases e2 : x = z
      · subst e2; rw [if_pos rfl] at k ⊢; exact bef_trans a b c h k
      · rw [if_neg e2] at k ⊢; exact k
    · rw [if_neg e] at h
      simp at h
      by_cases e2 : y = z
      · subst e2; rw [if_neg e]; simpa using h
      · rw [if_neg e2] at k
        simp at k
        rw [if_neg (by omega)]
        simp
        omega
theorem bef_tri : ∀ (a b : List Nat), a.length = b.length → a = b ∨ bef a b = true ∨ bef b a = true
  | [], [], _ => .inl rfl
  | [], _ :: _, h => by simp at h
  | _ :: _, [], h => by simp at h
  | x :: a, y :: b, h => by
    by_cases e : x = y
    · subst e
      rcases bef_tri a b (by simpa using h) with h1 | h1 | h1
      · exact .inl (by rw [h1])
      · exact .inr (.inl (by unfold bef; rw [if_pos rfl]; exact h1))
      · exact .inr (.inr (by unfold bef; rw [if_pos rfl]; exact h1))
    · rcases Nat.lt_or_gt_of_ne e with h1 | h1
      · exact .inr (.inl (by unfold bef; rw [if_neg e]; simpa using h1))
      · exact .inr (.inr (by unfold bef; rw [if_neg (fun k => e k.symm)]; simpa using h1))
/-- in what order states are met: by the place of the one ahead, then by the input -/
structure Ordd (next : Nat → List Nat) (q : Qu) (k b : Nat) : Prop where
  first : ∀ (j f i u : Nat), q.met[j]? = some f → (j < k ∨ (j = k ∧ i < b)) → (next f)[i]? = some u → u ≠ 0 → ∃ a : Nat, q.met[a]? = some (q.at_ u).frm ∧ (a < j ∨ (a = j ∧ (q.at_ u).by_ ≤ i))
  ord : ∀ (x y s t : Nat), x < y → q.met[x]? = some s → q.met[y]? = some t → s ≠ 0 → t ≠ 0 → ∃ a c : Nat, q.met[a]? = some (q.at_ s).frm ∧ q.met[c]? = some (q.at_ t).frm ∧ (a < c ∨ (a = c ∧ (q.at_ s).by_ < (q.at_ t).by_))
  last : ∀ s, s ∈ q.met → s ≠ 0 → ∃ a : Nat, q.met[a]? = some (q.at_ s).frm ∧ (a < k ∨ (a = k ∧ (q.at_ s).by_ < b))
theorem see_ord {next : Nat → List Nat} {S : Nat} {q : Qu} {k b f s : Nat} (h : Ok next S q k b) (o : Ordd next q k b) (hf : q.met[k]? = some f) (hs : s < S) (hb : (next f)[b]? = some s) : Ordd next (see f q b s) k (b + 1) := by
  have hfm : f ∈ q.met := List.mem_of_getElem? hf
  have hkl : k < q.met.length := (List.getElem?_eq_some_iff.1 hf).1
  have h0m : 0 ∈ q.met := List.mem_of_getElem? h.hd
  have hin : ∀ (j g i u : Nat), q.met[j]? = some g → (j < k ∨ (j = k ∧ i < b)) → (next g)[i]? = some u → u ∈ q.met := fun j g i u hj hp hu => by
    rcases hp with hp | ⟨rfl, hp⟩
    · exact (h.done j g u hp hj (List.mem_of_getElem? hu)).1
    · exact (h.part g i u hj hp hu).1
  unfold see
  by_cases hv : (q.at_ s).far < 0
  · rw [if_pos hv]
    have hsm : s ∉ q.met := fun hm => by have := h.vis s hm; omega
    have hs0 : s ≠ 0 := fun e => hsm (by rw [e]; exact h0m)
    have hsl : s < q.steps.length := by rw [h.len]; exact hs
    have hat := fun t => at_set q s t ⟨(q.at_ f).far + 1, f, b⟩ (q.met ++ [s]) hsl
    have hold : ∀ t, t ∈ q.met → (Qu.mk (q.steps.set s ⟨(q.at_ f).far + 1, f, b⟩) (q.met ++ [s])).at_ t = q.at_ t := fun t ht => by
      rw [hat, if_neg]; intro e; subst e; exact hsm ht
    have hnew : (Qu.mk (q.steps.set s ⟨(q.at_ f).far + 1, f, b⟩) (q.met ++ [s])).at_ s = ⟨(q.at_ f).far + 1, f, b⟩ := by rw [hat, if_pos rfl]
    have hup : ∀ (a t : Nat), q.met[a]? = some t → (q.met ++ [s])[a]? = some t := fun a t ha => by
      rw [List.getElem?_append_left (List.getElem?_eq_some_iff.1 ha).1]; exact ha
    have hget : ∀ (i t : Nat), (q.met ++ [s])[i]? = some t → (i < q.met.length ∧ q.met[i]? = some t ∧ t ∈ q.met) ∨ (i = q.met.length ∧ t = s) := fun i t ht => by
      by_cases hi : i < q.met.length
      · rw [List.getElem?_append_left hi] at ht
        exact .inl ⟨hi, ht, List.mem_of_getElem? ht⟩
      · rw [List.getElem?_append_right (by omega)] at ht
        have hl : i - q.met.length < [s].length := (List.getElem?_eq_some_iff.1 ht).1
        have hi2 : i = q.met.length := by simp at hl; omega
        subst hi2
        simp at ht
        exact .inr ⟨rfl, ht.symm⟩
    refine ⟨?_, ?_, ?_⟩
    · intro j g i u hj hp hu hu0
      rcases hget j g hj with ⟨j1, j2, j3⟩ | ⟨j1, _⟩
      · by_cases hold' : j < k ∨ (j = k ∧ i < b)
        · obtain ⟨a, a1, a2⟩ := o.first j g i u j2 hold' hu hu0
          rw [hold u (hin j g i u j2 hold' hu)]
          exact ⟨a, hup _ _ a1, a2⟩
        · obtain rfl : j = k := by omega
          obtain rfl : i = b := by omega
          rw [hf] at j2
          cases j2
          rw [hb] at hu
          cases hu
          rw [hnew]
          exact ⟨j, hup _ _ hf, .inr ⟨rfl, Nat.le_refl _⟩⟩
      · omega
    · intro x y t u hxy hx hy ht hu
      rcases hget x t hx with ⟨x1, x2, x3⟩ | ⟨x1, _⟩
      · rcases hget y u hy with ⟨y1, y2, y3⟩ | ⟨y1, rfl⟩
        · obtain ⟨a, c, e1, e2, e3⟩ := o.ord x y t u hxy x2 y2 ht hu
          rw [hold t x3, hold u y3]
          exact ⟨a, c, hup _ _ e1, hup _ _ e2, e3⟩
        · obtain ⟨a, e1, e2⟩ := o.last t x3 ht
          rw [hold t x3, hnew]
          exact ⟨a, k, hup _ _ e1, hup _ _ hf, e2⟩
      · rcases hget y u hy with ⟨y1, _, _⟩ | ⟨y1, _⟩ <;> omega
    · intro t ht ht0
      rcases List.mem_append.1 ht with ht | ht
      · obtain ⟨a, e1, e2⟩ := o.last t ht ht0
        rw [hold t ht]
        exact ⟨a, hup _ _ e1, by omega⟩
      · simp at ht
        subst ht
        rw [hnew]
        exact ⟨k, hup _ _ hf, .inr ⟨rfl, Nat.lt_succ_self _⟩⟩
  · rw [if_neg hv]
    have hsm : s ∈ q.met := by
      refine Classical.byContradiction fun hm => hv ?_
      rw [h.nev s hs hm]; decide
    refine ⟨?_, o.ord, ?_⟩
    · intro j g i u hj hp hu hu0
      by_cases hold' : j < k ∨ (j = k ∧ i < b)
      · exact o.first j g i u hj hold' hu hu0
      · obtain rfl : j = k := by omega
        obtain rfl : i = b := by omega
        rw [hf] at hj
        cases hj
        rw [hb] at hu
        cases hu
        obtain ⟨a, e1, e2⟩ := o.last _ hsm hu0
        exact ⟨a, e1, by omega⟩
    · intro t ht ht0
      obtain ⟨a, e1, e2⟩ := o.last t ht ht0
      exact ⟨a, e1, by omega⟩
theorem seesTo_ord {next : Nat → List Nat} {S : Nat} {q : Qu} {k f : Nat} (h : Ok next S q k 0) (o : Ordd next q k 0) (hf : q.met[k]? = some f) (hn : ∀ s, s ∈ next f → s < S) : ∀ b, b ≤ (next f).length → Ordd next (seesTo (next f) f q b) k b
  | 0, _ => o
  | b + 1, hb => by
    obtain ⟨h1, h2⟩ := seesTo_ok h hf hn b (by omega)
    have o1 := seesTo_ord h o hf hn b (by omega)
    have hbl : b < (next f).length := by omega
    have e : (next f).getD b 0 = (next f)[b] := by simp [hbl]
    show Ordd next (see f (seesTo (next f) f q b) b ((next f).getD b 0)) k (b + 1)
    rw [e]
    exact see_ord h1 o1 h2 (hn _ (List.getElem_mem hbl)) (List.getElem?_eq_getElem hbl)
theorem next_ord {next : Nat → List Nat} {q : Qu} {k f : Nat} (o : Ordd next q k (next f).length) (hf : q.met[k]? = some f) : Ordd next q (k + 1) 0 := by
  refine ⟨fun j g i u hj hp hu hu0 => ?_, o.ord, fun t ht ht0 => ?_⟩
  · refine o.first j g i u hj ?_ hu hu0
    by_cases e : j = k
    · subst e
      rw [hf] at hj
      cases hj
      exact .inr ⟨rfl, (List.getElem?_eq_some_iff.1 hu).1⟩
    · exact .inl (by omega)
  · obtain ⟨a, e1, e2⟩ := o.last t ht ht0
    exact ⟨a, e1, by omega⟩
theorem begin_ord (next : Nat → List Nat) (S : Nat) : Ordd next (begin S) 0 0 := by
  have hm : ∀ s, s ∈ (begin S).met → s = 0 := fun s hs => by simpa [begin] using hs
  refine ⟨fun j f i u _ hp => by omega, fun x y s t _ hx _ hs => absurd (hm s (List.mem_of_getElem? hx)) hs, fun s hs h0 => absurd (hm s hs) h0⟩
theorem rounds_ord {next : Nat → List Nat} {S : Nat} {q : Qu} (h : Ok next S q 0 0) (o : Ordd next q 0 0) (hn : ∀ f s, f < S → s ∈ next f → s < S) : ∀ k, Ordd next (rounds next q k) k 0
  | 0 => o
  | k + 1 => by
    have ih := rounds_ok h hn k
    have io := rounds_ord h o hn k
    cases hm : (rounds next q k).met[k]? with
    | some f =>
      have e : rounds next q (k + 1) = seesTo (next f) f (rounds next q k) (next f).length := by rw [rounds, hm]
      rw [e]
      have hnf : ∀ s, s ∈ next f → s < S := fun s hs => hn f s (ih.lt f (List.mem_of_getElem? hm)) hs
      exact next_ord (seesTo_ord ih io hm hnf (next f).length (Nat.le_refl _)) (seesTo_ok ih hm hnf (next f).length (Nat.le_refl _)).2
    | none =>
      have e : rounds next q (k + 1) = rounds next q k := by rw [rounds, hm]
      rw [e]
      have hl : (rounds next q k).met.length ≤ k := List.getElem?_eq_none_iff.1 hm
      refine ⟨fun j f i u hj hp hu hu0 => io.first j f i u hj (.inl (by have := (List.getElem?_eq_some_iff.1 hj).1; omega)) hu hu0, io.ord, fun t ht ht0 => ?_⟩
      obtain ⟨a, e1, e2⟩ := io.last t ht ht0
      exact ⟨a, e1, by omega⟩
theorem walk_ord (next : Nat → List Nat) (S : Nat) (hS : 1 ≤ S) (hn : ∀ f s, f < S → s ∈ next f → s < S) : Ordd next (walk next S) S 0 := rounds_ord (begin_ok next S hS) (begin_ord next S) hn S
theorem nodup_same {l : List Nat} (h : l.Nodup) {x y t : Nat} (hx : l[x]? = some t) (hy : l[y]? = some t) : x = y := by
  obtain ⟨h1, h2⟩ := List.getElem?_eq_some_iff.1 hx
  obtain ⟨h3, h4⟩ := List.getElem?_eq_some_iff.1 hy
  exact (List.getElem_inj h).1 (h2.trans h4.symm)
/-- of one level, who is met earlier has the earlier way -/
theorem path_ord {next : Nat → List Nat} {S : Nat} {q : Qu} (h : Ok next S q S 0) (o : Ordd next q S 0) : ∀ (n x y s t : Nat), x < y → q.met[x]? = some s → q.met[y]? = some t → (q.at_ s).far = n → (q.at_ t).far = n → bef (pathOf q n s) (pathOf q n t) = true
  | 0, x, y, s, t, hxy, hx, hy, hs, ht => by
    have z : ∀ u, u ∈ q.met → (q.at_ u).far = 0 → u = 0 := fun u hu h0 => by
      refine Classical.byContradiction fun hne => ?_
      obtain ⟨p1, p2, _⟩ := h.par u hu hne
      have := h.vis _ p1
      omega
    have e1 := z s (List.mem_of_getElem? hx) hs
    have e2 := z t (List.mem_of_getElem? hy) ht
    rw [e1] at hx
    rw [e2] at hy
    have := nodup_same h.nd hx hy
    omega
  | n + 1, x, y, s, t, hxy, hx, hy, hs, ht => by
    have s0 : s ≠ 0 := fun e => by subst e; rw [h.zero] at hs; omega
    have t0 : t ≠ 0 := fun e => by subst e; rw [h.zero] at ht; omega
    obtain ⟨a, c, e1, e2, e3⟩ := o.ord x y s t hxy hx hy s0 t0
    obtain ⟨p1, p2, _⟩ := h.par s (List.mem_of_getElem? hx) s0
    obtain ⟨r1, r2, _⟩ := h.par t (List.mem_of_getElem? hy) t0
    show bef (pathOf q n (q.at_ s).frm ++ [(q.at_ s).by_]) (pathOf q n (q.at_ t).frm ++ [(q.at_ t).by_]) = true
    rw [bef_snoc _ _ _ _ (by rw [pathOf_len, pathOf_len])]
    rcases e3 with e3 | ⟨rfl, e3⟩
    · rw [path_ord h o n a c _ _ e3 e1 e2 (by omega) (by omega)]
      rfl
    · rw [e1] at e2
      rw [Option.some.inj e2]
      simp [e3]
/-- the way told is the least -/
theorem path_least (next : Nat → List Nat) (S : Nat) (hS : 1 ≤ S) (hn : ∀ f s, f < S → s ∈ next f → s < S) (n s i t : Nat) (hs : s < S) (ht : t < S) (hfs : ((walk next S).at_ s).far = n) (hft : ((walk next S).at_ t).far = (n : Int) + 1) (hi : (next s)[i]? = some t) :
    pathOf (walk next S) (n + 1) t = pathOf (walk next S) n s ++ [i] ∨ bef (pathOf (walk next S) (n + 1) t) (pathOf (walk next S) n s ++ [i]) = true := by
  have h : Ok next S (walk next S) S 0 := rounds_ok (begin_ok next S hS) hn S
  have o := walk_ord next S hS hn
  have hin : ∀ s, s < S → 0 ≤ ((walk next S).at_ s).far → s ∈ (walk next S).met := fun s hs h0 => by
    refine Classical.byContradiction fun hx => ?_
    rw [h.nev s hs hx] at h0
    exact absurd h0 (by decide)
  have t0 : t ≠ 0 := fun e => by subst e; rw [h.zero] at hft; omega
  obtain ⟨j, hj, ej⟩ := List.getElem_of_mem (hin s hs (by omega))
  have hjs : (walk next S).met[j]? = some s := by rw [List.getElem?_eq_getElem hj, ej]
  have hm := h.many
  obtain ⟨a, e1, e2⟩ := o.first j s i t hjs (.inl (by omega)) hi t0
  obtain ⟨p1, p2, _⟩ := h.par t (hin t ht (by omega)) t0
  have e : pathOf (walk next S) (n + 1) t = pathOf (walk next S) n ((walk next S).at_ t).frm ++ [((walk next S).at_ t).by_] := rfl
  rw [e, bef_snoc _ _ _ _ (by rw [pathOf_len, pathOf_len])]
  rcases e2 with e2 | ⟨rfl, e2⟩
  · right
    rw [path_ord h o n a j _ _ e2 e1 hjs (by omega) hfs]
    rfl
  · rw [e1] at hjs
    have e3 := Option.some.inj hjs
    rw [e3]
    by_cases e4 : ((walk next S).at_ t).by_ = i
    · left; rw [e4]
    · right
      have : ((walk next S).at_ t).by_ < i := by omega
      simp [this]
end Rc
end
end Go.Proofs.YtgldbliohpfljaaGreatDoor
