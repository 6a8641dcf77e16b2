/-
  The walk of the document's text of tracks.
-/
import Derived.Test.YtmniiclmimidjaaDoorRjTold
namespace Go.Proofs.YtmniiclmimidjaaDoor
namespace Ro
open Go.RowKit
theorem strV_eq {a : ByteArray} {l : List UInt8} (h : a = ⟨l.toArray⟩) : Value.string a = .string ⟨l.toArray⟩ := by rw [h]
theorem cat2 (l : List UInt8) (d : UInt8) : (⟨l.toArray⟩ : ByteArray) ++ (⟨#[32]⟩ ++ ⟨#[d]⟩) = ⟨(l ++ [32, d]).toArray⟩ := by apply ByteArray.ext; simp
theorem cat3 (l : List UInt8) (d g : UInt8) : (⟨l.toArray⟩ : ByteArray) ++ (⟨#[32]⟩ ++ ⟨#[d]⟩ ++ ⟨#[g]⟩) = ⟨((l ++ [32, d]) ++ [g]).toArray⟩ := by apply ByteArray.ext; simp
set_option maxHeartbeats 16000000 in
set_option maxRecDepth 100000 in
theorem TrackText_any (t : Tbl) (rv : Value) (w : World) (hr : Rrs w rv (t.rts.map refR)) (hs : Short t) :
    Calls Tryd.prog 11 #[.agg #[.int .i64 t.secs, .int .i64 t.pts, rv]] w fun e w' => e = .returned (.string ⟨(headT t.secs t.pts ++ rtsT t.rts).toArray⟩) ∧ Below w.heap.size w w' := by
  obtain ⟨ra, rc, rfl⟩ := hr.slice
  rw [List.length_map]
  obtain ⟨n, hn⟩ : ∃ n, n = t.rts.length := ⟨_, rfl⟩
  have HN := hide hn
  have hn8 : n ≤ 8 := by rw [hn]; exact hs.few
  obtain ⟨wA, hwA⟩ : ∃ wA, wA = w.alloc (.cells #[.int .i64 t.secs, .int .i64 t.pts, .slice ra n rc] 27) := ⟨_, rfl⟩
  have hbA : Below w.heap.size w wA := by rw [hwA]; exact newB _ _
  have rT : RowIs wA w.heap.size 27 [.int .i64 t.secs, .int .i64 t.pts, .slice ra n rc] := by rw [hwA]; exact RowIs.new _ _ _
  have HKT : Hid (∀ W, Below wA.heap.size wA W → W.cell? ⟨w.heap.size, 0, none⟩ = some (.int .i64 t.secs) ∧ W.cell? ⟨w.heap.size, 1, none⟩ = some (.int .i64 t.pts) ∧ W.cell? ⟨w.heap.size, 2, none⟩ = some (.slice ra n rc)) := fun W hW => ⟨kept hW (rT.cell 0 _ rfl), kept hW (rT.cell 1 _ rfl), kept hW (rT.cell 2 _ rfl)⟩
  have HR : Hid (Rrs wA (.slice ra n rc) (t.rts.map refR)) := by
    have h := hr.below hbA
    rw [List.length_map, ← hn] at h
    exact h
  have HS := hide hs
  have HB0 := hide hbA
  have HW := hide hwA
  have HT := hide told_any
  have HAB := hide abs_any
  obtain ⟨s0, s1⟩ := hs.s0
  obtain ⟨p0, p1⟩ := hs.p0
  have HL1 : Hid (∀ k, k ≤ n → (rtsT (t.rts.take k)).length ≤ 200 * k) := fun k hk => by
    have h := rtsT_len (t.rts.take k) fun r hr => ⟨(hs.secs r (List.mem_of_mem_take hr)).1, (hs.pts r (List.mem_of_mem_take hr)).1⟩
    rw [List.length_take] at h
    have : min k t.rts.length = k := by omega
    rw [this] at h
    exact h
  have HHL : Hid ((headT t.secs t.pts).length = 20) := rfl
  obtain ⟨d1, hd1⟩ : ∃ d, d = dig t.secs := ⟨_, rfl⟩
  obtain ⟨d2, hd2⟩ : ∃ d, d = dig t.pts := ⟨_, rfl⟩
  obtain ⟨H, hH⟩ : ∃ H, H = headT t.secs t.pts := ⟨_, rfl⟩
  have HHD : Hid (H = [115, 101, 99, 116, 105, 111, 110, 115, 32] ++ [d1] ++ [10] ++ ([112, 111, 105, 110, 116, 115, 32] ++ [d2] ++ [10])) := by show _ = _; rw [hH, hd1, hd2]; rfl
  have HHH := hide hH
  have hHL : H.length = 20 := by rw [hH]; exact HHL.out
  have HD1 := hide hd1
  have HD2 := hide hd2
  rw [← hn]
  have hwl : w.heap.size < wA.heap.size := rT.lt
  clear hwA hbA rT hr hs hn hH hd1 hd2
  go_enter Tryd.func11, Tryd.ntmps11
  go_upto_region 1 with fail
  rw [← HW.out]
  obtain ⟨x0, x1, x2⟩ := HKT.out wA (Below.refl _ _)
  go_cut [3] from 11 to 22 (fun v wx => v = .string ⟨H.toArray⟩ ∧ Hid (Below wA.heap.size wA wx))
  case first =>
    have HD : Hid (Below wA.heap.size wA wA.drew) := drewB wA
    have e1 : (wA.alloc (.cells #[.int .i64 t.secs] 3)).heap.size = wA.heap.size + 1 := by simp
    have e2 : (wA.alloc (.cells #[.int .i64 t.pts] 3)).heap.size = wA.heap.size + 1 := by simp
    have ra1 : RowIs (wA.alloc (.cells #[.int .i64 t.secs] 3)) wA.heap.size 3 [.int .i64 t.secs] := RowIs.new _ _ _
    have rb1 : RowIs (wA.alloc (.cells #[.int .i64 t.pts] 3)) wA.heap.size 3 [.int .i64 t.pts] := RowIs.new _ _ _
    have rb2 : RowIs ((wA.alloc (.cells #[.int .i64 t.secs] 3)).alloc (.cells #[.int .i64 t.pts] 3)) (wA.heap.size + 1) 3 [.int .i64 t.pts] := by rw [← e1]; exact RowIs.new _ _ _
    have ra2 : RowIs ((wA.alloc (.cells #[.int .i64 t.pts] 3)).alloc (.cells #[.int .i64 t.secs] 3)) (wA.heap.size + 1) 3 [.int .i64 t.secs] := by rw [← e2]; exact RowIs.new _ _ _
    have HB1a : Hid (Below wA.heap.size wA (wA.alloc (.cells #[.int .i64 t.secs] 3)).drew) := drew_below (newB _ _)
    have HB2a : Hid (Below wA.heap.size wA ((wA.alloc (.cells #[.int .i64 t.secs] 3)).alloc (.cells #[.int .i64 t.pts] 3)).drew) := drew_below (then_ (newB _ _) (newB _ _))
    have HB3a : Hid (Below wA.heap.size wA ((wA.alloc (.cells #[.int .i64 t.pts] 3)).alloc (.cells #[.int .i64 t.secs] 3)).drew) := drew_below (then_ (newB _ _) (newB _ _))
    have HT1 := hide (HT.out wA.heap.size t.secs (wA.alloc (.cells #[.int .i64 t.secs] 3)).drew (ra1.cell 0 _ rfl) s0 s1)
    have HT2 := hide (HT.out wA.heap.size t.secs ((wA.alloc (.cells #[.int .i64 t.secs] 3)).alloc (.cells #[.int .i64 t.pts] 3)).drew ((ra1.alloc _).cell 0 _ rfl) s0 s1)
    have HT3 := hide (HT.out (wA.heap.size + 1) t.secs ((wA.alloc (.cells #[.int .i64 t.pts] 3)).alloc (.cells #[.int .i64 t.secs] 3)).drew (ra2.cell 0 _ rfl) s0 s1)
    have HN1 : Hid (∀ W : World, Calls Tryd.prog 27 #[.slice (some ⟨W.heap.size, 0, none⟩) 1 1] (W.alloc (.cells #[.int .i64 t.pts] 3)) fun e w' => e = .returned (.string ⟨#[dig t.pts]⟩) ∧ Below (W.alloc (.cells #[.int .i64 t.pts] 3)).heap.size (W.alloc (.cells #[.int .i64 t.pts] 3)) w') := fun W => HT.out W.heap.size t.pts _ ((RowIs.new W 3 [.int .i64 t.pts]).cell 0 _ rfl) p0 p1
    have HN2 : Hid (∀ W : World, Below ((wA.alloc (.cells #[.int .i64 t.secs] 3)).alloc (.cells #[.int .i64 t.pts] 3)).drew.heap.size ((wA.alloc (.cells #[.int .i64 t.secs] 3)).alloc (.cells #[.int .i64 t.pts] 3)).drew W → Calls Tryd.prog 27 #[.slice (some ⟨wA.heap.size + 1, 0, none⟩) 1 1] W fun e w' => e = .returned (.string ⟨#[dig t.pts]⟩) ∧ Below W.heap.size W w') := fun W hW => HT.out (wA.heap.size + 1) t.pts W (kept hW (rb2.cell 0 _ rfl)) p0 p1
    have HN3 : Hid (∀ W : World, Below ((wA.alloc (.cells #[.int .i64 t.pts] 3)).alloc (.cells #[.int .i64 t.secs] 3)).drew.heap.size ((wA.alloc (.cells #[.int .i64 t.pts] 3)).alloc (.cells #[.int .i64 t.secs] 3)).drew W → Calls Tryd.prog 27 #[.slice (some ⟨wA.heap.size, 0, none⟩) 1 1] W fun e w' => e = .returned (.string ⟨#[dig t.pts]⟩) ∧ Below W.heap.size W w') := fun W hW => HT.out wA.heap.size t.pts W (kept hW ((rb1.alloc _).cell 0 _ rfl)) p0 p1
    rw [← HD1.out] at HT1 HT2 HT3
    rw [← HD2.out] at HN1 HN2 HN3
    clear e1 e2 ra1 rb1 ra2 rb2
    have HF : Hid ((⟨#[115, 101, 99, 116, 105, 111, 110, 115, 32]⟩ : ByteArray) ++ ⟨#[d1]⟩ ++ ⟨#[10, 112, 111, 105, 110, 116, 115, 32]⟩ ++ ⟨#[d2]⟩ ++ ⟨#[10]⟩ = ⟨H.toArray⟩) := by
      show _ = _
      rw [HHD.out]
      apply ByteArray.ext
      simp
    go_region_held3 (fun W => W.cell? ⟨w.heap.size, 0, none⟩ = some (.int .i64 t.secs) ∧ W.cell? ⟨w.heap.size, 1, none⟩ = some (.int .i64 t.pts)) ((refine ⟨(HKT.out _ ?_).1, (HKT.out _ ?_).2.1⟩ <;> repeat (first | exact HB3.out | exact HB2.out | exact HD.out | exact Below.refl _ _ | refine drew_below ?_ | refine then_ ?_ (newB _ _)))) ((first
      | (go_at_call 27; (with_reducible refine HT1.out.mono ?_); rintro e w2 ⟨rfl, hx2⟩; have HB2 : Hid (Below wA.heap.size wA w2) := then_ HB1a.out hx2; have HNX := hide (HN1.out w2); clear hx2)
      | (go_at_call 27; (with_reducible refine HT2.out.mono ?_); rintro e w2 ⟨rfl, hx2⟩; have HB2 : Hid (Below wA.heap.size wA w2) := then_ HB2a.out hx2; have HNX := hide (HN2.out w2 hx2); clear hx2)
      | (go_at_call 27; (with_reducible refine HT3.out.mono ?_); rintro e w2 ⟨rfl, hx2⟩; have HB2 : Hid (Below wA.heap.size wA w2) := then_ HB3a.out hx2; have HNX := hide (HN3.out w2 hx2); clear hx2)
      | (go_at_call 27; (with_reducible refine HNX.out.mono ?_); rintro e w3 ⟨rfl, hx3⟩; have HB3 : Hid (Below wA.heap.size wA w3) := (by first | exact then_ HB2.out hx3 | exact then_ (then_ HB2.out (newB _ _)) hx3); clear hx3)))
    all_goals
      go_wp2_with fail
      go_meet
      exact ⟨by rw [HF.out], HB3.out⟩
  case rest =>
    obtain ⟨rfl, HBC⟩ := hcut
    obtain ⟨x0, x1, x2⟩ := HKT.out wc HBC.out
    go_wp2_with fail
    go_loopw [26, 3] (fun iv sv wr => ∃ (k : Nat) (l : List UInt8), k ≤ n ∧ iv = .int .i64 (k : Int) ∧ sv = .string ⟨l.toArray⟩ ∧ l.length ≤ 20 + 200 * k ∧ Hid (l = H ++ rtsT (t.rts.take k)) ∧ Hid (Below wA.heap.size wA wr)) (fun iv _ _ => n - (intOf iv).toNat)
    case atStart => exact ⟨0, H, Nat.zero_le _, rfl, rfl, by omega, by simp [Hid, rtsT], HBC.out⟩
    case round =>
      obtain ⟨k, l, hk, rfl, rfl, hll, HLD, HBR⟩ := hrel
      obtain ⟨x0, x1, x2⟩ := HKT.out wr HBR.out
      by_cases hlt : k < n
      · have hkl : k < t.rts.length := by rw [← HN.out]; exact hlt
        have hkr : (t.rts.map refR)[k]? = some (refR t.rts[k]) := by rw [List.getElem?_map, List.getElem?_eq_getElem hkl]; rfl
        obtain ⟨g, o, sa, sc, pa, pc, rfl, c0, c1, hIs, hPs⟩ := (HR.out.below HBR.out).cell k _ hkr
        have hki : (k : Int) < (n : Int) := by omega
        have HTK : Hid (rtsT (t.rts.take (k + 1)) = rtsT (t.rts.take k) ++ rtT t.rts[k]) := by show _ = _; rw [List.take_succ_eq_append_getElem hkl, rtsT_snoc]
        obtain ⟨hq1, hq2⟩ := HS.out.secs _ (List.getElem_mem hkl)
        obtain ⟨hq3, hq4⟩ := HS.out.pts _ (List.getElem_mem hkl)
        obtain ⟨wL, hwL⟩ : ∃ wL, wL = wr.alloc (.cells #[.slice sa (refR t.rts[k]).secs.length sc, .slice pa (refR t.rts[k]).pts.length pc] 45) := ⟨_, rfl⟩
        have hbL : Below wr.heap.size wr wL := by rw [hwL]; exact newB _ _
        have rL : RowIs wL wr.heap.size 45 [.slice sa (refR t.rts[k]).secs.length sc, .slice pa (refR t.rts[k]).pts.length pc] := by rw [hwL]; exact RowIs.new _ _ _
        have HKR : Hid (∀ W, Below wL.heap.size wL W → W.cell? ⟨wr.heap.size, 0, none⟩ = some (.slice sa (refR t.rts[k]).secs.length sc) ∧ W.cell? ⟨wr.heap.size, 1, none⟩ = some (.slice pa (refR t.rts[k]).pts.length pc)) := fun W hW => ⟨kept hW (rL.cell 0 _ rfl), kept hW (rL.cell 1 _ rfl)⟩
        have HIS := hide (hIs.below hbL)
        have HPS := hide (hPs.below hbL)
        have HBL : Hid (Below wA.heap.size wA wL) := then_ HBR.out hbL
        have HWL := hide hwL
        have HRTD : Hid (rtT t.rts[k] = [114, 111, 117, 116, 101] ++ secT t.rts[k].secs ++ [32, 58] ++ ptT t.rts[k].pts ++ [10]) := rfl
        have hrl := rtT_len t.rts[k] hq1 hq3
        clear hIs hPs hbL rL hwL hkr
        generalize rtT t.rts[k] = rtx at *
        generalize t.rts[k] = r at *
        obtain ⟨secs, pts⟩ := r
        unfold refR at *
        simp only at c0 c1 hq1 hq2 hq3 hq4 HKR HWL HRTD HIS HPS
        obtain ⟨n1, hn1⟩ : ∃ n1, n1 = secs.length := ⟨_, rfl⟩
        obtain ⟨n2, hn2⟩ : ∃ n2, n2 = pts.length := ⟨_, rfl⟩
        have HN1 := hide hn1
        have HN2 := hide hn2
        have HQ2 := hide hq2
        have HQ4 := hide hq4
        rw [List.length_map] at c1 HKR HWL HPS
        rw [← hn1] at c0 HKR HWL HIS hq1
        rw [← hn2] at c1 HKR HWL HPS hq3
        clear hn1 hn2 hq2 hq4
        go_upto_region 5 with fail
        rw [← HWL.out]
        obtain ⟨wO, rfl⟩ : ∃ wO, wO = wr := ⟨_, rfl⟩
        clear c0 c1 x0 x1 x2 HWL
        obtain ⟨u0, u1⟩ := HKR.out wL (Below.refl _ _)
        go_wp2_with fail
        go_loopw [35, 3] (fun iv sv wx => ∃ (j : Nat) (l2 : List UInt8), j ≤ n1 ∧ iv = .int .i64 (j : Int) ∧ sv = .string ⟨l2.toArray⟩ ∧ l2.length ≤ 2000 + 2 * j ∧ Hid (l2 = (l ++ [114, 111, 117, 116, 101]) ++ secT (secs.take j)) ∧ Hid (Below wL.heap.size wL wx)) (fun iv _ _ => n1 - (intOf iv).toNat)
        case atStart => exact ⟨0, l ++ [114, 111, 117, 116, 101], Nat.zero_le _, rfl, strV_eq (bcat l _), by rw [List.length_append]; simp; omega, by simp [Hid, secT], Below.refl _ _⟩
        case round =>
          obtain ⟨j, l2, hj, rfl, rfl, hl2, HL2, HBJ⟩ := hrel
          obtain ⟨u0, u1⟩ := HKR.out wr HBJ.out
          by_cases hjl : j < n1
          · have hjp : j < secs.length := by rw [← HN1.out]; exact hjl
            obtain ⟨g1, o1, rfl, d1', _⟩ := (HIS.out.below HBJ.out).cell j _ (List.getElem?_eq_getElem hjp)
            have hji : (j : Int) < (n1 : Int) := by omega
            obtain ⟨hx0, hx4⟩ := HQ2.out _ (List.getElem_mem hjp)
            have HTJ : Hid (secT (secs.take (j + 1)) = secT (secs.take j) ++ [32, dig secs[j]]) := by show _ = _; rw [List.take_succ_eq_append_getElem hjp, secT_snoc]
            have HTX : Hid (Calls Tryd.prog 27 #[.slice (some ⟨wr.heap.size, 0, none⟩) 1 1] (wr.alloc (.cells #[.int .i64 secs[j]] 3)) fun e w' => e = .returned (.string ⟨#[dig secs[j]]⟩) ∧ Below (wr.alloc (.cells #[.int .i64 secs[j]] 3)).heap.size (wr.alloc (.cells #[.int .i64 secs[j]] 3)) w') := HT.out wr.heap.size secs[j] _ ((RowIs.new wr 3 [.int .i64 secs[j]]).cell 0 _ rfl) hx0 hx4
            clear hx0 hx4
            generalize dig secs[j] = d at *
            generalize secs[j] = x at *
            go_wp2_with fail
            refine HTX.out.mono ?_
            rintro e w6 ⟨rfl, hb6⟩
            have HB6 := hide (then_ HBJ.out (then_ (newB _ _) hb6))
            clear hb6 HTX
            go_wp2_with fail
            go_roundw
            case rel => exact ⟨j + 1, l2 ++ [32, d], by omega, by go_num, strV_eq (cat2 l2 d), by rw [List.length_append]; simp; omega, by rw [HTJ.out, HL2.out]; simp [Hid], HB6.out⟩
            case measure => simp [intOf]; omega
          · have hjn : j = n1 := by omega
            have HL2E : Hid (l2 = (l ++ [114, 111, 117, 116, 101]) ++ secT secs) := by
              have h := HL2.out
              rw [List.take_of_length_le (by rw [← HN1.out]; omega)] at h
              exact h
            obtain rfl := hjn.symm
            obtain ⟨wP, rfl⟩ : ∃ wP, wP = wr := ⟨_, rfl⟩
            go_wp2_with fail
            go_loopw [51, 3] (fun iv sv wx => ∃ (j : Nat) (l3 : List UInt8), j ≤ n2 ∧ iv = .int .i64 (j : Int) ∧ sv = .string ⟨l3.toArray⟩ ∧ l3.length ≤ 2100 + 3 * j ∧ Hid (l3 = (l2 ++ [32, 58]) ++ ptT (pts.take j)) ∧ Hid (Below wL.heap.size wL wx)) (fun iv _ _ => n2 - (intOf iv).toNat)
            case atStart => exact ⟨0, l2 ++ [32, 58], Nat.zero_le _, rfl, strV_eq (bcat l2 _), by rw [List.length_append]; simp; omega, by simp [Hid, ptT], HBJ.out⟩
            case round =>
              obtain ⟨j, l3, hj, rfl, rfl, hl3, HL3, HBJ⟩ := hrel
              obtain ⟨u0, u1⟩ := HKR.out wr HBJ.out
              by_cases hjl : j < n2
              · have hjp : j < pts.length := by rw [← HN2.out]; exact hjl
                have hjc : (pts.map code)[j]? = some (code pts[j]) := by rw [List.getElem?_map, List.getElem?_eq_getElem hjp]; rfl
                obtain ⟨g1, o1, rfl, d1', _⟩ := (HPS.out.below HBJ.out).cell j _ hjc
                have hji : (j : Int) < (n2 : Int) := by omega
                obtain ⟨hx0, hx4⟩ := HQ4.out _ (List.getElem_mem hjp)
                have HTJ : Hid (ptT (pts.take (j + 1)) = (ptT (pts.take j) ++ [32, dig pts[j].1]) ++ [sgn pts[j].2]) := by show _ = _; rw [List.take_succ_eq_append_getElem hjp, ptT_snoc]
                have HTP : Hid (∀ W : World, Calls Tryd.prog 27 #[.slice (some ⟨W.heap.size, 0, none⟩) 1 1] (W.alloc (.cells #[.int .i64 pts[j].1] 3)) fun e w' => e = .returned (.string ⟨#[dig pts[j].1]⟩) ∧ Below (W.alloc (.cells #[.int .i64 pts[j].1] 3)).heap.size (W.alloc (.cells #[.int .i64 pts[j].1] 3)) w') := fun W => HT.out W.heap.size pts[j].1 _ ((RowIs.new W 3 [.int .i64 pts[j].1]).cell 0 _ rfl) hx0 hx4
                clear hjc
                generalize pts[j] = pp at *
                obtain ⟨x, ov⟩ := pp
                simp only at hx0 hx4 HTJ HTP
                generalize dig x = d at *
                cases ov with
                | true =>
                  have hcd : code (x, true) = x + 1 := by
                    have hc : cutN x = x := by unfold cutN; rw [if_neg (by omega)]
                    show (if (true : Bool) = true then cutN x + 1 else -(cutN x + 1)) = _
                    rw [hc]; rfl
                  rw [hcd] at d1'
                  have habs : absI (x + 1) = x + 1 := by unfold absI; omega
                  have HAX := hide (HAB.out (x + 1) (by omega) (by omega) wr)
                  rw [habs] at HAX
                  have hneg : ¬ x + 1 < 0 := by omega
                  clear hcd habs
                  go_wp2_with fail
                  refine HAX.out.mono ?_
                  rintro e w7 ⟨rfl, hw7⟩
                  obtain rfl := hw7.symm
                  have HTX := hide (HTP.out wr)
                  go_wp2_with fail
                  refine HTX.out.mono ?_
                  rintro e w8 ⟨rfl, hb8⟩
                  have HB8 := hide (then_ HBJ.out (then_ (newB _ _) hb8))
                  clear hb8 HTX HAX
                  go_wp2_with fail
                  go_roundw
                  case rel => exact ⟨j + 1, (l3 ++ [32, d]) ++ [43], by omega, by go_num, strV_eq (cat3 l3 d 43), by rw [List.length_append, List.length_append]; simp; omega, by rw [HTJ.out, HL3.out]; simp [sgn, Hid], HB8.out⟩
                  case measure => simp [intOf]; omega
                | false =>
                  have hcd : code (x, false) = -(x + 1) := by
                    have hc : cutN x = x := by unfold cutN; rw [if_neg (by omega)]
                    show (if (false : Bool) = true then cutN x + 1 else -(cutN x + 1)) = _
                    rw [hc]; rfl
                  rw [hcd] at d1'
                  have habs : absI (-(x + 1)) = x + 1 := by unfold absI; omega
                  have HAX := hide (HAB.out (-(x + 1)) (by omega) (by omega) wr)
                  rw [habs] at HAX
                  have hneg : -(x + 1) < 0 := by omega
                  clear hcd habs
                  go_wp2_with fail
                  refine HAX.out.mono ?_
                  rintro e w7 ⟨rfl, hw7⟩
                  obtain rfl := hw7.symm
                  have HTX := hide (HTP.out wr)
                  go_wp2_with fail
                  refine HTX.out.mono ?_
                  rintro e w8 ⟨rfl, hb8⟩
                  have HB8 := hide (then_ HBJ.out (then_ (newB _ _) hb8))
                  clear hb8 HTX HAX
                  go_wp2_with fail
                  go_roundw
                  case rel => exact ⟨j + 1, (l3 ++ [32, d]) ++ [45], by omega, by go_num, strV_eq (cat3 l3 d 45), by rw [List.length_append, List.length_append]; simp; omega, by rw [HTJ.out, HL3.out]; simp [sgn, Hid], HB8.out⟩
                  case measure => simp [intOf]; omega
              · have hjn : j = n2 := by omega
                have HFE : Hid (l3 ++ [10] = H ++ rtsT (t.rts.take (k + 1))) := by
                  have h := HL3.out
                  rw [List.take_of_length_le (by rw [← HN2.out]; omega)] at h
                  show _ = _
                  rw [HTK.out, HRTD.out, h, HL2E.out, HLD.out]
                  simp
                have HFL : Hid ((l3 ++ [10]).length ≤ 20 + 200 * (k + 1)) := by
                  show _ ≤ _
                  have h := congrArg List.length HLD.out
                  rw [List.length_append] at h
                  rw [HFE.out, HTK.out, List.length_append, List.length_append]
                  omega
                have HBX := hide (then_ HBL.out HBJ.out)
                obtain rfl := hjn.symm
                go_wp2_with fail
                go_roundw
                case rel => exact ⟨k + 1, l3 ++ [10], by omega, by go_num, strV_eq (bcat l3 _), HFL.out, HFE.out, HBX.out⟩
                case measure => simp [intOf]; omega
      · have hkn : k = n := by omega
        have HLF : Hid (l = headT t.secs t.pts ++ rtsT t.rts) := by
          have h := HLD.out
          rw [List.take_of_length_le (by rw [← HN.out]; omega), HHH.out] at h
          exact h
        have HBX := hide (then_ HB0.out HBR.out)
        obtain rfl := hkn.symm
        go_wp2_with fail
        go_ret
        exact ⟨by rw [← HLF.out]; rfl, HBX.out⟩
end Ro
end Go.Proofs.YtmniiclmimidjaaDoor
