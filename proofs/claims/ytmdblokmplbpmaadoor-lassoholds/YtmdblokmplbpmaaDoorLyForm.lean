/-
  The walk of the statements' own formula: the document's formula of plain steps, how many parts it has, and whether they stand too deep.
-/
import Derived.Test.YtmdblokmplbpmaaDoorLyRows
import Derived.Deep.Cut
import Derived.Deep.CutRange
import Derived.BigRegion
namespace Go.Proofs.YtmdblokmplbpmaaDoor
namespace Ls
open Go.RowKit
theorem Tryd.infoPR : (Tryd.prog.info? 26).map (fun i => (i.zero, i.size, i.bytes)) = some (some (.pointer none), 1, 8) := by kernel_rfl
theorem isF_av {W W' : World} {v1 v2 v3 v : Value} {x : Fm} (hb : Below W.heap.size W W') (h : IsF (Av W v1 v2 v3) W x v) : IsF (Av W' v1 v2 v3) W' x v := IsF.stay (fun _ _ _ _ hc => kept hb hc) (fun _ h => ⟨Nat.lt_of_lt_of_le h.1 hb.size, h.2⟩) _ _ h
/-- what stands between two rounds -/
structure FS (w wr : World) (l : List St) (j m : Nat) (us : List Value) (a1 a2 a3 : Nat) (c1 c2 c3 : Nat) : Prop where
  T : T3 w.heap.size wr 26 3 3 (.slice (some ⟨a1, 0, none⟩) m c1) (.slice (some ⟨a2, 0, none⟩) m c2) (.slice (some ⟨a3, 0, none⟩) m c3) us (szs (formsTo l j)) (dps (formsTo l j))
  F : FF wr (Av wr (.slice (some ⟨a1, 0, none⟩) m c1) (.slice (some ⟨a2, 0, none⟩) m c2) (.slice (some ⟨a3, 0, none⟩) m c3)) us (formsTo l j)
  B : Below w.heap.size w wr
  hm : m = j + 1
  hl : (formsTo l j).length = m
/-- what a round has made of a step, ahead of the appends -/
def Made1 (wr wx : World) (a1 a2 a3 m c1 c2 c3 : Nat) (x : Fm) (nv dv : Value) : Prop :=
  ∃ nn : Nat, nv = .int .i64 (nn : Int) ∧ nn ≤ 3000000 ∧ min nn 1000000 = cap (size x) ∧ dv = .int .i64 (depth x : Int) ∧ Below wr.heap.size wr wx ∧ IsF (Av wx (.slice (some ⟨a1, 0, none⟩) m c1) (.slice (some ⟨a2, 0, none⟩) m c2) (.slice (some ⟨a3, 0, none⟩) m c3)) wx x (.pointer (some ⟨wr.heap.size + 1, 0, none⟩))
theorem FS.start (w : World) (l : List St) : FS w ((((w.alloc (.cells #[.int .i64 2, .string ⟨#[]⟩, .slice none 0 0] 53)).alloc (.cells #[.pointer (some ⟨w.heap.size, 0, none⟩)] 26)).alloc (.cells #[.int .i64 1] 3)).alloc (.cells #[.int .i64 1] 3)) l 0 1 [.pointer (some ⟨w.heap.size, 0, none⟩)] (w.heap.size + 1) (w.heap.size + 2) (w.heap.size + 3) 1 1 1 := by
  obtain ⟨w1, hw1⟩ : ∃ w1, w1 = w.alloc (.cells #[.int .i64 2, .string ⟨#[]⟩, .slice none 0 0] 53) := ⟨_, rfl⟩
  have r1 : RowIs w1 w.heap.size 53 [.int .i64 2, .string ⟨#[]⟩, .slice none 0 0] := by rw [hw1]; exact RowIs.new _ _ _
  have s1 : w1.heap.size = w.heap.size + 1 := by rw [hw1]; simp
  have b1 : Below w.heap.size w w1 := by rw [hw1]; exact newB _ _
  rw [← hw1]
  obtain ⟨w2, hw2⟩ : ∃ w2, w2 = w1.alloc (.cells #[.pointer (some ⟨w.heap.size, 0, none⟩)] 26) := ⟨_, rfl⟩
  have o1 : w2.ownsRow w.heap.size 26 1 (.slice (some ⟨w.heap.size + 1, 0, none⟩) 1 1) 1 [.pointer (some ⟨w.heap.size, 0, none⟩)] := by rw [hw2, ← s1]; exact own_one w1 _ _ _ (by omega)
  have s2 : w2.heap.size = w.heap.size + 2 := by rw [hw2]; simp [s1]
  have b2 : Below w1.heap.size w1 w2 := by rw [hw2]; exact newB _ _
  rw [← hw2]
  obtain ⟨w3, hw3⟩ : ∃ w3, w3 = w2.alloc (.cells #[.int .i64 1] 3) := ⟨_, rfl⟩
  have o2 : w3.ownsRow w.heap.size 3 1 (.slice (some ⟨w.heap.size + 2, 0, none⟩) 1 1) 1 [.int .i64 1] := by rw [hw3, ← s2]; exact own_one w2 _ _ _ (by omega)
  have s3 : w3.heap.size = w.heap.size + 3 := by rw [hw3]; simp [s2]
  have b3 : Below w2.heap.size w2 w3 := by rw [hw3]; exact newB _ _
  rw [← hw3]
  obtain ⟨w4, hw4⟩ : ∃ w4, w4 = w3.alloc (.cells #[.int .i64 1] 3) := ⟨_, rfl⟩
  have o3 : w4.ownsRow w.heap.size 3 1 (.slice (some ⟨w.heap.size + 3, 0, none⟩) 1 1) 1 [.int .i64 1] := by rw [hw4, ← s3]; exact own_one w3 _ _ _ (by omega)
  have s4 : w4.heap.size = w.heap.size + 4 := by rw [hw4]; simp [s3]
  have b4 : Below w3.heap.size w3 w4 := by rw [hw4]; exact newB _ _
  rw [← hw4]
  have e1 : szs (formsTo l 0) = [.int .i64 1] := by rw [formsTo]; simp [szs, size_tru, cap]
  have e2 : dps (formsTo l 0) = [.int .i64 1] := by rw [formsTo]; simp [dps, depth_tru]
  refine ⟨⟨own_below (own_below o1 b3) b4, ?_, ?_, ?_, ?_, ?_⟩, ⟨rfl, fun i u x hu hx => ?_⟩, then_ (then_ (then_ b1 b2) b3) b4, rfl, rfl⟩
  · rw [e1]; exact own_below o2 b4
  · rw [e2]; exact o3
  · intro g h1 h2
    have h1 : w.heap.size + 1 = g := by simpa [Value.ownBlock] using h1
    have h2 : w.heap.size + 2 = g := by simpa [Value.ownBlock] using h2
    omega
  · intro g h1 h2
    have h1 : w.heap.size + 1 = g := by simpa [Value.ownBlock] using h1
    have h2 : w.heap.size + 3 = g := by simpa [Value.ownBlock] using h2
    omega
  · intro g h1 h2
    have h1 : w.heap.size + 2 = g := by simpa [Value.ownBlock] using h1
    have h2 : w.heap.size + 3 = g := by simpa [Value.ownBlock] using h2
    omega
  · match i, hu, hx with
    | 0, hu, hx =>
      cases hu
      have hx : x = tru := by simpa [formsTo] using hx.symm
      subst hx
      have r4 := ((r1.below b2).below b3).below b4
      refine isF_node.2 ⟨by unfold I64; omega, by simp, by simp, w.heap.size, none, 0, ⟨by omega, ?_, ?_, ?_⟩, rfl, r4.cell 0 _ rfl, r4.cell 1 _ rfl, r4.cell 2 _ rfl, fun i x hx => by simp at hx⟩
      all_goals
        intro e
        simp only [Value.ownBlock, Option.some.injEq] at e
        omega
    | i + 1, hu, _ => simp at hu
theorem FS.lts {w wr : World} {l : List St} {j m : Nat} {us : List Value} {a1 a2 a3 c1 c2 c3 : Nat} (h : FS w wr l j m us a1 a2 a3 c1 c2 c3) : a1 < wr.heap.size ∧ a2 < wr.heap.size ∧ a3 < wr.heap.size := ⟨own_lt h.T.o1 rfl, own_lt h.T.o2 rfl, own_lt h.T.o3 rfl⟩
theorem FS.at {w wr : World} {l : List St} {j m : Nat} {us : List Value} {a1 a2 a3 c1 c2 c3 : Nat} (h : FS w wr l j m us a1 a2 a3 c1 c2 c3) (i : Nat) (hi : i < m) : ∃ p, wr.cell? ⟨a1, i, none⟩ = some (.pointer p) ∧ IsF (Av wr (.slice (some ⟨a1, 0, none⟩) m c1) (.slice (some ⟨a2, 0, none⟩) m c2) (.slice (some ⟨a3, 0, none⟩) m c3)) wr ((formsTo l j).getD i tru) (.pointer p) ∧ wr.cell? ⟨a2, i, none⟩ = some (.int .i64 (cap (size ((formsTo l j).getD i tru)) : Int)) ∧ wr.cell? ⟨a3, i, none⟩ = some (.int .i64 (depth ((formsTo l j).getD i tru) : Int)) := by
  have hl := h.hl
  have hul := h.F.1
  obtain ⟨g1, k1, e1, _, _, q1⟩ := own_at h.T.o1 (by omega)
  obtain ⟨g2, k2, e2, _, _, q2⟩ := own_at h.T.o2 (by rw [szs_len]; omega)
  obtain ⟨g3, k3, e3, _, _, q3⟩ := own_at h.T.o3 (by rw [dps_len]; omega)
  simp only [Value.slice.injEq, Option.some.injEq, Addr.mk.injEq, and_true] at e1 e2 e3
  have f1 := e1.1
  have f2 := e2.1
  have f3 := e3.1
  subst f1 f2 f3
  obtain ⟨u, hu⟩ : ∃ u, us[i]? = some u := ⟨_, List.getElem?_eq_getElem (by omega)⟩
  have hx : (formsTo l j)[i]? = some ((formsTo l j).getD i tru) := by rw [List.getD_eq_getElem?_getD, List.getElem?_eq_getElem (by omega)]; rfl
  have hf := h.F.2 i u _ hu hx
  obtain ⟨p, rfl⟩ := hf.ptr
  exact ⟨p, q1 i _ hu, hf, q2 i _ (szs_at (by omega)), q3 i _ (dps_at (by omega))⟩
set_option maxHeartbeats 8000000 in
set_option maxRecDepth 100000 in
theorem formula_any (l : List St) (sv : Value) (w : World) (hs : Steps w sv l) :
    Calls Tryd.prog 5 #[sv] w fun e w' => Below w.heap.size w w' ∧ ((40 < l.length ∧ e = .returned (.tuple #[.pointer none, .int .i64 0, .bool false])) ∨ (l.length ≤ 40 ∧ ∃ p, e = .returned (.tuple #[.pointer p, .int .i64 (cap (size (formula l)) : Int), .bool (decide (depth (formula l) ≤ 20))]) ∧ IsF (fun _ => True) w' (formula l) (.pointer p))) := by
  obtain ⟨i1, hi1, hz10, hz11, hz12⟩ := info_parts Tryd.infoPR
  obtain ⟨i2, hi2, hz20, hz21, hz22⟩ := info_parts Tryd.infoInt
  have HS := hide hs
  have hml : l.length ≤ maxLen := by obtain ⟨_, _, _, h, _⟩ := hs; exact h
  obtain ⟨sa, sc, rfl⟩ := hs.slice
  obtain ⟨n, hn⟩ : ∃ n, n = l.length := ⟨_, rfl⟩
  have HN := hide hn
  rw [← hn] at hml HS ⊢
  unfold maxLen at hml
  clear hs hn
  by_cases h40 : 40 < n
  · have h40i : (40 : Int) < (n : Int) := by omega
    go_enter Tryd.func5, Tryd.ntmps5
    go_wp2_with fail
    refine bodyPost_ret (v := .tuple #[.pointer none, .int .i64 0, .bool false]) (by simp [results, Tryd.results5, go_sem]) rfl ⟨Below.refl _ _, .inl ⟨h40, rfl⟩⟩
  have h40i : ¬ (40 : Int) < (n : Int) := by omega
  have HST := hide (FS.start w l)
  obtain ⟨wA, hwA⟩ : ∃ wA, wA = ((((w.alloc (.cells #[.int .i64 2, .string ⟨#[]⟩, .slice none 0 0] 53)).alloc (.cells #[.pointer (some ⟨w.heap.size, 0, none⟩)] 26)).alloc (.cells #[.int .i64 1] 3)).alloc (.cells #[.int .i64 1] 3)) := ⟨_, rfl⟩
  rw [← hwA] at HST
  have HWA := hide hwA
  clear hwA
  go_enter Tryd.func5, Tryd.ntmps5
  go_wp2_with fail
  rw [← HWA.out]
  clear HWA
  go_loopw [8, 5, 6, 7] (fun iv r1 r2 r3 wr => ∃ (j m : Nat) (us : List Value) (a1 a2 a3 c1 c2 c3 : Nat), j ≤ n ∧ iv = .int .i64 (j : Int) ∧ r1 = .slice (some ⟨a1, 0, none⟩) m c1 ∧ r2 = .slice (some ⟨a2, 0, none⟩) m c2 ∧ r3 = .slice (some ⟨a3, 0, none⟩) m c3 ∧ Hid (FS w wr l j m us a1 a2 a3 c1 c2 c3)) (fun iv _ _ _ _ => n - (intOf iv).toNat)
  case atStart => exact ⟨0, 1, _, _, _, _, _, _, _, Nat.zero_le _, rfl, rfl, rfl, rfl, HST.out⟩
  case round =>
    obtain ⟨j, m, us, a1, a2, a3, c1, c2, c3, hj, rfl, rfl, rfl, rfl, HF⟩ := hrel
    have HM : Hid (m = j + 1) := HF.out.hm
    have HBW : Hid (Below w.heap.size w wr) := HF.out.B
    have hm0 : 0 < m := by rw [HM.out]; omega
    have hm1 : m ≤ 41 := by rw [HM.out]; omega
    by_cases hlt : j < n
    · have hjl : j < l.length := by rw [← HN.out]; exact hlt
      have hji : (j : Int) < (n : Int) := by omega
      obtain ⟨g, o, rfl, k0, k1, k2, k3, hk64, hnm⟩ := (HS.out.below HBW.out).cell j _ (List.getElem?_eq_getElem hjl)
      have HSU := hide (formsTo_succ l j hjl)
      generalize l[j] = s at *
      obtain ⟨sk, sA, sB, snm⟩ := s
      simp only at k0 k1 k2 k3 hk64 hnm
      have HK64 := hide hk64
      have HNM := hide hnm
      clear hjl hk64 hnm
      have hia := atN_lt sA m hm0
      have hib := atN_lt sB m hm0
      have HFL := hide HF.out.hl
      have HATA := hide (fun W => At_any sA m hm0 (by omega) W)
      have HATB := hide (fun W => At_any sB m hm0 (by omega) W)
      have HSF : Hid (stepF (formsTo l j) ⟨sk, sA, sB, snm⟩ = if sk = 2 then tru else if sk = 3 ∨ sk = 6 ∨ sk = 9 ∨ sk = 10 then ⟨false, sk, [], [(formsTo l j).getD (atN sA m) tru]⟩ else if sk = 4 ∨ sk = 5 ∨ sk = 7 ∨ sk = 8 then ⟨false, sk, [], [(formsTo l j).getD (atN sA m) tru, (formsTo l j).getD (atN sB m) tru]⟩ else ⟨false, 1, snm, []⟩) := by
        show _ = _
        unfold stepF
        rw [HFL.out]
      obtain ⟨hl1, hl2, hl3⟩ := HF.out.lts
      obtain ⟨pa, ca1, hfa, ca2, ca3⟩ := HF.out.at _ hia
      obtain ⟨pb, cb1, hfb, cb2, cb3⟩ := HF.out.at _ hib
      have HFA := hide hfa
      have HFB := hide hfb
      have HAV : Hid (∀ (W : World) b, wr.heap.size ≤ b → b < W.heap.size → Av W (.slice (some ⟨a1, 0, none⟩) m c1) (.slice (some ⟨a2, 0, none⟩) m c2) (.slice (some ⟨a3, 0, none⟩) m c3) b) := fun W b h1 h2 => by
        refine ⟨h2, ?_, ?_, ?_⟩
        all_goals
          intro e
          simp only [Value.ownBlock, Option.some.injEq] at e
          omega
      have HAO : Hid (∀ (W : World) b, Below wr.heap.size wr W → Av wr (.slice (some ⟨a1, 0, none⟩) m c1) (.slice (some ⟨a2, 0, none⟩) m c2) (.slice (some ⟨a3, 0, none⟩) m c3) b → Av W (.slice (some ⟨a1, 0, none⟩) m c1) (.slice (some ⟨a2, 0, none⟩) m c2) (.slice (some ⟨a3, 0, none⟩) m c3) b) := fun W b hW hb => ⟨Nat.lt_of_lt_of_le hb.1 hW.size, hb.2⟩
      have HMD : Hid (∀ wx x nv dv, Made1 wr wx a1 a2 a3 m c1 c2 c3 x nv dv ↔ ∃ nn : Nat, nv = .int .i64 (nn : Int) ∧ nn ≤ 3000000 ∧ min nn 1000000 = cap (size x) ∧ dv = .int .i64 (depth x : Int) ∧ Below wr.heap.size wr wx ∧ IsF (Av wx (.slice (some ⟨a1, 0, none⟩) m c1) (.slice (some ⟨a2, 0, none⟩) m c2) (.slice (some ⟨a3, 0, none⟩) m c3)) wx x (.pointer (some ⟨wr.heap.size + 1, 0, none⟩))) := fun _ _ _ _ => Iff.rfl
      clear hfa hfb
      have HDA : Hid (depth ((formsTo l j).getD (atN sA m) tru) ≤ 50) := by
        have := depth_get (n := j + 1) (by omega) (depth_forms l j) (atN sA m)
        show _ ≤ _; omega
      have HDB : Hid (depth ((formsTo l j).getD (atN sB m) tru) ≤ 50) := by
        have := depth_get (n := j + 1) (by omega) (depth_forms l j) (atN sB m)
        show _ ≤ _; omega
      generalize (formsTo l j).getD (atN sA m) tru = xa at *
      generalize (formsTo l j).getD (atN sB m) tru = xb at *
      generalize stepF (formsTo l j) ⟨sk, sA, sB, snm⟩ = xs at *
      generalize atN sA m = ia at *
      generalize atN sB m = ib at *
      have hiai : (ia : Int) < (m : Int) := by omega
      have hibi : (ib : Int) < (m : Int) := by omega
      obtain ⟨wB, hwB⟩ : ∃ wB, wB = wr.alloc (.cells #[.int .i64 sk, .int .i64 sA, .int .i64 sB, .string ⟨snm.toArray⟩] 56) := ⟨_, rfl⟩
      have HBB : Hid (Below wr.heap.size wr wB) := by rw [hwB]; exact newB _ _
      have HRB : Hid (RowIs wB wr.heap.size 56 [.int .i64 sk, .int .i64 sA, .int .i64 sB, .string ⟨snm.toArray⟩]) := by rw [hwB]; exact RowIs.new _ _ _
      have hszB : wB.heap.size = wr.heap.size + 1 := by rw [hwB]; simp
      have HSB := hide hszB
      have s1 := HRB.out.cell 1 _ rfl
      have s2 := HRB.out.cell 2 _ rfl
      clear hszB
      have HWB := hide hwB
      clear hwB
      go_upto_region 9 with fail
      rw [← HWB.out]
      clear HWB k0 k1 k2 k3
      go_quiet (first | (go_at_call 18; with_reducible refine Calls.quiet_of_same (HATA.out _)) | (go_at_call 18; with_reducible refine Calls.quiet_of_same (HATB.out _)))
      obtain ⟨wD, hwD⟩ : ∃ wD, wD = (wB.drewN nq).alloc (.cells #[.int .i64 sk, .string ⟨#[]⟩, .slice none 0 0] 53) := ⟨_, rfl⟩
      have hBC : Below wB.heap.size wB (wB.drewN nq) := ⟨rfl, rfl, rfl, Nat.le_refl _, fun _ _ => rfl⟩
      have hszC : (wB.drewN nq).heap.size = wr.heap.size + 1 := HSB.out
      have hBD' : Below (wB.drewN nq).heap.size (wB.drewN nq) wD := by rw [hwD]; exact newB _ _
      have HBD : Hid (Below wr.heap.size wr wD) := then_ (then_ HBB.out hBC) hBD'
      have HRD := hide ((HRB.out.below hBC).below hBD')
      have HFD : Hid (RowIs wD (wr.heap.size + 1) 53 [.int .i64 sk, .string ⟨#[]⟩, .slice none 0 0]) := by rw [hwD, ← hszC]; exact RowIs.new _ _ _
      have HSD : Hid (wD.heap.size = wr.heap.size + 2) := by rw [hwD]; show _ = _; simp [HSB.out]
      have sk0' := (HRB.out.below hBC).cell 0 _ rfl
      have HWD := hide hwD
      clear hBC hszC hBD' hwD s1 s2
      have hsz1 := HSB.out
      have fsk := HRD.out.cell 0 _ rfl
      go_upto_region 11 with fail
      rename_i hK0
      have HK0 := hide hK0
      clear hK0
      go_wp2_with fail
      refine HK0.out _ _ ?_
      rw [← HWD.out]
      clear HWD HK0
      refine wp_seq_k (fun K2 hK2 => ?_)
      have HK2 := hide hK2
      clear hK2
      go_cut [13, 14] from 24 to 160 (fun nv dv wx => Hid (Made1 wr wx a1 a2 a3 m c1 c2 c3 xs nv dv))
      case first =>
        clear HK2
        by_cases hk2 : sk = 2
        · have HX : Hid (xs = tru) := by show _ = _; rw [HSF.out, if_pos hk2]
          subst hk2
          go_wp2_with fail
          go_meet
          refine (HMD.out _ _ _ _).2 ⟨1, rfl, by omega, by rw [HX.out, size_tru]; rfl, by rw [HX.out, depth_tru]; rfl, HBD.out, ?_⟩
          rw [HX.out]
          have hr := HFD.out
          exact isF_node.2 ⟨by unfold I64; omega, by simp, by simp, _, none, 0, HAV.out _ _ (by omega) (by rw [HSD.out]; omega), rfl, hr.cell 0 _ rfl, hr.cell 1 _ rfl, hr.cell 2 _ rfl, fun i x hx => by simp at hx⟩
        · have hd1 := kept HBD.out ca1
          have hd2 := kept HBD.out cb1
          have hf2 := HFD.out.cell 2 _ rfl
          have hz2 := HFD.out.frozen 2
          have hsz := HSD.out
          have hnew : wr.heap.size + 1 < wD.heap.size := by omega
          have hcza := cap_le (size xa)
          have hczb := cap_le (size xb)
          have hdna := HDA.out
          have hdnb := HDB.out
          by_cases hks : sk = 3 ∨ sk = 6 ∨ sk = 9 ∨ sk = 10
          · have HX : Hid (xs = ⟨false, sk, [], [xa]⟩) := by show _ = _; rw [HSF.out, if_neg hk2, if_pos hks]
            obtain ⟨wE, hwE⟩ : ∃ wE, wE = (wD.setCell ⟨wr.heap.size + 1, 2, none⟩ (.slice (some ⟨wD.heap.size, 0, none⟩) 1 1)).alloc (.cells #[.pointer pa] 26) := ⟨_, rfl⟩
            have HBE : Hid (Below wr.heap.size wr wE) := by rw [hwE]; exact (HBD.out.setCell (by show wr.heap.size ≤ wr.heap.size + 1; omega) _).alloc (by have := HBD.out.size; simpa using this) _
            have hszE : wE.heap.size = wr.heap.size + 3 := by rw [hwE]; simp [hsz]
            have hfE : RowIs wE (wr.heap.size + 1) 53 [.int .i64 sk, .string ⟨#[]⟩, .slice (some ⟨wD.heap.size, 0, none⟩) 1 1] := by rw [hwE]; exact (HFD.out.set 2 _).alloc _
            have hrE : RowIs wE wD.heap.size 26 [.pointer pa] := by
              rw [hwE]
              have := RowIs.new (wD.setCell ⟨wr.heap.size + 1, 2, none⟩ (.slice (some ⟨wD.heap.size, 0, none⟩) 1 1)) 26 [.pointer pa]
              rw [World.size_setCell] at this
              exact this
            have HNEW : Hid (IsF (Av wE (.slice (some ⟨a1, 0, none⟩) m c1) (.slice (some ⟨a2, 0, none⟩) m c2) (.slice (some ⟨a3, 0, none⟩) m c3)) wE xs (.pointer (some ⟨wr.heap.size + 1, 0, none⟩))) := by
              show IsF _ _ _ _
              rw [HX.out]
              have hca := IsF.stay (fun b i u _ hc => kept HBE.out hc) (HAO.out wE · HBE.out) xa _ HFA.out
              refine isF_node.2 ⟨HK64.out, by simp, by unfold maxLen; simp, _, some ⟨wD.heap.size, 0, none⟩, 1, HAV.out _ _ (by omega) (by omega), rfl, hfE.cell 0 _ rfl, hfE.cell 1 _ rfl, hfE.cell 2 _ rfl, fun i x hx => ?_⟩
              match i, hx with
              | 0, hx =>
                cases hx
                exact ⟨wD.heap.size, 0, _, HAV.out _ _ (by omega) (by omega), rfl, by simp, hrE.cell 0 _ rfl, hca⟩
              | i + 1, hx => simp at hx
            have he2 := kept HBE.out ca2
            have he3 := kept HBE.out ca3
            have HSZ : Hid (size xs = 1 + size xa) := by show _ = _; rw [HX.out, size_one]
            have HDP : Hid (depth xs = 1 + depth xa) := by show _ = _; rw [HX.out, depth_one]
            have HCAP := hide (cap_one (size xa))
            have HWE := hide hwE
            clear hwE hszE hfE hrE hsz
            generalize cap (size xa) = za at *
            generalize depth xa = da at *
            rcases hks with rfl | rfl | rfl | rfl
            all_goals
              go_upto_region 16 with fail
              rw [← HWE.out]
              go_quiet (fail)
              go_wp2_with fail
              go_meet
              refine (HMD.out _ _ _ _).2 ⟨1 + za, by go_num, by omega, by rw [HSZ.out]; exact HCAP.out, by rw [HDP.out]; go_num, ?_, ?_⟩
              · exact then_ HBE.out ⟨rfl, rfl, rfl, Nat.le_refl _, fun _ _ => rfl⟩
              · exact isF_av (W := wE) ⟨rfl, rfl, rfl, Nat.le_refl _, fun _ _ => rfl⟩ HNEW.out
          · have hk1 := hks
            clear hks
            by_cases hks : sk = 4 ∨ sk = 5 ∨ sk = 7 ∨ sk = 8
            · have HX : Hid (xs = ⟨false, sk, [], [xa, xb]⟩) := by show _ = _; rw [HSF.out, if_neg hk2, if_neg hk1, if_pos hks]
              obtain ⟨wE, hwE⟩ : ∃ wE, wE = ((wD.setCell ⟨wr.heap.size + 1, 2, none⟩ (.slice (some ⟨wD.heap.size, 0, none⟩) 2 2)).alloc (.cells #[.pointer pa, .pointer pb] 26)).drew := ⟨_, rfl⟩
              have HBE : Hid (Below wr.heap.size wr wE) := by rw [hwE]; exact then_ ((HBD.out.setCell (by show wr.heap.size ≤ wr.heap.size + 1; omega) _).alloc (by have := HBD.out.size; simpa using this) _) (drewB _)
              have hszE : wE.heap.size = wr.heap.size + 3 := by rw [hwE]; simp [hsz]
              have hfE : RowIs wE (wr.heap.size + 1) 53 [.int .i64 sk, .string ⟨#[]⟩, .slice (some ⟨wD.heap.size, 0, none⟩) 2 2] := by rw [hwE]; exact RowIs.below ((HFD.out.set 2 _).alloc _) (drewB _)
              have hrE : RowIs wE wD.heap.size 26 [.pointer pa, .pointer pb] := by
                rw [hwE]
                have := RowIs.new (wD.setCell ⟨wr.heap.size + 1, 2, none⟩ (.slice (some ⟨wD.heap.size, 0, none⟩) 2 2)) 26 [.pointer pa, .pointer pb]
                rw [World.size_setCell] at this
                exact RowIs.below this (drewB _)
              have HNEW : Hid (IsF (Av wE (.slice (some ⟨a1, 0, none⟩) m c1) (.slice (some ⟨a2, 0, none⟩) m c2) (.slice (some ⟨a3, 0, none⟩) m c3)) wE xs (.pointer (some ⟨wr.heap.size + 1, 0, none⟩))) := by
                show IsF _ _ _ _
                rw [HX.out]
                have hca := IsF.stay (fun b i u _ hc => kept HBE.out hc) (HAO.out wE · HBE.out) xa _ HFA.out
                have hcb := IsF.stay (fun b i u _ hc => kept HBE.out hc) (HAO.out wE · HBE.out) xb _ HFB.out
                refine isF_node.2 ⟨HK64.out, by simp, by unfold maxLen; simp, _, some ⟨wD.heap.size, 0, none⟩, 2, HAV.out _ _ (by omega) (by omega), rfl, hfE.cell 0 _ rfl, hfE.cell 1 _ rfl, hfE.cell 2 _ rfl, fun i x hx => ?_⟩
                match i, hx with
                | 0, hx =>
                  cases hx
                  exact ⟨wD.heap.size, 0, _, HAV.out _ _ (by omega) (by omega), rfl, by simp, hrE.cell 0 _ rfl, hca⟩
                | 1, hx =>
                  cases hx
                  exact ⟨wD.heap.size, 0, _, HAV.out _ _ (by omega) (by omega), rfl, by simp, hrE.cell 1 _ rfl, hcb⟩
                | i + 2, hx => simp at hx
              have he2 := kept HBE.out ca2
              have he3 := kept HBE.out ca3
              have he4 := kept HBE.out cb2
              have he5 := kept HBE.out cb3
              have HSZ : Hid (size xs = 1 + size xa + size xb) := by show _ = _; rw [HX.out, size_two]
              have HDP : Hid (depth xs = 1 + max (depth xa) (depth xb)) := by show _ = _; rw [HX.out, depth_two]
              have HCAP := hide (cap_two (size xa) (size xb))
              have HWE := hide hwE
              clear hwE hszE hfE hrE hsz
              generalize cap (size xa) = za at *
              generalize depth xa = da at *
              generalize cap (size xb) = zb at *
              generalize depth xb = db at *
              rcases hks with rfl | rfl | rfl | rfl
              all_goals
                go_upto_region 18 with fail
                go_region
                rw [← HWE.out]
                go_upto_region 19 with fail
                go_quiet (fail)
                go_wp2_with fail
                all_goals
                  go_meet
                  refine (HMD.out _ _ _ _).2 ⟨1 + za + zb, by go_num, by omega, by rw [HSZ.out]; exact HCAP.out, by rw [HDP.out]; exact congrArg (Value.int .i64) (by omega), ?_, ?_⟩
                  · exact then_ HBE.out ⟨rfl, rfl, rfl, Nat.le_refl _, fun _ _ => rfl⟩
                  · exact isF_av (W := wE) ⟨rfl, rfl, rfl, Nat.le_refl _, fun _ _ => rfl⟩ HNEW.out
            · have HX : Hid (xs = ⟨false, 1, snm, []⟩) := by show _ = _; rw [HSF.out, if_neg hk2, if_neg hk1, if_neg hks]
              have hn3 : ¬ sk = 3 := fun h => hk1 (.inl h)
              have hn6 : ¬ sk = 6 := fun h => hk1 (.inr (.inl h))
              have hn9 : ¬ sk = 9 := fun h => hk1 (.inr (.inr (.inl h)))
              have hn10 : ¬ sk = 10 := fun h => hk1 (.inr (.inr (.inr h)))
              have hn4 : ¬ sk = 4 := fun h => hks (.inl h)
              have hn5 : ¬ sk = 5 := fun h => hks (.inr (.inl h))
              have hn7 : ¬ sk = 7 := fun h => hks (.inr (.inr (.inl h)))
              have hn8 : ¬ sk = 8 := fun h => hks (.inr (.inr (.inr h)))
              obtain ⟨wE, hwE⟩ : ∃ wE, wE = ((wD.setCell ⟨wr.heap.size + 1, 0, none⟩ (.int .i64 1)).setCell ⟨wr.heap.size + 1, 1, none⟩ (.string ⟨snm.toArray⟩)).drew := ⟨_, rfl⟩
              have hw1 : wr.heap.size ≤ wr.heap.size + 1 := by omega
              have HBE : Hid (Below wr.heap.size wr wE) := by rw [hwE]; exact then_ ((HBD.out.setCell (by exact hw1) _).setCell (by exact hw1) _) (drewB _)
              have hszE : wE.heap.size = wr.heap.size + 2 := by rw [hwE]; simp [hsz]
              have hfE : RowIs wE (wr.heap.size + 1) 53 [.int .i64 1, .string ⟨snm.toArray⟩, .slice none 0 0] := by rw [hwE]; exact RowIs.below ((HFD.out.set 0 _).set 1 _) (drewB _)
              have HNEW : Hid (IsF (Av wE (.slice (some ⟨a1, 0, none⟩) m c1) (.slice (some ⟨a2, 0, none⟩) m c2) (.slice (some ⟨a3, 0, none⟩) m c3)) wE xs (.pointer (some ⟨wr.heap.size + 1, 0, none⟩))) := by
                show IsF _ _ _ _
                rw [HX.out]
                exact isF_node.2 ⟨by unfold I64; omega, HNM.out, by simp, _, none, 0, HAV.out _ _ (by omega) (by omega), rfl, hfE.cell 0 _ rfl, hfE.cell 1 _ rfl, hfE.cell 2 _ rfl, fun i x hx => by simp at hx⟩
              have HSZ : Hid (size xs = 1) := by show _ = _; rw [HX.out, size_no]
              have HDP : Hid (depth xs = 1) := by show _ = _; rw [HX.out, depth_no]
              have fc0 := HFD.out.cell 0 _ rfl
              have fc1 := HFD.out.cell 1 _ rfl
              have fz0 := HFD.out.frozen 0
              have fz1 := HFD.out.frozen 1
              have sk3 := HRD.out.cell 3 _ rfl
              have hne : wr.heap.size + 1 ≠ wr.heap.size := by omega
              have HWE := hide hwE
              clear hwE hszE hfE hk1 hks hd1 hd2
              have hb2 : (sk == 2) = false := by simpa using hk2
              have hb3 : (sk == 3) = false := by simpa using hn3
              have hb4 : (sk == 4) = false := by simpa using hn4
              have hb5 : (sk == 5) = false := by simpa using hn5
              have hb6 : (sk == 6) = false := by simpa using hn6
              have hb7 : (sk == 7) = false := by simpa using hn7
              have hb8 : (sk == 8) = false := by simpa using hn8
              have hb9 : (sk == 9) = false := by simpa using hn9
              have hb10 : (sk == 10) = false := by simpa using hn10
              go_wp2_with fail
              go_region
              rw [← HWE.out]
              go_wp2_with fail
              go_meet
              refine (HMD.out _ _ _ _).2 ⟨1, rfl, by omega, by rw [HSZ.out]; rfl, by rw [HDP.out]; rfl, HBE.out, HNEW.out⟩
      case rest =>
        obtain ⟨nn, rfl, hnn, hmin, rfl, hbx, hfx⟩ := (HMD.out _ _ _ _).1 hcut.out
        have HBX := hide hbx
        have HFX := hide hfx
        have HMIN : Hid (min (nn : Int) 1000000 = (cap (size xs) : Int)) := by show _ = _; rw [← hmin]; omega
        clear hcut hbx hfx hmin HATA HATB HSF HFA HFB HAV HAO HMD HBB HRB HSB HRD HFD HSD HBD fsk hsz1 hiai hibi ca1 cb1 ca2 ca3 cb2 cb3 HK64 HNM
        have HUL : Hid (us.length = m) := HF.out.F.1.trans HF.out.hl
        have HZL : Hid ((szs (formsTo l j)).length = m) := (szs_len _).trans HF.out.hl
        have HPL : Hid ((dps (formsTo l j)).length = m) := (dps_len _).trans HF.out.hl
        have HT0 := hide (HF.out.T.below HBX.out)
        have HFF0 : Hid (FF wc (Av wc (.slice (some ⟨a1, 0, none⟩) m c1) (.slice (some ⟨a2, 0, none⟩) m c2) (.slice (some ⟨a3, 0, none⟩) m c3)) (us ++ [.pointer (some ⟨wr.heap.size + 1, 0, none⟩)]) (formsTo l j ++ [xs])) := by
          refine FF.push (FF.stay HF.out.F fun b hb => ⟨⟨Nat.lt_of_lt_of_le hb.1 HBX.out.size, hb.2⟩, fun i u hc => kept HBX.out hc⟩) HFX.out
        have HBWX : Hid (Below w.heap.size w wc) := then_ HBW.out HBX.out
        have hwx : w.heap.size ≤ wc.heap.size := HBWX.out.size
        have HFEQ : Hid (formsTo l (j + 1) = formsTo l j ++ [xs]) := HSU.out
        have HSE := hide (szs_push (formsTo l j) xs)
        have HDE := hide (dps_push (formsTo l j) xs)
        have HO1 := hide (fun o => HT0.out.own HUL.out o)
        have HONE : Hid (∀ v : Value, v.oneCell' = true → ∀ u ∈ [v], u.oneCell' = true) := fun v hv u hu => by
          obtain rfl := List.mem_singleton.1 hu
          exact hv
        have HDX : Hid (depth xs ≤ 60) := by
          have := depth_forms l (j + 1) xs (by rw [HFEQ.out]; simp)
          show _ ≤ _; omega
        have hdx := HDX.out
        have HFIN : Hid (∀ W3 g1 g2 g3 k1 k2 k3, T3 w.heap.size W3 26 3 3 (.slice (some ⟨g1, 0, none⟩) (m + 1) k1) (.slice (some ⟨g2, 0, none⟩) (m + 1) k2) (.slice (some ⟨g3, 0, none⟩) (m + 1) k3) (us ++ [.pointer (some ⟨wr.heap.size + 1, 0, none⟩)]) (szs (formsTo l j) ++ [.int .i64 (cap (size xs) : Int)]) (dps (formsTo l j) ++ [.int .i64 (depth xs : Int)]) → FF W3 (Av W3 (.slice (some ⟨g1, 0, none⟩) (m + 1) k1) (.slice (some ⟨g2, 0, none⟩) (m + 1) k2) (.slice (some ⟨g3, 0, none⟩) (m + 1) k3)) (us ++ [.pointer (some ⟨wr.heap.size + 1, 0, none⟩)]) (formsTo l j ++ [xs]) → Below w.heap.size w W3 → FS w W3 l (j + 1) (m + 1) (us ++ [.pointer (some ⟨wr.heap.size + 1, 0, none⟩)]) g1 g2 g3 k1 k2 k3) := fun W3 g1 g2 g3 k1 k2 k3 hT hF hB => by
          refine ⟨?_, ?_, hB, by rw [HM.out], ?_⟩
          · rw [HFEQ.out, szs_push, dps_push]; exact hT
          · rw [HFEQ.out]; exact hF
          · rw [HFEQ.out, List.length_append, HF.out.hl]; rfl
        have HCZ : Hid (cap (size xs) ≤ 1000000) := cap_le _
        have hcz := HCZ.out
        clear HSE HDE HDX HCZ HSU HST HFL HDA HDB HFX HF
        generalize cap (size xs) = cz at *
        generalize depth xs = dz at *
        generalize szs (formsTo l j) = zl at *
        generalize dps (formsTo l j) = dl at *
        have hmn : (nn : Int) ≤ 1000000 ∧ (nn : Int) = (cz : Int) ∨ (1000000 : Int) < (nn : Int) ∧ (1000000 : Int) = (cz : Int) := by
          have h := HMIN.out
          by_cases h1 : (nn : Int) ≤ 1000000
          · exact .inl ⟨h1, by omega⟩
          · exact .inr ⟨by omega, by omega⟩
        clear HMIN
        refine HK2.out _ _ ?_
        clear HK2
        rcases hmn with ⟨hmn, hmc⟩ | ⟨hmn, hmc⟩
        all_goals
          have HMC := hide hmc
          clear hmc
          go_wp2_with (first
            | (at_builtin; refine wpList_append_lies _ rfl (.tmp 148) (.tmp 150) 51 rfl w.heap.size 26 i1 _ 1 8 Tryd.underlying51 hi1 hz10 hz11 hz12 rfl (by decide) (.slice (some ⟨a1, 0, none⟩) m c1) m us rfl (HO1.out _) ⟨wc.heap.size, 0, none⟩ 1 1 [.pointer (some ⟨wr.heap.size + 1, 0, none⟩)] rfl rfl (World.news_of_block (heap_alloc_new wc _)) (HONE.out _ rfl) (by decide) (by unfold maxLen; omega) (by omega) (by simp; omega) (wc.heap.size + 1) (by simp) ?_; intro g1 k1 W1 hown hgrow hat hltg; have HT1 := hide (HT0.out.grow HUL.out hown hgrow hat); have HG1 := hide hgrow; have hw1 : w.heap.size ≤ W1.heap.size := (by have := hgrow.size; simp at this; omega); have HO2 := hide (fun o => HT1.out.1.rot.own HZL.out o); clear hown hgrow hat hltg)
            | (at_builtin; refine wpList_append_lies _ rfl (.tmp 152) (.tmp 155) 54 rfl w.heap.size 3 i2 _ 1 8 Tryd.underlying54 hi2 hz20 hz21 hz22 rfl (by decide) (.slice (some ⟨a2, 0, none⟩) m c2) m zl rfl (HO2.out _) ⟨W1.heap.size, 0, none⟩ 1 1 [.int .i64 (nn : Int)] rfl rfl (World.news_of_block (heap_alloc_new W1 _)) (HONE.out _ rfl) (by decide) (by unfold maxLen; omega) (by omega) (by simp; omega) (W1.heap.size + 1) (by simp) ?_; intro g2 k2 W2 hown hgrow hat hltg; rw [HMC.out] at hown; have HT2 := hide (HT1.out.1.rot.grow HZL.out hown hgrow hat); have HG2 := hide hgrow; have hw2 : w.heap.size ≤ W2.heap.size := (by have := hgrow.size; simp at this; omega); have HO3 := hide (fun o => HT2.out.1.rot.own HPL.out o); clear hown hgrow hat hltg)
            | (at_builtin; refine wpList_append_lies _ rfl (.tmp 152) (.tmp 155) 54 rfl w.heap.size 3 i2 _ 1 8 Tryd.underlying54 hi2 hz20 hz21 hz22 rfl (by decide) (.slice (some ⟨a2, 0, none⟩) m c2) m zl rfl (HO2.out _) ⟨W1.heap.size, 0, none⟩ 1 1 [.int .i64 1000000] rfl rfl (World.news_of_block (heap_alloc_new W1 _)) (HONE.out _ rfl) (by decide) (by unfold maxLen; omega) (by omega) (by simp; omega) (W1.heap.size + 1) (by simp) ?_; intro g2 k2 W2 hown hgrow hat hltg; rw [HMC.out] at hown; have HT2 := hide (HT1.out.1.rot.grow HZL.out hown hgrow hat); have HG2 := hide hgrow; have hw2 : w.heap.size ≤ W2.heap.size := (by have := hgrow.size; simp at this; omega); have HO3 := hide (fun o => HT2.out.1.rot.own HPL.out o); clear hown hgrow hat hltg)
            | (at_builtin; refine wpList_append_lies _ rfl (.tmp 157) (.tmp 159) 54 rfl w.heap.size 3 i2 _ 1 8 Tryd.underlying54 hi2 hz20 hz21 hz22 rfl (by decide) (.slice (some ⟨a3, 0, none⟩) m c3) m dl rfl (HO3.out _) ⟨W2.heap.size, 0, none⟩ 1 1 [.int .i64 (dz : Int)] rfl rfl (World.news_of_block (heap_alloc_new W2 _)) (HONE.out _ rfl) (by decide) (by unfold maxLen; omega) (by omega) (by simp; omega) (W2.heap.size + 1) (by simp) ?_; intro g3 k3 W3 hown hgrow hat hltg; have HT3 := hide (HT2.out.1.rot.grow HPL.out hown hgrow hat); have HG3 := hide hgrow; clear hown hgrow hat hltg))
          go_roundw
          case rel =>
            refine ⟨j + 1, m + 1, _, _, _, _, _, _, _, by omega, by go_num, rfl, rfl, rfl, HFIN.out W3 g1 g2 g3 k1 k2 k3 HT3.out.1.rot ?_ ?_⟩
            · refine FF.stay HFF0.out fun b hb => ?_
              obtain ⟨x1, y1⟩ := HT1.out.2 b hb
              obtain ⟨x2, y2⟩ := HT2.out.2 b x1.rot
              obtain ⟨x3, y3⟩ := HT3.out.2 b x2.rot
              exact ⟨x3.rot, fun i u hc => by rw [y3, y2, y1]; exact hc⟩
            · have b1 := below_grown (then_ HBWX.out (newB _ _)) HG1.out (ownBlock_new HT0.out.o1)
              have b2 := below_grown (then_ b1 (newB _ _)) HG2.out (ownBlock_new HT1.out.1.o2)
              exact below_grown (then_ b2 (newB _ _)) HG3.out (ownBlock_new HT2.out.1.rot.o1)
          case measure => simp [intOf]; omega
    · have hjn : j = n := by omega
      obtain ⟨pz, cz1, hfz, cz2, cz3⟩ := HF.out.at j (by have := HM.out; omega)
      have hfe : (formsTo l j).getD j tru = formula l := by unfold formula; rw [← HN.out, ← hjn]
      rw [hfe] at hfz cz2 cz3
      have HIZ : Hid (IsF (fun _ => True) wr (formula l) (.pointer pz)) := hfz.weak fun _ _ => trivial
      have HMJ : Hid ((m : Int) - 1 = (j : Int)) := by have := HM.out; show _ = _; omega
      have hmj := HMJ.out
      have hjm : (j : Int) < (m : Int) := by omega
      have h40n : n ≤ 40 := by omega
      have HDZ : Hid (depth (formula l) ≤ 50) := by
        rw [← hfe]
        have := depth_get (n := j + 1) (by omega) (depth_forms l j) j
        show _ ≤ _; omega
      clear hfz hfe HST HF
      obtain ⟨xz, hxz⟩ : ∃ xz, xz = formula l := ⟨_, rfl⟩
      have HXZ := hide hxz
      rw [← hxz] at HIZ HDZ cz2 cz3
      have hdz := HDZ.out
      clear hxz
      have HDD : Hid (∀ n, Below w.heap.size w (wr.drewN n)) := fun n => then_ HBW.out ⟨rfl, rfl, rfl, Nat.le_refl _, fun _ _ => rfl⟩
      have HID : Hid (∀ n, IsF (fun _ => True) (wr.drewN n) xz (.pointer pz)) := fun n => HIZ.out.below ⟨rfl, rfl, rfl, Nat.le_refl _, fun _ _ => rfl⟩
      have HRT : Hid (Ending.returned (.tuple #[.pointer pz, .int .i64 (cap (size xz) : Int), .bool (decide ((depth xz : Int) ≤ 20))]) = Ending.returned (.tuple #[.pointer pz, .int .i64 (cap (size xz) : Int), .bool (decide (depth xz ≤ 20))])) := by
        show _ = _
        have : decide ((depth xz : Int) ≤ 20) = decide (depth xz ≤ 20) := by
          by_cases h : depth xz ≤ 20
          · rw [decide_eq_true h, decide_eq_true (by omega)]
          · rw [decide_eq_false h, decide_eq_false (by omega)]
        rw [this]
      have hjn2 := hjn
      subst hjn2
      go_wp2_with fail
      go_quiet (fail)
      go_wp2_with fail
      refine bodyPost_ret (v := .tuple #[.pointer pz, .int .i64 (cap (size xz) : Int), .bool (decide ((depth xz : Int) ≤ 20))]) (by simp [results, Tryd.results5, go_sem]) rfl ⟨HDD.out _, .inr ⟨h40n, pz, by rw [← HXZ.out]; exact HRT.out, by rw [← HXZ.out]; exact HID.out _⟩⟩
end Ls
end Go.Proofs.YtmdblokmplbpmaaDoor
