/-
  The walk of the document's At, at Ever.
-/
import Derived.Test.YtmdblokmplbpmaaDoorLyAtB
namespace Go.Proofs.YtmdblokmplbpmaaDoor
namespace Ls
open Go.RowKit
set_option maxHeartbeats 16000000 in
set_option maxRecDepth 100000 in
theorem rat_ever (nm : List UInt8) (y : Fm) (hy : RAtOK y) : RAtOK ⟨false, 9, nm, [y]⟩ := by
  intro hwf A R av rv v w t hA hR h0 h60 hnb hF ht
  obtain ⟨-, hnm, -, b, sa, sc, -, rfl, d0, d1, d2, hrow⟩ := isF_node.1 hF
  have HST := hide (AtS.first A R av rv w)
  obtain ⟨wB, hwB⟩ : ∃ wB, wB = ((w.alloc (.cells #[av, rv] 29)).alloc (.cells #[.int .i64 (A.length : Int)] 3)) := ⟨_, rfl⟩
  rw [← hwB] at HST
  have e0 := kept HST.out.B d0
  have e1 := kept HST.out.B d1
  have e2 := kept HST.out.B d2
  have ea := HST.out.a
  have er := HST.out.r
  have HFD := hide (fun i hi W hW => HST.out.fold hR h0 h60 i hi W hW)
  have HAA := hide hA
  have HRR := hide hR
  have HD := hide (drewB wB)
  have hal : (A.length : Int) ≤ 60 := by omega
  have hrl : (R.length : Int) ≤ 60 := by omega
  have hti : (t : Int) ≤ 60 := by omega
  have h0i : (0 : Int) < (R.length : Int) := by omega
  have hmx : (t : Int) < (A.length : Int) ∨ ¬ (t : Int) < (A.length : Int) := Decidable.em _
  obtain ⟨g, o, u, -, rfl, -, hc, hyu⟩ := hrow 0 y rfl
  have HC := hide (fun s (hs : s < A.length + R.length) W (hW : Below w.heap.size w W) => hy ((wf_parts hwf).2 y (by simp)) A R av rv u W s (hA.below hW) (hR.below hW) h0 h60 hnb (hyu.below hW) hs)
  have HS : Hid (sem (A ++ R) A.length ⟨false, 9, nm, [y]⟩ t = unt (A.length + R.length) A.length (fun _ => true) (sem (A ++ R) A.length y) t) := by show _ = _; rw [sem_eq, ← len_app]; rfl
  have ec : wB.cell? ⟨g, o, none⟩ = some u := kept HST.out.B hc
  obtain ⟨pu, rfl⟩ := hyu.ptr
  obtain ⟨aa, ac, rfl⟩ := hA.slice
  obtain ⟨ra, rc, rfl⟩ := hR.slice
  have HWB := hide hwB
  have HT0 := hide ht
  have H60 := hide h60
  have HNB := hide hnb
  clear hnb
  have HKC : Hid (∀ W, Below wB.heap.size wB W → W.cell? ⟨b, 0, none⟩ = some (.int .i64 9) ∧ W.cell? ⟨b, 2, none⟩ = some (.slice (some ⟨g, o, none⟩) 1 sc) ∧ W.cell? ⟨g, o, none⟩ = some (.pointer pu) ∧ W.cell? ⟨w.heap.size, 0, none⟩ = some (.slice aa A.length ac) ∧ W.cell? ⟨w.heap.size, 1, none⟩ = some (.slice ra R.length rc)) := fun W hW => ⟨kept hW e0, kept hW e2, kept hW ec, kept hW ea, kept hW er⟩
  have hrN : A.length < A.length + R.length := by omega
  have HRN := hide hrN
  obtain ⟨p, hp⟩ : ∃ p, p = sem (A ++ R) A.length y := ⟨_, rfl⟩
  rw [← hp] at HS
  rw [← hp] at HC
  obtain ⟨E, hE, hEm⟩ : ∃ E : Nat, (E = if t < A.length then A.length + 2 * R.length else t + 2 * R.length) ∧ E = max t A.length + 2 * (A.length + R.length - A.length) := by
    refine ⟨_, rfl, ?_⟩
    by_cases h : t < A.length
    · rw [if_pos h]; omega
    · rw [if_neg h]; omega
  have hE180 : E ≤ 180 := by omega
  have HEM := hide hEm
  have hcm : ((t : Int) < (A.length : Int) ∧ (E : Int) = (A.length : Int) + 2 * (R.length : Int)) ∨ (¬ (t : Int) < (A.length : Int) ∧ (E : Int) = (t : Int) + 2 * (R.length : Int)) := by
    by_cases h : t < A.length
    · rw [if_pos h] at hE; exact .inl ⟨by omega, by omega⟩
    · rw [if_neg h] at hE; exact .inr ⟨by omega, by omega⟩
  have htE : t ≤ E := by omega
  clear hwf hA hR hF hrow hwB d0 d1 d2 h0 h60 ht hyu hy hc hp hE hEm hmx hrN
  rcases hcm with ⟨hmx, hEi⟩ | ⟨hmx, hEi⟩
  all_goals
    have HEI := hide hEi
    clear hEi
    go_enter Tryd.func12, Tryd.ntmps12
    go_upto_region 4 with fail
    rw [← HWB.out]
    go_wp2_with fail
    go_loopw [13] (fun iv wr => ∃ k : Nat, t ≤ k ∧ k ≤ E ∧ iv = .int .i64 (k : Int) ∧ Hid (∀ j, t ≤ j → j < k → p (fold (A.length + R.length) A.length j) = false) ∧ Hid (Below wB.heap.size wB wr)) (fun iv _ => 200 - (intOf iv).toNat)
    case atStart => exact ⟨t, Nat.le_refl _, htE, rfl, fun j h1 h2 => by omega, Below.refl _ _⟩
    case round =>
      obtain ⟨k, hk1, hk2, rfl, HI, HB⟩ := hrel
      by_cases hlt : k < E
      · have hkt : (k : Int) < (E : Int) := by omega
        rw [HEI.out] at hkt
        have HFK := hide (fun W hW => HFD.out k (by omega) W hW)
        have hfl := fold_lt (N := A.length + R.length) (r := A.length) HRN.out k
        have HQ := hide (fun W hW => HC.out (fold (A.length + R.length) A.length k) hfl W hW)
        have HU1 : Hid (p (fold (A.length + R.length) A.length k) = true → unt (A.length + R.length) A.length (fun _ => true) p t = true) := fun h => unt_hit HRN.out HT0.out (fun _ => true) p k hk1 (fun _ _ _ => rfl) h
        have HIN : Hid (p (fold (A.length + R.length) A.length k) = false → ∀ j, t ≤ j → j < k + 1 → p (fold (A.length + R.length) A.length j) = false) := fun h j h1 h2 => by
          by_cases hj : j < k
          · exact HI.out j h1 hj
          · have : j = k := by omega
            subst this
            exact h
        obtain ⟨x0, x1, x2, x3, x4⟩ := HKC.out wr HB.out
        clear hfl
        generalize fold (A.length + R.length) A.length k = fk at *
        cases hqk : p fk with
        | true =>
          have HV : Hid (unt (A.length + R.length) A.length (fun _ => true) p t = true) := HU1.out (by simp [hqk])
          rw [hqk] at HQ
          clear hqk HU1 HIN HI
          go_wp2_with fail
          go_region_held3 (fun W => W.cell? ⟨b, 0, none⟩ = some (.int .i64 9) ∧ W.cell? ⟨b, 2, none⟩ = some (.slice (some ⟨g, o, none⟩) 1 sc) ∧ W.cell? ⟨g, o, none⟩ = some (.pointer pu) ∧ W.cell? ⟨w.heap.size, 0, none⟩ = some (.slice aa A.length ac) ∧ W.cell? ⟨w.heap.size, 1, none⟩ = some (.slice ra R.length rc)) ((first
            | exact HKC.out _ (then_ HB.out (drewB _)) | exact HKC.out _ HB1a.out | exact HKC.out _ HB2a.out)) ((first
            | (go_at_call 26; (with_reducible refine (HFK.out _ (then_ HB.out (drewB _))).mono ?_); rintro e w1a ⟨rfl, hb1⟩; have HB1a := hide (then_ (then_ HB.out (drewB _)) hb1); have HCa := hide (HQ.out w1a (then_ HST.out.B HB1a.out)); clear hb1)
            | (go_at_call 12; (with_reducible refine HCa.out.mono ?_); rintro e w2a ⟨rfl, hb2⟩; have HB2a := hide (then_ HB1a.out hb2); clear hb2)))
          all_goals
            obtain ⟨y0, y1, y2, y3, y4⟩ := HKC.out w2a HB2a.out
            go_wp2_with fail
            go_ret
            exact ⟨ret_bool (by rw [HS.out, HV.out] <;> rfl), then_ HST.out.B HB2a.out⟩
        | false =>
          have HIN2 := hide (HIN.out (by simp [hqk]))
          rw [hqk] at HQ
          clear hqk HU1 HIN HI
          go_wp2_with fail
          go_region_held3 (fun W => W.cell? ⟨b, 0, none⟩ = some (.int .i64 9) ∧ W.cell? ⟨b, 2, none⟩ = some (.slice (some ⟨g, o, none⟩) 1 sc) ∧ W.cell? ⟨g, o, none⟩ = some (.pointer pu) ∧ W.cell? ⟨w.heap.size, 0, none⟩ = some (.slice aa A.length ac) ∧ W.cell? ⟨w.heap.size, 1, none⟩ = some (.slice ra R.length rc)) ((first
            | exact HKC.out _ (then_ HB.out (drewB _)) | exact HKC.out _ HB1a.out | exact HKC.out _ HB2a.out)) ((first
            | (go_at_call 26; (with_reducible refine (HFK.out _ (then_ HB.out (drewB _))).mono ?_); rintro e w1a ⟨rfl, hb1⟩; have HB1a := hide (then_ (then_ HB.out (drewB _)) hb1); have HCa := hide (HQ.out w1a (then_ HST.out.B HB1a.out)); clear hb1)
            | (go_at_call 12; (with_reducible refine HCa.out.mono ?_); rintro e w2a ⟨rfl, hb2⟩; have HB2a := hide (then_ HB1a.out hb2); clear hb2)))
          all_goals
            go_wp2_with fail
            go_roundw
            case rel => exact ⟨k + 1, by omega, by omega, by go_num, HIN2.out, HB2a.out⟩
            case measure => simp [intOf]; omega
      · have hkE : k = E := by omega
        have hkt : ¬ (k : Int) < (E : Int) := by omega
        rw [HEI.out] at hkt
        have HV : Hid (unt (A.length + R.length) A.length (fun _ => true) p t = false) := unt_end HRN.out HT0.out _ _ fun j h1 h2 => HI.out j h1 (by rw [hkE, HEM.out]; exact h2)
        obtain ⟨x0, x1, x2, x3, x4⟩ := HKC.out wr HB.out
        clear hkE HI
        go_wp2_with fail
        go_ret
        exact ⟨ret_bool (by rw [HS.out, HV.out] <;> rfl), then_ HST.out.B HB.out⟩
end Ls
end Go.Proofs.YtmdblokmplbpmaaDoor
