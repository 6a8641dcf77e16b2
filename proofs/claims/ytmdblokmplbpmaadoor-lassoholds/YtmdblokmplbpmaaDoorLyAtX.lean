/-
  The walk of the document's At, at And, Or and Next.
-/
import Derived.Test.YtmdblokmplbpmaaDoorLyAtB
namespace Go.Proofs.YtmdblokmplbpmaaDoor
namespace Ls
open Go.RowKit
set_option maxHeartbeats 8000000 in
set_option maxRecDepth 100000 in
theorem rat_next (nm : List UInt8) (y : Fm) (hy : RAtOK y) : RAtOK ⟨false, 6, nm, [y]⟩ := by
  intro hwf A R av rv v w t hA hR h0 h60 hnb hF ht
  obtain ⟨-, hnm, -, b, sa, sc, -, rfl, d0, d1, d2, hrow⟩ := isF_node.1 hF
  have HST := hide (AtS.first A R av rv w)
  obtain ⟨wB, hwB⟩ : ∃ wB, wB = ((w.alloc (.cells #[av, rv] 29)).alloc (.cells #[.int .i64 (A.length : Int)] 3)) := ⟨_, rfl⟩
  rw [← hwB] at HST
  have e0 := kept HST.out.B d0
  have e1 := kept HST.out.B d1
  have e2 := kept HST.out.B d2
  have ea := HST.out.a
  have er := HST.out.r
  have HFD := hide (fun i hi W hW => HST.out.fold hR h0 h60 i hi W hW)
  have HAA := hide hA
  have HRR := hide hR
  have HD := hide (drewB wB)
  have hal : (A.length : Int) ≤ 60 := by omega
  have hrl : (R.length : Int) ≤ 60 := by omega
  have hti : (t : Int) ≤ 60 := by omega
  have h0i : (0 : Int) < (R.length : Int) := by omega
  have hmx : (t : Int) < (A.length : Int) ∨ ¬ (t : Int) < (A.length : Int) := Decidable.em _
  obtain ⟨g, o, u, -, rfl, -, hc, hyu⟩ := hrow 0 y rfl
  have HC := hide (fun s (hs : s < A.length + R.length) W (hW : Below w.heap.size w W) => hy ((wf_parts hwf).2 y (by simp)) A R av rv u W s (hA.below hW) (hR.below hW) h0 h60 hnb (hyu.below hW) hs)
  have HS : Hid (sem (A ++ R) A.length ⟨false, 6, nm, [y]⟩ t = sem (A ++ R) A.length y (fold (A.length + R.length) A.length (t + 1))) := by
    show _ = _
    have e := next_fold (N := A.length + R.length) (r := A.length) (by omega) t
    rw [fold_small ht] at e
    rw [← e, sem_eq, ← len_app]
    rfl
  have ec : wB.cell? ⟨g, o, none⟩ = some u := kept HST.out.B hc
  obtain ⟨pu, rfl⟩ := hyu.ptr
  obtain ⟨aa, ac, rfl⟩ := hA.slice
  obtain ⟨ra, rc, rfl⟩ := hR.slice
  have HWB := hide hwB
  have HT0 := hide ht
  have H60 := hide h60
  have HNB := hide hnb
  clear hnb
  have HF1 : Hid (Calls Tryd.prog 26 #[.int .i64 (IntKind.i64.wrap ((t : Int) + 1)), .pointer (some ⟨w.heap.size + 1, 0, none⟩), .pointer (some ⟨w.heap.size, 0, none⟩)] wB.drew fun e w' => e = .returned (.int .i64 (fold (A.length + R.length) A.length (t + 1) : Int)) ∧ Below wB.drew.heap.size wB.drew w') := by
    have h := HFD.out (t + 1) (by omega) wB.drew HD.out
    rw [Int.natCast_add] at h
    have hwr : IntKind.i64.wrap ((t : Int) + 1) = (t : Int) + 1 := by rw [IntKind.wrap_i64]; omega
    rw [hwr]
    exact h
  have hfl := fold_lt (N := A.length + R.length) (r := A.length) (by omega) (t + 1)
  have HC1 := hide (fun W hW => HC.out (fold (A.length + R.length) A.length (t + 1)) hfl W hW)
  have HKC : Hid (∀ W, Below wB.heap.size wB W → W.cell? ⟨b, 2, none⟩ = some (.slice (some ⟨g, o, none⟩) 1 sc) ∧ W.cell? ⟨g, o, none⟩ = some (.pointer pu) ∧ W.cell? ⟨w.heap.size, 0, none⟩ = some (.slice aa A.length ac) ∧ W.cell? ⟨w.heap.size, 1, none⟩ = some (.slice ra R.length rc)) := fun W hW => ⟨kept hW e2, kept hW ec, kept hW ea, kept hW er⟩
  clear hwf hA hR hF hrow hwB d0 d1 d2 h0 h60 ht hyu hy hc hfl
  generalize fold (A.length + R.length) A.length (t + 1) = ft at *
  generalize sem (A ++ R) A.length y ft = by_ at *
  rcases hmx with hmx | hmx
  all_goals
    go_enter Tryd.func12, Tryd.ntmps12
    go_upto_region 4 with fail
    rw [← HWB.out]
    go_wp2_with fail
    go_region_held3 (fun W => W.cell? ⟨b, 2, none⟩ = some (.slice (some ⟨g, o, none⟩) 1 sc) ∧ W.cell? ⟨g, o, none⟩ = some (.pointer pu) ∧ W.cell? ⟨w.heap.size, 0, none⟩ = some (.slice aa A.length ac) ∧ W.cell? ⟨w.heap.size, 1, none⟩ = some (.slice ra R.length rc)) ((first
      | exact HKC.out _ HD.out | exact HKC.out _ HB1.out | exact HKC.out _ HB2.out)) ((first
      | (go_at_call 26; (with_reducible refine HF1.out.mono ?_); rintro e w1 ⟨rfl, hb1⟩; have HB1 := hide (then_ HD.out hb1); have HC2 := hide (HC1.out w1 (then_ HST.out.B HB1.out)); clear hb1)
      | (go_at_call 12; (with_reducible refine HC2.out.mono ?_); rintro e w2 ⟨rfl, hb2⟩; have HB2 := hide (then_ HB1.out hb2); clear hb2)))
    all_goals
      go_wp2_with fail
      go_ret
      exact ⟨ret_bool HS.out.symm, then_ HST.out.B HB2.out⟩
end Ls
end Go.Proofs.YtmdblokmplbpmaaDoor
