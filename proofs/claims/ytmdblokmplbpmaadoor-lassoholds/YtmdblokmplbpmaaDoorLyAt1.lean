/-
  The walk of the document's At, at formulas that do not look on.
-/
import Derived.Test.YtmdblokmplbpmaaDoorLyAtB
namespace Go.Proofs.YtmdblokmplbpmaaDoor
namespace Ls
open Go.RowKit
set_option maxHeartbeats 4000000 in
set_option maxRecDepth 100000 in
theorem rat_true (nm : List UInt8) (l : List Fm) : RAtOK ⟨false, 2, nm, l⟩ := by
  intro hwf A R av rv v w t hA hR h0 h60 hnb hF ht
  obtain ⟨-, hnm, -, b, sa, sc, -, rfl, d0, d1, d2, hrow⟩ := isF_node.1 hF
  have HST := hide (AtS.first A R av rv w)
  obtain ⟨wB, hwB⟩ : ∃ wB, wB = ((w.alloc (.cells #[av, rv] 29)).alloc (.cells #[.int .i64 (A.length : Int)] 3)) := ⟨_, rfl⟩
  rw [← hwB] at HST
  have e0 := kept HST.out.B d0
  have e1 := kept HST.out.B d1
  have e2 := kept HST.out.B d2
  have ea := HST.out.a
  have er := HST.out.r
  have HFD := hide (fun i hi W hW => HST.out.fold hR h0 h60 i hi W hW)
  have HAA := hide hA
  have HRR := hide hR
  have HD := hide (drewB wB)
  have hal : (A.length : Int) ≤ 60 := by omega
  have hrl : (R.length : Int) ≤ 60 := by omega
  have hti : (t : Int) ≤ 60 := by omega
  have h0i : (0 : Int) < (R.length : Int) := by omega
  have hmx : (t : Int) < (A.length : Int) ∨ ¬ (t : Int) < (A.length : Int) := Decidable.em _
  have HS : Hid (sem (A ++ R) A.length ⟨false, 2, nm, l⟩ t = true) := by show _ = _; rw [sem_eq]; rfl
  obtain ⟨aa, ac, rfl⟩ := hA.slice
  obtain ⟨ra, rc, rfl⟩ := hR.slice
  have HWB := hide hwB
  have HT0 := hide ht
  have H60 := hide h60
  have HNB := hide hnb
  clear hnb
  clear hwf hA hR hF hrow hwB d0 d1 d2 h0 h60 ht
  rcases hmx with hmx | hmx
  all_goals
    go_enter Tryd.func12, Tryd.ntmps12
    go_upto_region 4 with fail
    rw [← HWB.out]
    go_wp2_with fail
    go_ret
    exact ⟨ret_bool HS.out.symm, HST.out.B⟩
set_option maxHeartbeats 4000000 in
set_option maxRecDepth 100000 in
theorem rat_not (nm : List UInt8) (y : Fm) (hy : RAtOK y) : RAtOK ⟨false, 3, nm, [y]⟩ := by
  intro hwf A R av rv v w t hA hR h0 h60 hnb hF ht
  obtain ⟨-, hnm, -, b, sa, sc, -, rfl, d0, d1, d2, hrow⟩ := isF_node.1 hF
  have HST := hide (AtS.first A R av rv w)
  obtain ⟨wB, hwB⟩ : ∃ wB, wB = ((w.alloc (.cells #[av, rv] 29)).alloc (.cells #[.int .i64 (A.length : Int)] 3)) := ⟨_, rfl⟩
  rw [← hwB] at HST
  have e0 := kept HST.out.B d0
  have e1 := kept HST.out.B d1
  have e2 := kept HST.out.B d2
  have ea := HST.out.a
  have er := HST.out.r
  have HFD := hide (fun i hi W hW => HST.out.fold hR h0 h60 i hi W hW)
  have HAA := hide hA
  have HRR := hide hR
  have HD := hide (drewB wB)
  have hal : (A.length : Int) ≤ 60 := by omega
  have hrl : (R.length : Int) ≤ 60 := by omega
  have hti : (t : Int) ≤ 60 := by omega
  have h0i : (0 : Int) < (R.length : Int) := by omega
  have hmx : (t : Int) < (A.length : Int) ∨ ¬ (t : Int) < (A.length : Int) := Decidable.em _
  obtain ⟨g, o, u, -, rfl, -, hc, hyu⟩ := hrow 0 y rfl
  have HC := hide (fun s (hs : s < A.length + R.length) W (hW : Below w.heap.size w W) => hy ((wf_parts hwf).2 y (by simp)) A R av rv u W s (hA.below hW) (hR.below hW) h0 h60 hnb (hyu.below hW) hs)
  have HS : Hid (sem (A ++ R) A.length ⟨false, 3, nm, [y]⟩ t = !sem (A ++ R) A.length y t) := by show _ = _; rw [sem_eq]; rfl
  have ec : wB.cell? ⟨g, o, none⟩ = some u := kept HST.out.B hc
  obtain ⟨pu, rfl⟩ := hyu.ptr
  obtain ⟨aa, ac, rfl⟩ := hA.slice
  obtain ⟨ra, rc, rfl⟩ := hR.slice
  have HWB := hide hwB
  have HT0 := hide ht
  have H60 := hide h60
  have HNB := hide hnb
  clear hnb
  have HC1 := hide (HC.out t ht wB.drew (then_ HST.out.B HD.out))
  clear hwf hA hR hF hrow hwB d0 d1 d2 h0 h60 ht hyu hy hc
  generalize sem (A ++ R) A.length y t = by_ at *
  rcases hmx with hmx | hmx
  all_goals
    go_enter Tryd.func12, Tryd.ntmps12
    go_upto_region 4 with fail
    rw [← HWB.out]
    go_wp2_with fail
    go_region_with (go_at_call 12; (with_reducible refine HC1.out.mono ?_); rintro e w1 ⟨rfl, hb1⟩; have HB1 := hide (then_ (then_ HST.out.B HD.out) hb1); clear hb1)
    all_goals
      go_wp2_with fail
      go_ret
      exact ⟨ret_bool HS.out.symm, HB1.out⟩
end Ls
end Go.Proofs.YtmdblokmplbpmaaDoor
