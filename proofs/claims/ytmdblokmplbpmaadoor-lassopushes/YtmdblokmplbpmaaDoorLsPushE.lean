/-
  The walks of package lasso's pushed, at Ever and Always, and of Push.
-/
import Derived.Test.YtmdblokmplbpmaaDoorLsPushN
namespace Go.Proofs.YtmdblokmplbpmaaDoor
namespace Ls
open Go.RowKit
theorem wf_tru : wf (nd 2 []) = true := wf_mk (by decide) (by decide) (by decide) (fun x hx => by simp at hx)
theorem nd_nil : nd 2 [] = ⟨false, 2, [], []⟩ := rfl
set_option maxHeartbeats 4000000 in
set_option maxRecDepth 100000 in
theorem pushed_ever (nm : List UInt8) (y : Fm) (hy : PushOK y) : PushOK ⟨false, 9, nm, [y]⟩ := by
  intro hwf no w v hF
  have hwy := (wf_parts hwf).2 y (by simp)
  have hU : PushOK (nd 7 [nd 2 [], y]) := pushed_node 7 [] _ (by simp) (fun x hx => by
    rcases List.mem_cons.1 hx with rfl | hx
    · exact pushed_leaf 2 [] [] (.inr rfl)
    · obtain rfl := List.mem_singleton.1 hx; exact hy)
  have hwU : wf (nd 7 [nd 2 [], y]) = true := wf_mk (by decide) (by decide) rfl (fun x hx => by
    rcases List.mem_cons.1 hx with rfl | hx
    · exact wf_tru
    · obtain rfl := List.mem_singleton.1 hx; exact hwy)
  have he : push ⟨false, 9, nm, [y]⟩ no = push (nd 7 [nd 2 [], y]) no := by
    rw [push_ever]
    have : push (nd 7 [nd 2 [], y]) no = nd (if no then other 7 else 7) ([nd 2 [], y].map fun x => push x no) := push_node false 7 [] _ no (by simp)
    rw [this]
    have h2 : push (nd 2 []) no = leafP 2 [] no := push_leaf false 2 [] [] no (.inr rfl)
    simp only [List.map_cons, List.map_nil, h2]
    rfl
  rw [he]
  obtain ⟨-, -, -, b, sa, sc, -, rfl, c0, c1, c2, hrow⟩ := isF_node.1 hF
  obtain ⟨g, o, u, -, rfl, -, hc, hyu⟩ := hrow 0 y rfl
  have HU := hide (fun W v => hU hwU no W v)
  have HYU := hide hyu
  obtain ⟨pu, rfl⟩ := hyu.ptr
  have c2' : w.cell? ⟨b, 2, none⟩ = some (.slice (some ⟨g, o, none⟩) 1 sc) := c2
  have hc' : w.cell? ⟨g, o, none⟩ = some (.pointer pu) := hc
  have HD := hide (drewB w)
  have HM0 := hide (made0_any (fun _ => True) 2 (by unfold I64; omega) w.drew (fun _ _ => trivial))
  have HR : Hid (∀ W e w', Below w.heap.size w W → MadeF (fun g => W.heap.size ≤ g) W (push (nd 7 [nd 2 [], y]) no) e w' → ∃ b, e = .returned (.pointer (some ⟨b, 0, none⟩)) ∧ Below w.heap.size w w' ∧ MadeF (fun g => w.heap.size ≤ g) w (push (nd 7 [nd 2 [], y]) no) (.returned (.pointer (some ⟨b, 0, none⟩))) w') := fun W e w' hW h => by
    obtain ⟨b, h1, h2, h3⟩ := h
    exact ⟨b, h1, then_ hW h3, b, rfl, h2.weak fun _ h => Nat.le_trans hW.size h, then_ hW h3⟩
  clear hF hrow hyu hy hwf c2 hc hU hwU he hwy c1
  go_enter Tryd.func28, Tryd.ntmps28
  go_wp2_with fail
  go_region_held3 (fun W => W.cell? ⟨b, 2, none⟩ = some (.slice (some ⟨g, o, none⟩) 1 sc) ∧ W.cell? ⟨g, o, none⟩ = some (.pointer pu)) ((first
     | exact ⟨c2', hc'⟩ | exact ⟨kept HD.out c2', kept HD.out hc'⟩ | exact ⟨kept HB1.out c2', kept HB1.out hc'⟩ | exact ⟨cell_alloc_keep _ _ _ _ (kept HB1.out c2'), cell_alloc_keep _ _ _ _ (kept HB1.out hc')⟩ | exact ⟨kept HB2.out c2', kept HB2.out hc'⟩ | exact ⟨kept HB3.out c2', kept HB3.out hc'⟩)) ((first
     | (go_at_call 48; (with_reducible refine HM0.out.mono ?_); rintro e w1 ⟨b1, rfl, hf1, hb1⟩; have HB1 : Hid (Below w.heap.size w w1) := then_ HD.out hb1; have HF1 := hide hf1; clear hb1 hf1)
     | (go_at_call 48; (with_reducible refine (made2_any (fun _ => True) 7 (by unfold I64; omega) (nd 2 []) y _ _ w1 HF1.out (HYU.out.below HB1.out) (fun _ _ => trivial)).mono ?_); rintro e w2 ⟨b2, rfl, hf2, hb2⟩; have HB2 : Hid (Below w.heap.size w w2) := then_ HB1.out hb2; have HF2 := hide hf2; clear hb2 hf2)
     | (go_at_call 28; (with_reducible refine (HU.out w2 _ HF2.out).mono ?_); rintro e w3 hres; obtain ⟨b3, rfl, hb3, hr3⟩ := HR.out w2 _ _ HB2.out hres; have HB3 := hide hb3; have HR3 := hide hr3; clear hres hb3 hr3)))
  go_wp2_with fail
  go_ret
  exact HR3.out
set_option maxHeartbeats 4000000 in
set_option maxRecDepth 100000 in
theorem pushed_always (nm : List UInt8) (y : Fm) (hy : PushOK y) : PushOK ⟨false, 10, nm, [y]⟩ := by
  intro hwf no w v hF
  have hwy := (wf_parts hwf).2 y (by simp)
  have hN : PushOK (nd 3 [nd 2 []]) := pushed_not [] _ (pushed_leaf 2 [] [] (.inr rfl))
  have hwN : wf (nd 3 [nd 2 []]) = true := wf_mk (by decide) (by decide) (by decide) (fun x hx => by obtain rfl := List.mem_singleton.1 hx; exact wf_tru)
  have hU : PushOK (nd 8 [nd 3 [nd 2 []], y]) := pushed_node 8 [] _ (by simp) (fun x hx => by
    rcases List.mem_cons.1 hx with rfl | hx
    · exact hN
    · obtain rfl := List.mem_singleton.1 hx; exact hy)
  have hwU : wf (nd 8 [nd 3 [nd 2 []], y]) = true := wf_mk (by decide) (by decide) rfl (fun x hx => by
    rcases List.mem_cons.1 hx with rfl | hx
    · exact hwN
    · obtain rfl := List.mem_singleton.1 hx; exact hwy)
  have he : push ⟨false, 10, nm, [y]⟩ no = push (nd 8 [nd 3 [nd 2 []], y]) no := by
    rw [push_always]
    have : push (nd 8 [nd 3 [nd 2 []], y]) no = nd (if no then other 8 else 8) ([nd 3 [nd 2 []], y].map fun x => push x no) := push_node false 8 [] _ no (by simp)
    rw [this]
    have h2 : push (nd 3 [nd 2 []]) no = leafP 2 [] (!no) := (push_not false [] (nd 2 []) no).trans (push_leaf false 2 [] [] (!no) (.inr rfl))
    simp only [List.map_cons, List.map_nil, h2]
    rfl
  rw [he]
  obtain ⟨-, -, -, b, sa, sc, -, rfl, c0, c1, c2, hrow⟩ := isF_node.1 hF
  obtain ⟨g, o, u, -, rfl, -, hc, hyu⟩ := hrow 0 y rfl
  have HU := hide (fun W v => hU hwU no W v)
  have HYU := hide hyu
  obtain ⟨pu, rfl⟩ := hyu.ptr
  have c2' : w.cell? ⟨b, 2, none⟩ = some (.slice (some ⟨g, o, none⟩) 1 sc) := c2
  have hc' : w.cell? ⟨g, o, none⟩ = some (.pointer pu) := hc
  have HD := hide (drewB w)
  have HM0 := hide (made0_any (fun _ => True) 2 (by unfold I64; omega) w.drew (fun _ _ => trivial))
  have HR : Hid (∀ W e w', Below w.heap.size w W → MadeF (fun g => W.heap.size ≤ g) W (push (nd 8 [nd 3 [nd 2 []], y]) no) e w' → ∃ b, e = .returned (.pointer (some ⟨b, 0, none⟩)) ∧ Below w.heap.size w w' ∧ MadeF (fun g => w.heap.size ≤ g) w (push (nd 8 [nd 3 [nd 2 []], y]) no) (.returned (.pointer (some ⟨b, 0, none⟩))) w') := fun W e w' hW h => by
    obtain ⟨b, h1, h2, h3⟩ := h
    exact ⟨b, h1, then_ hW h3, b, rfl, h2.weak fun _ h => Nat.le_trans hW.size h, then_ hW h3⟩
  clear hF hrow hyu hy hwf c2 hc hU hwU he hwy c1 hN hwN
  go_enter Tryd.func28, Tryd.ntmps28
  go_wp2_with fail
  go_region_held3 (fun W => W.cell? ⟨b, 2, none⟩ = some (.slice (some ⟨g, o, none⟩) 1 sc) ∧ W.cell? ⟨g, o, none⟩ = some (.pointer pu)) ((first
     | exact ⟨c2', hc'⟩ | exact ⟨kept HD.out c2', kept HD.out hc'⟩ | exact ⟨kept HB1.out c2', kept HB1.out hc'⟩ | exact ⟨cell_alloc_keep _ _ _ _ (kept HB1.out c2'), cell_alloc_keep _ _ _ _ (kept HB1.out hc')⟩ | exact ⟨kept HB4.out c2', kept HB4.out hc'⟩ | exact ⟨cell_alloc_keep _ _ _ _ (kept HB4.out c2'), cell_alloc_keep _ _ _ _ (kept HB4.out hc')⟩ | exact ⟨kept HB2.out c2', kept HB2.out hc'⟩ | exact ⟨kept HB3.out c2', kept HB3.out hc'⟩)) ((first
     | (go_at_call 48; (with_reducible refine HM0.out.mono ?_); rintro e w1 ⟨b1, rfl, hf1, hb1⟩; have HB1 : Hid (Below w.heap.size w w1) := then_ HD.out hb1; have HF1 := hide hf1; clear hb1 hf1)
     | (go_at_call 48; (with_reducible refine (made1_any (fun _ => True) 3 (by unfold I64; omega) (nd 2 []) _ w1 HF1.out (fun _ _ => trivial)).mono ?_); rintro e w4 ⟨b4, rfl, hf4, hb4⟩; have HB4 : Hid (Below w.heap.size w w4) := then_ HB1.out hb4; have HF4 := hide hf4; clear hb4 hf4)
     | (go_at_call 48; (with_reducible refine (made2_any (fun _ => True) 8 (by unfold I64; omega) (nd 3 [nd 2 []]) y _ _ w4 HF4.out (HYU.out.below HB4.out) (fun _ _ => trivial)).mono ?_); rintro e w2 ⟨b2, rfl, hf2, hb2⟩; have HB2 : Hid (Below w.heap.size w w2) := then_ HB4.out hb2; have HF2 := hide hf2; clear hb2 hf2)
     | (go_at_call 28; (with_reducible refine (HU.out w2 _ HF2.out).mono ?_); rintro e w3 hres; obtain ⟨b3, rfl, hb3, hr3⟩ := HR.out w2 _ _ HB2.out hres; have HB3 := hide hb3; have HR3 := hide hr3; clear hres hb3 hr3)))
  go_wp2_with fail
  go_ret
  exact HR3.out
theorem pushed_any (x : Fm) (hw : wf x = true) : PushOK x := by
  induction x using Fm.ind with
  | h z k nm l ih =>
    obtain ⟨⟨rfl, h1, h2, h3⟩, h4⟩ := wf_parts hw
    rcases kinds h1 h2 with rfl | rfl | rfl | hk | hk
    · obtain ⟨y, rfl⟩ := one_part (h3.trans (by decide))
      exact pushed_not nm y (ih y (by simp) (h4 y (by simp)))
    · obtain ⟨y, rfl⟩ := one_part (h3.trans (by decide))
      exact pushed_ever nm y (ih y (by simp) (h4 y (by simp)))
    · obtain ⟨y, rfl⟩ := one_part (h3.trans (by decide))
      exact pushed_always nm y (ih y (by simp) (h4 y (by simp)))
    · exact pushed_leaf k nm l hk
    · exact pushed_node k nm l hk (fun y hy => ih y hy (h4 y hy))
/-- what Push comes to -/
def Pushed (x : Fm) (w : World) (e : Ending) (w' : World) : Prop := Below w.heap.size w w' ∧ ((∃ k, right x = some k ∧ e = .returned (.tuple #[.pointer none, errV (some k)])) ∨ (right x = none ∧ ∃ b, e = .returned (.tuple #[.pointer (some ⟨b, 0, none⟩), .nilIface]) ∧ IsF (fun _ => True) w' (push x false) (.pointer (some ⟨b, 0, none⟩))))
theorem errNeqP (k : Nat) (w : World) : (binOp BinOp.neq 34 (.iface 30 (.int .i64 (k : Int))) .nilIface).run Tryd.prog w = .ok (.bool true) w := by kernel_rfl
theorem nilNeqP (w : World) : (binOp BinOp.neq 34 .nilIface .nilIface).run Tryd.prog w = .ok (.bool false) w := by kernel_rfl
set_option maxHeartbeats 2000000 in
set_option maxRecDepth 100000 in
theorem Push_any (x : Fm) (v : Value) (w : World) (hF : IsF (fun _ => True) w x v) (hP : PT w) : Calls Tryd.prog 13 #[v] w (Pushed x w) := by
  have q1 := errNeqP
  have q2 := nilNeqP
  have HR := hide (Right_any x v w hF hP)
  have HT := hide (fun (h : right x = none) W (hW : Below w.heap.size w W) => pushed_any x (ok_wf x 0 ((right_none x).1 h).1) (ok_wf x 0 ((right_none x).1 h).1) false W v (hF.below hW))
  obtain ⟨pv, rfl⟩ := hF.ptr
  have HH : Hid (∀ e w', Pushed x w e w' ↔ (Below w.heap.size w w' ∧ ((∃ k, right x = some k ∧ e = .returned (.tuple #[.pointer none, errV (some k)])) ∨ (right x = none ∧ ∃ b, e = .returned (.tuple #[.pointer (some ⟨b, 0, none⟩), .nilIface]) ∧ IsF (fun _ => True) w' (push x false) (.pointer (some ⟨b, 0, none⟩)))))) := fun _ _ => Iff.rfl
  clear hF hP
  cases hr : right x with
  | some k =>
    have HRN := hide hr
    rw [hr, show errV (some k) = .iface 30 (.int .i64 (k : Int)) from rfl] at HR
    clear hr HT
    go_enter Tryd.func13, Tryd.ntmps13
    go_wp2_with fail
    refine HR.out.mono ?_
    rintro e w1 ⟨rfl, hb1⟩
    have HB1 := hide hb1
    clear hb1 HR
    go_wp2_with fail
    go_ret2
    exact (HH.out _ _).2 ⟨HB1.out, .inl ⟨k, HRN.out, rfl⟩⟩
  | none =>
    have HC := hide (HT.out hr)
    have HRN := hide hr
    rw [hr, show errV none = .nilIface from rfl] at HR
    clear hr HT
    go_enter Tryd.func13, Tryd.ntmps13
    go_wp2_with fail
    refine HR.out.mono ?_
    rintro e w1 ⟨rfl, hb1⟩
    have HB1 := hide hb1
    have HC1 := hide (HC.out w1 hb1)
    clear hb1 HR HC
    go_wp2_with fail
    refine HC1.out.mono ?_
    rintro e w2 ⟨b2, rfl, hf2, hb2⟩
    have HB2 := hide (then_ HB1.out hb2)
    have HF2 := hide (hf2.weak (ok' := fun _ => True) fun _ _ => trivial)
    clear hb2 HC1 hf2
    go_wp2_with fail
    go_ret2
    exact (HH.out _ _).2 ⟨HB2.out, .inr ⟨HRN.out, b2, rfl, HF2.out⟩⟩
end Ls
end Go.Proofs.YtmdblokmplbpmaaDoor
