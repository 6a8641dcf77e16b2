/-
  The walk of the document's Push, at formulas of 'at each time'.
-/
import Derived.Test.YtmdblokmplbpmaaDoorLyPushN
namespace Go.Proofs.YtmdblokmplbpmaaDoor
namespace Ls
open Go.RowKit
set_option maxHeartbeats 8000000 in
set_option maxRecDepth 100000 in
theorem rpush_always (nm : List UInt8) (y : Fm) (hy : RPushOK y) : RPushOK ⟨false, 10, nm, [y]⟩ := by
  intro hwf no O w v hF
  have hwy := (wf_parts hwf).2 y (by simp)
  have e0 : push ⟨false, 10, nm, [y]⟩ no = nd (if no then other 8 else 8) ([nd 3 [tru], y].map fun x => push x no) := by
    have e1 : push (nd 3 [tru]) no = leafP 2 [] (!no) := (push_not false [] tru no).trans (push_tru (!no))
    rw [push_always, List.map_cons, List.map_cons, List.map_nil, e1]
    rfl
  rw [e0]
  obtain ⟨wA, hwA⟩ : ∃ wA, wA = w.alloc (.cells #[.bool no] 4) := ⟨_, rfl⟩
  have HBA : Hid (Below w.heap.size w wA) := by rw [hwA]; exact newB _ _
  obtain ⟨wY, hwY⟩ : ∃ wY, wY = wA.alloc (.cells #[.int .i64 2, .string ⟨#[]⟩, .slice none 0 0] 53) := ⟨_, rfl⟩
  have HBY : Hid (Below wA.heap.size wA wY) := by rw [hwY]; exact newB _ _
  have HRY : Hid (RowIs wY wA.heap.size 53 [.int .i64 2, .string ⟨#[]⟩, .slice none 0 0]) := by rw [hwY]; exact RowIs.new _ _ _
  have HBB := hide (then_ HBA.out HBY.out)
  have cno : wA.cell? ⟨w.heap.size, 0, none⟩ = some (.bool no) := by rw [hwA]; exact (RowIs.new w 4 [.bool no]).cell 0 _ rfl
  have dno := kept HBY.out cno
  obtain ⟨k64, hnm, -, b, sa, sc, -, rfl, c0, c1, c2, hrow⟩ := isF_node.1 hF
  obtain ⟨g, o, u, -, rfl, -, hc, hyu⟩ := hrow 0 y rfl
  have a0 := kept HBA.out c0
  have d0 := kept HBB.out c0
  have d2 : wY.cell? ⟨b, 2, none⟩ = some (.slice (some ⟨g, o, none⟩) 1 sc) := kept HBB.out c2
  have dc : wY.cell? ⟨g, o, none⟩ = some u := kept HBB.out hc
  have HYU := hide (hyu.below HBB.out)
  have hyes : IsF (fun b => O b ∨ w.heap.size ≤ b) wY.drew tru (.pointer (some ⟨wA.heap.size, 0, none⟩)) := by
    have hr := HRY.out.below (drewB wY)
    exact isF_node.2 ⟨by unfold I64; omega, by simp, by simp, _, none, 0, .inr HBA.out.size, rfl, hr.cell 0 _ rfl, hr.cell 1 _ rfl, hr.cell 2 _ rfl, fun i x hx => by simp at hx⟩
  have HN := hide (rnot_any (fun b => O b ∨ w.heap.size ≤ b) tru _ wY.drew hyes)
  have HD := hide (drewB wY)
  have HC : Hid (∀ (W : World) (p : Option Addr), Below wY.heap.size wY W → IsF (fun b => O b ∨ w.heap.size ≤ b) W (nd 3 [tru]) (.pointer p) → Calls Tryd.prog 32 #[.int .i64 8, .slice (some ⟨W.heap.size, 0, none⟩) 2 2, .pointer (some ⟨w.heap.size, 0, none⟩)] (W.alloc (.cells #[.pointer p, u] 26)) fun e w' => ∃ q, e = .returned (.pointer q) ∧ RMade O w (nd (if no then other 8 else 8) ([nd 3 [tru], y].map fun x => push x no)) (.returned (.pointer q)) w' ∧ Below wY.heap.size wY w') := fun W p hW hp => by
    obtain ⟨wZ, hwZ⟩ : ∃ wZ, wZ = W.alloc (.cells #[.pointer p, u] 26) := ⟨_, rfl⟩
    have hbz : Below W.heap.size W wZ := by rw [hwZ]; exact newB _ _
    have hbw := then_ (then_ HBB.out hW) hbz
    have hrz : RowIs wZ W.heap.size 26 [.pointer p, u] := by rw [hwZ]; exact RowIs.new _ _ _
    have hrow2 : FRow (fun b => O b ∨ w.heap.size ≤ b) wZ (some ⟨W.heap.size, 0, none⟩) 2 [nd 3 [tru], y] := by
      refine ⟨rfl, fun i x hx => ?_⟩
      match i, hx with
      | 0, hx => cases hx; exact ⟨_, 0, _, rfl, hrz.cell 0 _ rfl, hp.below hbz⟩
      | 1, hx => cases hx; exact ⟨_, 0, _, rfl, hrz.cell 1 _ rfl, ((HYU.out.below hW).below hbz).weak fun _ h => .inl h⟩
      | i + 2, hx => simp at hx
    rw [← hwZ]
    refine (part_any 8 (by omega) [nd 3 [tru], y] (fun x hx => by
      rcases List.mem_cons.1 hx with rfl | hx
      · exact ⟨wf_ntru, rpush_not [] tru rpush_tru⟩
      · obtain rfl := List.mem_singleton.1 hx; exact ⟨hwy, hy⟩) (by simp) no (fun b => O b ∨ w.heap.size ≤ b) wZ w.heap.size (some ⟨W.heap.size, 0, none⟩) 2 (kept hbz (kept hW dno)) hrow2).mono fun e w' h => ?_
    have hq := h
    obtain ⟨q, e1, _, hb3⟩ := hq
    obtain ⟨q', e2, hr⟩ := (RMade.wide (fun _ h => h) (RMade.step hbw h)).val
    exact ⟨q', e2, hr, then_ (then_ hW hbz) hb3⟩
  obtain ⟨pu, rfl⟩ := hyu.ptr
  have HWA := hide hwA
  have HWY := hide hwY
  have HKC : Hid (∀ W, Below wY.heap.size wY W → W.cell? ⟨b, 2, none⟩ = some (.slice (some ⟨g, o, none⟩) 1 sc) ∧ W.cell? ⟨g, o, none⟩ = some (.pointer pu)) := fun W hW => ⟨kept hW d2, kept hW dc⟩
  generalize nd (if no then other 8 else 8) ([nd 3 [tru], y].map fun x => push x no) = py at *
  clear hF hwf hwA hwY c0 c1 c2 hrow hyes hyu hy k64 hc e0 hwy
  cases no
  all_goals
    go_enter Tryd.func16, Tryd.ntmps16
    go_upto_region 1 with fail
    rw [← HWA.out]
    go_upto_region 5 with fail
    rw [← HWY.out]
    go_wp2_with fail
    go_region_held3 (fun W => W.cell? ⟨b, 2, none⟩ = some (.slice (some ⟨g, o, none⟩) 1 sc) ∧ W.cell? ⟨g, o, none⟩ = some (.pointer pu)) ((first
      | exact ⟨d2, dc⟩ | exact HKC.out _ HD.out | exact HKC.out _ HB1.out | exact HKC.out _ (then_ HB1.out (newB _ _)) | exact HKC.out _ HB2.out)) ((first
      | (go_at_call 31; (with_reducible refine HN.out.mono ?_); rintro e w1 ⟨p1, rfl, hf1, hb1⟩; have HB1 : Hid (Below wY.heap.size wY w1) := then_ HD.out hb1; have HF1 := hide (hf1.weak (ok' := fun b => O b ∨ w.heap.size ≤ b) fun b hb => hb.elim id fun h => .inr (Nat.le_trans (Nat.le_trans HBB.out.size HD.out.size) h)); have HC1 := hide (HC.out w1 p1 HB1.out HF1.out); clear hb1 hf1)
      | (go_at_call 32; (with_reducible refine HC1.out.mono ?_); rintro e w2 ⟨p2, rfl, hr2, hb2⟩; have HR2 := hide hr2; have HB2 := hide hb2; clear hr2 hb2)))
    all_goals
      go_wp2_with fail
      go_ret
      exact HR2.out
theorem rpush_any (x : Fm) : RPushOK x := by
  induction x using Fm.ind with
  | h z k nm l ih =>
    intro h
    have h' := h
    obtain ⟨⟨rfl, h1, h2, h3⟩, h4⟩ := wf_parts h
    revert h'
    rcases kinds h1 h2 with rfl | rfl | rfl | hk | hk
    · obtain ⟨y, rfl⟩ := one_part (h3.trans (by decide))
      exact rpush_not nm y (ih y (by simp))
    · obtain ⟨y, rfl⟩ := one_part (h3.trans (by decide))
      exact rpush_ever nm y (ih y (by simp))
    · obtain ⟨y, rfl⟩ := one_part (h3.trans (by decide))
      exact rpush_always nm y (ih y (by simp))
    · exact rpush_leaf k nm l hk
    · exact rpush_node k nm l hk (fun y hy => ih y hy)
end Ls
end Go.Proofs.YtmdblokmplbpmaaDoor
