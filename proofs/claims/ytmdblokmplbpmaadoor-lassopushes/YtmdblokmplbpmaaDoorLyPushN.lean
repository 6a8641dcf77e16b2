/-
  The walk of the document's Push: it is push.
-/
import Derived.Test.YtmdblokmplbpmaaDoorLyPart
import Derived.Test.YtmdblokmplbpmaaDoorLsPushE
namespace Go.Proofs.YtmdblokmplbpmaaDoor
namespace Ls
open Go.RowKit
theorem isR_n1 {O : Nat → Prop} {W : World} {b g : Nat} {k : Int} {x : Fm} {v : Value} (hO : O b) (hg' : O g) (hk : I64 k) (hr : RowIs W b 53 [.int .i64 k, .string ⟨#[]⟩, .slice (some ⟨g, 0, none⟩) 1 1]) (hg : RowIs W g 26 [v]) (hx : IsF O W x v) : IsF O W (nd k [x]) (.pointer (some ⟨b, 0, none⟩)) :=
  isF_node.2 ⟨hk, by simp, by unfold maxLen; simp, b, _, _, hO, rfl, hr.cell 0 _ rfl, hr.cell 1 _ rfl, hr.cell 2 _ rfl, fun i y hy => by
    match i, hy with
    | 0, hy => cases hy; exact ⟨g, 0, v, hg', rfl, Nat.le_refl _, hg.cell 0 _ rfl, hx⟩
    | i + 1, hy => simp at hy⟩
set_option maxHeartbeats 2000000 in
theorem rnot_any (O : Nat → Prop) (x : Fm) (v : Value) (w : World) (h : IsF O w x v) : Calls Tryd.prog 31 #[v] w (RMade O w (nd 3 [x])) := by
  have HN : Hid (RMade O w (nd 3 [x]) (.returned (.pointer (some ⟨w.heap.size + 1, 0, none⟩))) ((w.alloc (.cells #[v] 26)).alloc (.cells #[.int .i64 3, .string ⟨#[]⟩, .slice (some ⟨w.heap.size, 0, none⟩) 1 1] 53))) := by
    have hb := then_ (newB w (.cells #[v] 26)) (newB _ (.cells #[.int .i64 3, .string ⟨#[]⟩, .slice (some ⟨w.heap.size, 0, none⟩) 1 1] 53))
    refine ⟨_, rfl, isR_n1 (.inr (by omega)) (.inr (Nat.le_refl _)) (by unfold I64; omega) ?_ ((RowIs.new w 26 [v]).alloc _) ((h.below hb).weak fun _ h => .inl h), hb⟩
    have := RowIs.new (w.alloc (.cells #[v] 26)) 53 [.int .i64 3, .string ⟨#[]⟩, .slice (some ⟨w.heap.size, 0, none⟩) 1 1]
    simpa using this
  obtain ⟨p, rfl⟩ := h.ptr
  clear h
  go_enter Tryd.func31, Tryd.ntmps31
  go_wp2_with fail
  go_ret
  exact HN.out
/-- what was made behind a step more -/
theorem RMade.step {O : Nat → Prop} {w wA : World} {y : Fm} {e : Ending} {w' : World} (hb : Below w.heap.size w wA) (h : RMade O wA y e w') : RMade O w y e w' := by
  obtain ⟨p, h1, h2, h3⟩ := h
  exact ⟨p, h1, h2.weak fun b hb' => hb'.imp id fun h => Nat.le_trans hb.size h, then_ hb h3⟩
theorem RMade.wide {O O' : Nat → Prop} {w : World} {y : Fm} {e : Ending} {w' : World} (hO : ∀ b, O' b → O b ∨ w.heap.size ≤ b) (h : RMade O' w y e w') : RMade O w y e w' := by
  obtain ⟨p, h1, h2, h3⟩ := h
  exact ⟨p, h1, h2.weak fun b hb' => hb'.elim (hO b) .inr, h3⟩
theorem RMade.val {O : Nat → Prop} {w : World} {y : Fm} {e : Ending} {w' : World} (h : RMade O w y e w') : ∃ p, e = .returned (.pointer p) ∧ RMade O w y (.returned (.pointer p)) w' := by
  obtain ⟨p, h1, h2⟩ := h
  exact ⟨p, h1, p, rfl, h2⟩
set_option maxHeartbeats 4000000 in
set_option maxRecDepth 100000 in
theorem rpush_leaf (k : Int) (nm : List UInt8) (l : List Fm) (hk : k = 1 ∨ k = 2) : RPushOK ⟨false, k, nm, l⟩ := by
  intro hwf no O w v hF
  rw [push_leaf _ _ _ _ _ hk]
  have hl0 : l = [] := by
    have := (wf_parts hwf).1.2.2.2
    refine List.length_eq_zero_iff.1 (this.trans ?_)
    rcases hk with rfl | rfl <;> rfl
  subst hl0
  obtain ⟨wA, hwA⟩ : ∃ wA, wA = w.alloc (.cells #[.bool no] 4) := ⟨_, rfl⟩
  have HBA : Hid (Below w.heap.size w wA) := by rw [hwA]; exact newB _ _
  have HFA := hide (hF.below HBA.out)
  have HM := hide (fun p (hp : v = .pointer p) => rnot_any O ⟨false, k, nm, []⟩ (.pointer p) wA (by rw [← hp]; exact HFA.out))
  have cno : wA.cell? ⟨w.heap.size, 0, none⟩ = some (.bool no) := by rw [hwA]; exact (RowIs.new w 4 [.bool no]).cell 0 _ rfl
  obtain ⟨k64, hnm, -, b, sa, sc, -, rfl, c0, c1, c2, -⟩ := isF_node.1 hF
  have d0 := kept HBA.out c0
  have HWA := hide hwA
  have HR0 : Hid (RMade O w ⟨false, k, nm, []⟩ (.returned (.pointer (some ⟨b, 0, none⟩))) wA) := ⟨_, rfl, HFA.out.weak fun _ h => .inl h, HBA.out⟩
  have HM := hide (HM.out _ rfl)
  clear hF hwf hwA c0 c1 c2 k64
  cases no with
  | false =>
    obtain ⟨wY, hwY⟩ : ∃ wY, wY = wA.alloc (.cells #[.int .i64 2, .string ⟨#[]⟩, .slice none 0 0] 53) := ⟨_, rfl⟩
    have HBY : Hid (Below wA.heap.size wA wY) := by rw [hwY]; exact newB _ _
    have e0 := kept HBY.out d0
    have HWY := hide hwY
    have HR : Hid (RMade O w (leafP k nm false) (.returned (.pointer (some ⟨b, 0, none⟩))) wY) := ⟨_, rfl, (HFA.out.below HBY.out).weak fun _ h => .inl h, then_ HBA.out HBY.out⟩
    clear hwY
    rcases hk with rfl | rfl
    all_goals
      go_enter Tryd.func16, Tryd.ntmps16
      go_upto_region 1 with fail
      rw [← HWA.out]
      go_upto_region 5 with fail
      rw [← HWY.out]
      go_wp2_with fail
      go_ret
      exact HR.out
  | true =>
    have HLE : Hid (leafP k nm true = nd 3 [⟨false, k, nm, []⟩]) := rfl
    rcases hk with rfl | rfl
    all_goals
      go_enter Tryd.func16, Tryd.ntmps16
      go_upto_region 1 with fail
      rw [← HWA.out]
      go_wp2_with fail
      refine HM.out.mono ?_
      rintro e w1 hres
      obtain ⟨p1, rfl, hr1⟩ := hres.val
      have HR1 := hide (RMade.step HBA.out hr1)
      clear hr1 hres
      go_wp2_with fail
      go_ret
      exact HR1.out
set_option maxHeartbeats 4000000 in
set_option maxRecDepth 100000 in
theorem rpush_not (nm : List UInt8) (y : Fm) (hy : RPushOK y) : RPushOK ⟨false, 3, nm, [y]⟩ := by
  intro hwf no O w v hF
  rw [push_not]
  obtain ⟨wA, hwA⟩ : ∃ wA, wA = w.alloc (.cells #[.bool no] 4) := ⟨_, rfl⟩
  have HBA : Hid (Below w.heap.size w wA) := by rw [hwA]; exact newB _ _
  obtain ⟨wY, hwY⟩ : ∃ wY, wY = wA.alloc (.cells #[.int .i64 2, .string ⟨#[]⟩, .slice none 0 0] 53) := ⟨_, rfl⟩
  have HBY : Hid (Below wA.heap.size wA wY) := by rw [hwY]; exact newB _ _
  have HBB := hide (then_ HBA.out HBY.out)
  have cno : wA.cell? ⟨w.heap.size, 0, none⟩ = some (.bool no) := by rw [hwA]; exact (RowIs.new w 4 [.bool no]).cell 0 _ rfl
  have dno := kept HBY.out cno
  obtain ⟨k64, hnm, -, b, sa, sc, -, rfl, c0, c1, c2, hrow⟩ := isF_node.1 hF
  obtain ⟨g, o, u, -, rfl, -, hc, hyu⟩ := hrow 0 y rfl
  have a0 := kept HBA.out c0
  have d0 := kept HBB.out c0
  have d2 : wY.cell? ⟨b, 2, none⟩ = some (.slice (some ⟨g, o, none⟩) 1 sc) := kept HBB.out c2
  have dc : wY.cell? ⟨g, o, none⟩ = some u := kept HBB.out hc
  have HC := hide (hy ((wf_parts hwf).2 y (by simp)) (!no) O wY.drew u ((hyu.below HBB.out).below (drewB wY)))
  obtain ⟨pu, rfl⟩ := hyu.ptr
  have HWA := hide hwA
  have HWY := hide hwY
  have HD := hide (then_ HBB.out (drewB wY))
  clear hF hwf hwA hwY c0 c1 c2 hrow hyu hy k64 hc
  generalize push y (!no) = py at *
  obtain ⟨nt, hnt⟩ : ∃ nt, nt = !no := ⟨_, rfl⟩
  rw [← hnt] at HC
  have hcs : (no = false ∧ nt = true) ∨ (no = true ∧ nt = false) := by cases no <;> simp [hnt]
  clear hnt
  rcases hcs with ⟨rfl, rfl⟩ | ⟨rfl, rfl⟩
  all_goals
    go_enter Tryd.func16, Tryd.ntmps16
    go_upto_region 1 with fail
    rw [← HWA.out]
    go_upto_region 5 with fail
    rw [← HWY.out]
    go_wp2_with fail
    go_region_with (go_at_call 16; (with_reducible refine HC.out.mono ?_); rintro e w1 hres; obtain ⟨p1, rfl, hr1⟩ := hres.val; have HR1 := hide (RMade.step HD.out hr1); clear hr1 hres)
    all_goals
      go_wp2_with fail
      go_ret
      exact HR1.out
theorem rpush_tru : RPushOK tru := rpush_leaf 2 [] [] (.inr rfl)
theorem push_tru (no : Bool) : push tru no = leafP 2 [] no := push_leaf false 2 [] [] no (.inr rfl)
theorem wf_tr : wf tru = true := wn_wf _ wn_tru
theorem wf_ntru : wf (nd 3 [tru]) = true := wf_mk (by decide) (by decide) rfl fun y hy => by obtain rfl := List.mem_singleton.1 hy; exact wf_tr
set_option maxHeartbeats 4000000 in
set_option maxRecDepth 100000 in
theorem rpush_ever (nm : List UInt8) (y : Fm) (hy : RPushOK y) : RPushOK ⟨false, 9, nm, [y]⟩ := by
  intro hwf no O w v hF
  have hwy := (wf_parts hwf).2 y (by simp)
  have e0 : push ⟨false, 9, nm, [y]⟩ no = nd (if no then other 7 else 7) ([tru, y].map fun x => push x no) := by
    rw [push_ever, List.map_cons, List.map_cons, List.map_nil, push_tru]
    rfl
  rw [e0]
  obtain ⟨wA, hwA⟩ : ∃ wA, wA = w.alloc (.cells #[.bool no] 4) := ⟨_, rfl⟩
  have HBA : Hid (Below w.heap.size w wA) := by rw [hwA]; exact newB _ _
  obtain ⟨wY, hwY⟩ : ∃ wY, wY = wA.alloc (.cells #[.int .i64 2, .string ⟨#[]⟩, .slice none 0 0] 53) := ⟨_, rfl⟩
  have HBY : Hid (Below wA.heap.size wA wY) := by rw [hwY]; exact newB _ _
  have HRY : Hid (RowIs wY wA.heap.size 53 [.int .i64 2, .string ⟨#[]⟩, .slice none 0 0]) := by rw [hwY]; exact RowIs.new _ _ _
  have HBB := hide (then_ HBA.out HBY.out)
  have cno : wA.cell? ⟨w.heap.size, 0, none⟩ = some (.bool no) := by rw [hwA]; exact (RowIs.new w 4 [.bool no]).cell 0 _ rfl
  have dno := kept HBY.out cno
  obtain ⟨k64, hnm, -, b, sa, sc, -, rfl, c0, c1, c2, hrow⟩ := isF_node.1 hF
  obtain ⟨g, o, u, -, rfl, -, hc, hyu⟩ := hrow 0 y rfl
  have a0 := kept HBA.out c0
  have d0 := kept HBB.out c0
  have d2 : wY.cell? ⟨b, 2, none⟩ = some (.slice (some ⟨g, o, none⟩) 1 sc) := kept HBB.out c2
  have dc : wY.cell? ⟨g, o, none⟩ = some u := kept HBB.out hc
  obtain ⟨wZ, hwZ⟩ : ∃ wZ, wZ = wY.alloc (.cells #[.pointer (some ⟨wA.heap.size, 0, none⟩), u] 26) := ⟨_, rfl⟩
  have HBZ : Hid (Below wY.heap.size wY wZ) := by rw [hwZ]; exact newB _ _
  have HBW := hide (then_ HBB.out HBZ.out)
  have hrz : RowIs wZ wY.heap.size 26 [.pointer (some ⟨wA.heap.size, 0, none⟩), u] := by rw [hwZ]; exact RowIs.new _ _ _
  have hyes : IsF (fun b => O b ∨ w.heap.size ≤ b) wZ tru (.pointer (some ⟨wA.heap.size, 0, none⟩)) := by
    have hr := HRY.out.below HBZ.out
    exact isF_node.2 ⟨by unfold I64; omega, by simp, by simp, _, none, 0, .inr HBA.out.size, rfl, hr.cell 0 _ rfl, hr.cell 1 _ rfl, hr.cell 2 _ rfl, fun i x hx => by simp at hx⟩
  have hrow2 : FRow (fun b => O b ∨ w.heap.size ≤ b) wZ (some ⟨wY.heap.size, 0, none⟩) 2 [tru, y] := by
    refine ⟨rfl, fun i x hx => ?_⟩
    match i, hx with
    | 0, hx => cases hx; exact ⟨_, 0, _, rfl, hrz.cell 0 _ rfl, hyes⟩
    | 1, hx => cases hx; exact ⟨_, 0, _, rfl, hrz.cell 1 _ rfl, (hyu.below HBW.out).weak fun _ h => .inl h⟩
    | i + 2, hx => simp at hx
  have HC := hide (part_any 7 (by omega) [tru, y] (fun x hx => by
    rcases List.mem_cons.1 hx with rfl | hx
    · exact ⟨wf_tr, rpush_tru⟩
    · obtain rfl := List.mem_singleton.1 hx; exact ⟨hwy, hy⟩) (by simp) no (fun b => O b ∨ w.heap.size ≤ b) wZ w.heap.size (some ⟨wY.heap.size, 0, none⟩) 2 (kept HBZ.out dno) hrow2)
  have HRES : Hid (∀ e w', RMade (fun b => O b ∨ w.heap.size ≤ b) wZ (nd (if no then other 7 else 7) ([tru, y].map fun x => push x no)) e w' → RMade O w (nd (if no then other 7 else 7) ([tru, y].map fun x => push x no)) e w') := fun e w' h => RMade.wide (fun _ h => h) (RMade.step HBW.out h)
  obtain ⟨pu, rfl⟩ := hyu.ptr
  have HWA := hide hwA
  have HWY := hide hwY
  have HWZ := hide hwZ
  have hs1 : [tru, y].length = 2 := rfl
  rw [hs1] at HC
  generalize nd (if no then other 7 else 7) ([tru, y].map fun x => push x no) = py at *
  clear hF hwf hwA hwY hwZ c0 c1 c2 hrow hrow2 hyes hrz hyu hy k64 hc e0 hwy hs1
  cases no
  all_goals
    go_enter Tryd.func16, Tryd.ntmps16
    go_upto_region 1 with fail
    rw [← HWA.out]
    go_upto_region 5 with fail
    rw [← HWY.out]
    go_wp2_with fail
    rw [← HWZ.out]
    refine HC.out.mono ?_
    rintro e w1 hres
    obtain ⟨p1, rfl, hr1⟩ := (HRES.out _ _ hres).val
    have HR1 := hide hr1
    clear hr1 hres
    go_wp2_with fail
    go_ret
    exact HR1.out
set_option maxHeartbeats 8000000 in
set_option maxRecDepth 100000 in
theorem rpush_node (k : Int) (nm : List UInt8) (l : List Fm) (hk : k = 4 ∨ k = 5 ∨ k = 6 ∨ k = 7 ∨ k = 8) (hl : ∀ x, x ∈ l → RPushOK x) : RPushOK ⟨false, k, nm, l⟩ := by
  intro hwf no O w v hF
  obtain ⟨⟨_, hk1, hk10, hlp⟩, hwl⟩ := wf_parts hwf
  have hl2 : l.length ≤ 2 := by rw [hlp]; exact partsOf_le k
  rw [push_node _ _ _ _ _ hk]
  obtain ⟨wA, hwA⟩ : ∃ wA, wA = w.alloc (.cells #[.bool no] 4) := ⟨_, rfl⟩
  have HBA : Hid (Below w.heap.size w wA) := by rw [hwA]; exact newB _ _
  obtain ⟨wY, hwY⟩ : ∃ wY, wY = wA.alloc (.cells #[.int .i64 2, .string ⟨#[]⟩, .slice none 0 0] 53) := ⟨_, rfl⟩
  have HBY : Hid (Below wA.heap.size wA wY) := by rw [hwY]; exact newB _ _
  have HBB := hide (then_ HBA.out HBY.out)
  have cno : wA.cell? ⟨w.heap.size, 0, none⟩ = some (.bool no) := by rw [hwA]; exact (RowIs.new w 4 [.bool no]).cell 0 _ rfl
  have dno := kept HBY.out cno
  obtain ⟨k64, hnm, -, b, sa, sc, -, rfl, c0, c1, c2, hrow⟩ := isF_node.1 hF
  have a0 := kept HBA.out c0
  have d0 := kept HBB.out c0
  have d2 := kept HBB.out c2
  have hbd := then_ HBB.out (drewB wY)
  have hrow2 : FRow O wY.drew sa l.length l := by
    refine ⟨rfl, fun i x hx => ?_⟩
    obtain ⟨g, o, u, -, e1, -, e3, e4⟩ := hrow i x hx
    exact ⟨g, o, u, e1, kept hbd e3, e4.below hbd⟩
  have HC := hide (part_any k hk l (fun x hx => ⟨hwl x hx, hl x hx⟩) hl2 no O wY.drew w.heap.size sa sc (kept (drewB wY) dno) hrow2)
  have HBD := hide hbd
  have HWA := hide hwA
  have HWY := hide hwY
  generalize nd (if no then other k else k) (l.map fun x => push x no) = py at *
  clear hF hwf hwA hwY c0 c1 c2 hrow hrow2 hl k64 hlp hwl hbd
  rcases hk with rfl | rfl | rfl | rfl | rfl <;> cases no
  all_goals
    go_enter Tryd.func16, Tryd.ntmps16
    go_upto_region 1 with fail
    rw [← HWA.out]
    go_upto_region 5 with fail
    rw [← HWY.out]
    go_wp2_with fail
    go_region_with (go_at_call 32; (with_reducible refine HC.out.mono ?_); rintro e w1 hres; obtain ⟨p1, rfl, hr1⟩ := hres.val; have HR1 := hide (RMade.step HBD.out hr1); clear hr1 hres)
    all_goals
      go_wp2_with fail
      go_ret
      exact HR1.out
end Ls
end Go.Proofs.YtmdblokmplbpmaaDoor
