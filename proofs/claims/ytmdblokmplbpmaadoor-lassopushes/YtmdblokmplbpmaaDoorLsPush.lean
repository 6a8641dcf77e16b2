/-
  The walks of package lasso's otherSide, made, pushed and Push.
-/
import Derived.Test.YtmdblokmplbpmaaDoorLsForm
import Derived.Test.YtmdblokmplbpmaaDoorLsPushM
namespace Go.Proofs.YtmdblokmplbpmaaDoor
namespace Ls
open Go.RowKit
set_option maxHeartbeats 2000000 in
theorem otherSide_any (k : Int) (hk : k = 4 ∨ k = 5 ∨ k = 6 ∨ k = 7 ∨ k = 8) (w : World) : Calls Tryd.prog 49 #[.int .i64 k] w fun e w' => e = .returned (.int .i64 (other k)) ∧ w' = w := by
  rcases hk with rfl | rfl | rfl | rfl | rfl
  all_goals
    go_enter Tryd.func49, Tryd.ntmps49
    go_wp2_with fail
    go_ret
    exact ⟨rfl, rfl⟩
theorem isF_n0 {O : Nat → Prop} {W : World} {b : Nat} {k : Int} {nm : List UInt8} (hO : O b) (hk : I64 k) (hn : nm.length ≤ maxLen) (hr : RowIs W b 74 [.int .i64 k, .string ⟨nm.toArray⟩, .slice none 0 0]) : IsF O W ⟨false, k, nm, []⟩ (.pointer (some ⟨b, 0, none⟩)) :=
  isF_node.2 ⟨hk, hn, by simp, b, _, _, hO, rfl, hr.cell 0 _ rfl, hr.cell 1 _ rfl, hr.cell 2 _ rfl, fun i y hy => by simp at hy⟩
theorem isF_n1 {O : Nat → Prop} {W : World} {b g : Nat} {k : Int} {x : Fm} {v : Value} (hO : O b) (hg' : O g) (hk : I64 k) (hr : RowIs W b 74 [.int .i64 k, .string ⟨#[]⟩, .slice (some ⟨g, 0, none⟩) 1 1]) (hg : RowIs W g 40 [v]) (hx : IsF O W x v) : IsF O W (nd k [x]) (.pointer (some ⟨b, 0, none⟩)) :=
  isF_node.2 ⟨hk, by simp, by unfold maxLen; simp, b, _, _, hO, rfl, hr.cell 0 _ rfl, hr.cell 1 _ rfl, hr.cell 2 _ rfl, fun i y hy => by
    match i, hy with
    | 0, hy => cases hy; exact ⟨g, 0, v, hg', rfl, Nat.le_refl _, hg.cell 0 _ rfl, hx⟩
    | i + 1, hy => simp at hy⟩
theorem isF_n2 {O : Nat → Prop} {W : World} {b g : Nat} {k : Int} {x y : Fm} {v u : Value} (hO : O b) (hg' : O g) (hk : I64 k) (hr : RowIs W b 74 [.int .i64 k, .string ⟨#[]⟩, .slice (some ⟨g, 0, none⟩) 2 2]) (hg : RowIs W g 40 [v, u]) (hx : IsF O W x v) (hy : IsF O W y u) : IsF O W (nd k [x, y]) (.pointer (some ⟨b, 0, none⟩)) :=
  isF_node.2 ⟨hk, by simp, by unfold maxLen; simp, b, _, _, hO, rfl, hr.cell 0 _ rfl, hr.cell 1 _ rfl, hr.cell 2 _ rfl, fun i z hz => by
    match i, hz with
    | 0, hz => cases hz; exact ⟨g, 0, v, hg', rfl, Nat.le_refl _, hg.cell 0 _ rfl, hx⟩
    | 1, hz => cases hz; exact ⟨g, 0, u, hg', rfl, Nat.le_refl _, hg.cell 1 _ rfl, hy⟩
    | i + 2, hz => simp at hz⟩
/-- what made comes to -/
def MadeF (O : Nat → Prop) (W : World) (x : Fm) (e : Ending) (w' : World) : Prop := ∃ b, e = .returned (.pointer (some ⟨b, 0, none⟩)) ∧ IsF O w' x (.pointer (some ⟨b, 0, none⟩)) ∧ Below W.heap.size W w'
set_option maxHeartbeats 2000000 in
theorem made0_any (O : Nat → Prop) (k : Int) (hk : I64 k) (W : World) (hO : ∀ b, W.heap.size ≤ b → O b) :
    Calls Tryd.prog 48 #[.int .i64 k, .slice none 0 0] W (MadeF O W (nd k [])) := by
  have HN : Hid (MadeF O W (nd k []) (.returned (.pointer (some ⟨W.heap.size, 0, none⟩))) (W.alloc (.cells #[.int .i64 k, .string ⟨#[]⟩, .slice none 0 0] 74))) :=
    ⟨_, rfl, isF_n0 (hO _ (Nat.le_refl _)) hk (by simp) (RowIs.new W 74 [.int .i64 k, .string ⟨#[]⟩, .slice none 0 0]), newB _ _⟩
  clear hk hO
  go_enter Tryd.func48, Tryd.ntmps48
  go_wp2_with fail
  go_ret
  exact HN.out
set_option maxHeartbeats 2000000 in
theorem made1_any (O : Nat → Prop) (k : Int) (hk : I64 k) (x : Fm) (v : Value) (W : World) (h : IsF O W x v) (hO : ∀ b, W.heap.size ≤ b → O b) :
    Calls Tryd.prog 48 #[.int .i64 k, .slice (some ⟨W.heap.size, 0, none⟩) 1 1] (W.alloc (.cells #[v] 40)) (MadeF O W (nd k [x])) := by
  have HN : Hid (MadeF O W (nd k [x]) (.returned (.pointer (some ⟨W.heap.size + 1, 0, none⟩))) ((W.alloc (.cells #[v] 40)).alloc (.cells #[.int .i64 k, .string ⟨#[]⟩, .slice (some ⟨W.heap.size, 0, none⟩) 1 1] 74))) := by
    have hb := then_ (newB W (.cells #[v] 40)) (newB _ (.cells #[.int .i64 k, .string ⟨#[]⟩, .slice (some ⟨W.heap.size, 0, none⟩) 1 1] 74))
    refine ⟨_, rfl, isF_n1 (hO _ (by omega)) (hO _ (Nat.le_refl _)) hk ?_ ((RowIs.new W 40 [v]).alloc _) (h.below hb), hb⟩
    have := RowIs.new (W.alloc (.cells #[v] 40)) 74 [.int .i64 k, .string ⟨#[]⟩, .slice (some ⟨W.heap.size, 0, none⟩) 1 1]
    simpa using this
  clear h hk hO
  go_enter Tryd.func48, Tryd.ntmps48
  go_wp2_with fail
  go_ret
  exact HN.out
set_option maxHeartbeats 2000000 in
theorem made2_any (O : Nat → Prop) (k : Int) (hk : I64 k) (x y : Fm) (v u : Value) (W : World) (h : IsF O W x v) (h2 : IsF O W y u) (hO : ∀ b, W.heap.size ≤ b → O b) :
    Calls Tryd.prog 48 #[.int .i64 k, .slice (some ⟨W.heap.size, 0, none⟩) 2 2] (W.alloc (.cells #[v, u] 40)) (MadeF O W (nd k [x, y])) := by
  have HN : Hid (MadeF O W (nd k [x, y]) (.returned (.pointer (some ⟨W.heap.size + 1, 0, none⟩))) ((W.alloc (.cells #[v, u] 40)).alloc (.cells #[.int .i64 k, .string ⟨#[]⟩, .slice (some ⟨W.heap.size, 0, none⟩) 2 2] 74))) := by
    have hb := then_ (newB W (.cells #[v, u] 40)) (newB _ (.cells #[.int .i64 k, .string ⟨#[]⟩, .slice (some ⟨W.heap.size, 0, none⟩) 2 2] 74))
    refine ⟨_, rfl, isF_n2 (hO _ (by omega)) (hO _ (Nat.le_refl _)) hk ?_ ((RowIs.new W 40 [v, u]).alloc _) (h.below hb) (h2.below hb), hb⟩
    have := RowIs.new (W.alloc (.cells #[v, u] 40)) 74 [.int .i64 k, .string ⟨#[]⟩, .slice (some ⟨W.heap.size, 0, none⟩) 2 2]
    simpa using this
  clear h hk h2 hO
  go_enter Tryd.func48, Tryd.ntmps48
  go_wp2_with fail
  go_ret
  exact HN.out
/-- pushed, at this formula -/
def PushOK (x : Fm) : Prop := wf x = true → ∀ (no : Bool) (w : World) (v : Value), IsF (fun _ => True) w x v → Calls Tryd.prog 28 #[v, .bool no] w (MadeF (fun g => w.heap.size ≤ g) w (push x no))
set_option maxHeartbeats 4000000 in
set_option maxRecDepth 100000 in
theorem pushed_leaf (k : Int) (nm : List UInt8) (l : List Fm) (hk : k = 1 ∨ k = 2) : PushOK ⟨false, k, nm, l⟩ := by
  intro _ no w v hF
  rw [push_leaf _ _ _ _ _ hk]
  obtain ⟨k64, hnm, -, b, sa, sc, -, rfl, c0, c1, c2, -⟩ := isF_node.1 hF
  clear hF
  obtain ⟨wA, hwA⟩ : ∃ wA, wA = (w.alloc (.cells #[.int .i64 k, .string ⟨nm.toArray⟩, .slice none 0 0] 74)).drew := ⟨_, rfl⟩
  have HBA : Hid (Below w.heap.size w wA) := by rw [hwA]; exact then_ (newB _ _) (drewB _)
  have HL : Hid (IsF (fun g => w.heap.size ≤ g) wA ⟨false, k, nm, []⟩ (.pointer (some ⟨w.heap.size, 0, none⟩))) := by rw [hwA]; exact (isF_n0 (Nat.le_refl _) k64 hnm (RowIs.new w 74 [.int .i64 k, .string ⟨nm.toArray⟩, .slice none 0 0])).below (drewB _)
  have HM := hide (made1_any (fun g => w.heap.size ≤ g) 3 (by unfold I64; omega) _ _ wA HL.out (fun b hb => Nat.le_trans HBA.out.size hb))
  have HWA := hide hwA
  clear hwA k64
  cases no with
  | false =>
    have HR : Hid (MadeF (fun g => w.heap.size ≤ g) w (leafP k nm false) (.returned (.pointer (some ⟨w.heap.size, 0, none⟩))) wA) := ⟨_, rfl, HL.out, HBA.out⟩
    rcases hk with rfl | rfl
    all_goals
      go_enter Tryd.func28, Tryd.ntmps28
      go_wp2_with fail
      go_region
      all_goals
        rw [← HWA.out]
        go_wp2_with fail
        go_ret
        exact HR.out
  | true =>
    have HR : Hid (∀ e w', MadeF (fun g => w.heap.size ≤ g) wA (nd 3 [⟨false, k, nm, []⟩]) e w' → ∃ b, e = .returned (.pointer (some ⟨b, 0, none⟩)) ∧ MadeF (fun g => w.heap.size ≤ g) w (leafP k nm true) (.returned (.pointer (some ⟨b, 0, none⟩))) w') := fun e w' h => by
      obtain ⟨b, h1, h2, h3⟩ := h
      exact ⟨b, h1, b, rfl, h2, then_ HBA.out h3⟩
    rcases hk with rfl | rfl
    all_goals
      go_enter Tryd.func28, Tryd.ntmps28
      go_wp2_with fail
      go_region
      all_goals
        rw [← HWA.out]
        go_wp2_with fail
        refine HM.out.mono ?_
        rintro e w1 hres
        obtain ⟨b1, rfl, hr1⟩ := HR.out _ _ hres
        have HR1 := hide hr1
        clear hr1 hres
        go_wp2_with fail
        go_ret
        exact HR1.out
set_option maxHeartbeats 4000000 in
set_option maxRecDepth 100000 in
theorem pushed_not (nm : List UInt8) (y : Fm) (hy : PushOK y) : PushOK ⟨false, 3, nm, [y]⟩ := by
  intro hwf no w v hF
  rw [push_not]
  obtain ⟨-, -, -, b, sa, sc, -, rfl, c0, c1, c2, hrow⟩ := isF_node.1 hF
  obtain ⟨g, o, u, -, rfl, -, hc, hyu⟩ := hrow 0 y rfl
  have HC := hide (hy ((wf_parts hwf).2 y (by simp)) (!no) w u hyu)
  obtain ⟨pu, rfl⟩ := hyu.ptr
  have c2' : w.cell? ⟨b, 2, none⟩ = some (.slice (some ⟨g, o, none⟩) 1 sc) := c2
  have hc' : w.cell? ⟨g, o, none⟩ = some (.pointer pu) := hc
  have HR : Hid (∀ e w', MadeF (fun g => w.heap.size ≤ g) w (push y (!no)) e w' → ∃ b, e = .returned (.pointer (some ⟨b, 0, none⟩)) ∧ MadeF (fun g => w.heap.size ≤ g) w (push y (!no)) (.returned (.pointer (some ⟨b, 0, none⟩))) w') := fun e w' h => by
    obtain ⟨b, h1, h2⟩ := h
    exact ⟨b, h1, b, rfl, h2⟩
  clear hF hrow hyu hy hwf c2 hc
  go_enter Tryd.func28, Tryd.ntmps28
  go_wp2_with fail
  refine HC.out.mono ?_
  rintro e w1 hres
  obtain ⟨b1, rfl, hr1⟩ := HR.out _ _ hres
  have HR1 := hide hr1
  clear hr1 hres
  go_wp2_with fail
  go_ret
  exact HR1.out
end Ls
end Go.Proofs.YtmdblokmplbpmaaDoor
