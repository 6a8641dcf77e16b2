/-
  The walk of package lasso's now: what it makes tells of each time whether the formula holds then.
-/
import Derived.Test.YtmdblokmplbpmaaDoorLsClos
namespace Go.Proofs.YtmdblokmplbpmaaDoor
namespace Ls
open Go.RowKit
theorem Tryd.infoSo : (Tryd.prog.info? 70).map (fun i => (i.zero, i.size, i.bytes)) = some (some .nilFunc, 1, 8) := by kernel_rfl
theorem makeSo (n : Nat) (hn : n ≤ 1000000) (w : World) : (Instr.makeSlice 90 (.int .i64 (n : Int)) (.int .i64 (n : Int))).run Tryd.prog w = .ok (.slice (some ⟨w.heap.size, 0, none⟩) n n) (w.alloc (.cells ⟨List.replicate n .nilFunc⟩ 70)) :=
  make_one Tryd.underlying90 Tryd.infoSo rfl (by decide) n hn w
/-- what stands while now asks its parts: the times, the formula, the row of functions, its header -/
def NW (w : World) (nv : Value) (r : Nat) (pv : Value) (m : Nat) (wr : World) (fs : List Value) : Prop :=
  Below w.heap.size w wr ∧ w.heap.size + 4 ≤ wr.heap.size ∧ Tm wr w.heap.size nv r ∧ wr.cell? ⟨w.heap.size + 1, 0, none⟩ = some pv ∧ RowIs wr (w.heap.size + 1 + 1) 70 (fs ++ List.replicate (m - fs.length) .nilFunc) ∧ wr.cell? ⟨w.heap.size + 1 + 1 + 1, 0, none⟩ = some (.slice (some ⟨w.heap.size + 1 + 1, 0, none⟩) m m)
theorem NW.below {w : World} {nv : Value} {r : Nat} {pv : Value} {m : Nat} {wr W : World} {fs : List Value} (h : NW w nv r pv m wr fs) (hb : Below wr.heap.size wr W) : NW w nv r pv m W fs :=
  ⟨h.1.trans (hb.mono h.1.size), Nat.le_trans h.2.1 hb.size, h.2.2.1.below hb, kept hb h.2.2.2.1, h.2.2.2.2.1.below hb, kept hb h.2.2.2.2.2⟩
theorem NW.set {w : World} {nv : Value} {r : Nat} {pv : Value} {m : Nat} {wr : World} {fs : List Value} (h : NW w nv r pv m wr fs) (hm : fs.length < m) (v : Value) : NW w nv r pv m (wr.setCell ⟨w.heap.size + 1 + 1, fs.length, none⟩ v) (fs ++ [v]) := by
  obtain ⟨h1, h2, h3, h4, h5, h6⟩ := h
  refine ⟨h1.setCell (by show w.heap.size ≤ w.heap.size + 1 + 1; omega) _, by simpa using h2, ⟨cell_set_block _ _ _ _ _ _ _ (by omega) h3.1, cell_set_block _ _ _ _ _ _ _ (by omega) h3.2⟩, cell_set_block _ _ _ _ _ _ _ (by omega) h4, ?_, cell_set_block _ _ _ _ _ _ _ (by omega) h6⟩
  have := h5.set fs.length v
  rw [fill_set fs _ v m hm] at this
  exact this
/-- each of some functions tells what its part says -/
def Tell (ok : Nat → Prop) (w : World) (n : Nat) (fs : List Value) (ps : List (Nat → Bool)) : Prop := fs.length = ps.length ∧ ∀ (i : Nat) f p, fs[i]? = some f → ps[i]? = some p → IsSo ok w f n p
theorem Tell.stay {ok : Nat → Prop} {w w' : World} {n : Nat} {fs : List Value} {ps : List (Nat → Bool)} (h : Tell ok w n fs ps) (hb : Stay ok w w') : Tell ok w' n fs ps := ⟨h.1, fun i f p h1 h2 => (h.2 i f p h1 h2).stay hb⟩
theorem Tell.snoc {ok : Nat → Prop} {w : World} {n : Nat} {fs : List Value} {ps : List (Nat → Bool)} (h : Tell ok w n fs ps) {f : Value} {p : Nat → Bool} (hf : IsSo ok w f n p) : Tell ok w n (fs ++ [f]) (ps ++ [p]) := by
  refine ⟨by simp [h.1], fun i g q h1 h2 => ?_⟩
  by_cases hi : i < fs.length
  · rw [List.getElem?_append_left hi] at h1
    rw [List.getElem?_append_left (by rw [← h.1]; exact hi)] at h2
    exact h.2 i g q h1 h2
  · rw [List.getElem?_append_right (by omega)] at h1
    rw [List.getElem?_append_right (by rw [← h.1]; omega)] at h2
    have hz : i - fs.length = 0 := by
      have := (List.getElem?_eq_some_iff.1 h1).1
      simp at this; omega
    rw [hz] at h1
    rw [← h.1, hz] at h2
    cases h1; cases h2
    exact hf
theorem nil_at {fs : List Value} {m j : Nat} {v : Value} (h : fs.length = j) (hj : j < m) : (fs ++ List.replicate (m - fs.length) v)[j]? = some v := by
  rw [List.getElem?_append_right (by omega), h, Nat.sub_self, List.getElem?_replicate, if_pos (by omega)]
theorem Tell.one {ok : Nat → Prop} {w : World} {n : Nat} {fs : List Value} {p : Nat → Bool} (h : Tell ok w n fs [p]) : ∃ f, fs = [f] ∧ IsSo ok w f n p := by
  match fs, h.1 with
  | [f], _ => exact ⟨f, rfl, h.2 0 f p rfl rfl⟩
theorem Tell.two {ok : Nat → Prop} {w : World} {n : Nat} {fs : List Value} {p q : Nat → Bool} (h : Tell ok w n fs [p, q]) : ∃ f g, fs = [f, g] ∧ IsSo ok w f n p ∧ IsSo ok w g n q := by
  match fs, h.1 with
  | [f, g], _ => exact ⟨f, g, rfl, h.2 0 f p rfl rfl, h.2 1 g q rfl rfl⟩
theorem len_one {α : Type} {l : List α} (h : l.length = 1) : ∃ y, l = [y] := by
  match l, h with
  | [y], _ => exact ⟨y, rfl⟩
theorem len_two {α : Type} {l : List α} (h : l.length = 2) : ∃ y z, l = [y, z] := by
  match l, h with
  | [y, z], _ => exact ⟨y, z, rfl⟩
theorem Strs.old {w W : World} {sv : Value} {l : List (List UInt8)} (h : Strs w sv l) (hc : ∀ b i v, w.cell? ⟨b, i, none⟩ = some v → W.cell? ⟨b, i, none⟩ = some v) : Strs W sv l := by
  obtain ⟨a, c, h1, h2, h3⟩ := h
  refine ⟨a, c, h1, h2, fun k x hx => ?_⟩
  obtain ⟨g, o, e1, e2, e3, e4⟩ := h3 k x hx
  exact ⟨g, o, e1, e2, hc _ _ _ e3, e4⟩
theorem Rows.old {w W : World} {sv : Value} {l : List (List (List UInt8))} (h : Rows w sv l) (hc : ∀ b i v, w.cell? ⟨b, i, none⟩ = some v → W.cell? ⟨b, i, none⟩ = some v) : Rows W sv l := by
  obtain ⟨a, c, h1, h2, h3⟩ := h
  refine ⟨a, c, h1, h2, fun k x hx => ?_⟩
  obtain ⟨g, o, v, e1, e2, e3, e4⟩ := h3 k x hx
  exact ⟨g, o, v, e1, e2, hc _ _ _ e3, e4.old hc⟩
/-- now, at this formula -/
def NowOK (L : List (List (List UInt8))) (r : Nat) (a : Option Addr) (c : Nat) (x : Fm) : Prop :=
  ∀ (d : Nat), ok x d = true → ∀ (O : Nat → Prop) (w0 w : World) (v : Value), IsF (fun _ => True) w0 x v → Rows w0 (.slice a L.length c) L → Below w0.heap.size w0 w → (∀ b, b < w0.heap.size → O b) → (∀ b, w.heap.size ≤ b → O b) →
    Calls Tryd.prog 25 #[.agg #[.slice a L.length c, .int .i64 (r : Int)], v] w fun e w' => ∃ f, e = .returned f ∧ IsSo O w' f L.length (sem L r x) ∧ Below w.heap.size w w'
theorem sem_atom (L : List (List (List UInt8))) (r : Nat) (nm : List UInt8) (l : List Fm) (t : Nat) : sem L r ⟨false, 1, nm, l⟩ t = (L.getD t []).contains nm := by rw [sem_eq]; simp [semK]
theorem sem_true (L : List (List (List UInt8))) (r : Nat) (nm : List UInt8) (l : List Fm) (t : Nat) : sem L r ⟨false, 2, nm, l⟩ t = true := by rw [sem_eq]; simp [semK]
theorem sem_not (L : List (List (List UInt8))) (r : Nat) (nm : List UInt8) (y : Fm) (t : Nat) : sem L r ⟨false, 3, nm, [y]⟩ t = !sem L r y t := by rw [sem_eq]; simp [semK]
theorem sem_and (L : List (List (List UInt8))) (r : Nat) (nm : List UInt8) (y z : Fm) (t : Nat) : sem L r ⟨false, 4, nm, [y, z]⟩ t = (sem L r y t && sem L r z t) := by rw [sem_eq]; simp [semK]
theorem sem_or (L : List (List (List UInt8))) (r : Nat) (nm : List UInt8) (y z : Fm) (t : Nat) : sem L r ⟨false, 5, nm, [y, z]⟩ t = (sem L r y t || sem L r z t) := by rw [sem_eq]; simp [semK]
theorem sem_next (L : List (List (List UInt8))) (r : Nat) (nm : List UInt8) (y : Fm) (t : Nat) : sem L r ⟨false, 6, nm, [y]⟩ t = sem L r y (next L.length r t) := by rw [sem_eq]; simp [semK]
theorem sem_until (L : List (List (List UInt8))) (r : Nat) (nm : List UInt8) (y z : Fm) (t : Nat) : sem L r ⟨false, 7, nm, [y, z]⟩ t = unt L.length r (sem L r y) (sem L r z) t := by rw [sem_eq]; simp [semK]
theorem sem_release (L : List (List (List UInt8))) (r : Nat) (nm : List UInt8) (y z : Fm) (t : Nat) : sem L r ⟨false, 8, nm, [y, z]⟩ t = !unt L.length r (fun t => !sem L r y t) (fun t => !sem L r z t) t := by rw [sem_eq]; simp [semK]
theorem sem_ever (L : List (List (List UInt8))) (r : Nat) (nm : List UInt8) (y : Fm) (t : Nat) : sem L r ⟨false, 9, nm, [y]⟩ t = unt L.length r (fun _ => true) (sem L r y) t := by rw [sem_eq]; simp [semK]
theorem sem_always (L : List (List (List UInt8))) (r : Nat) (nm : List UInt8) (y : Fm) (t : Nat) : sem L r ⟨false, 10, nm, [y]⟩ t = !unt L.length r (fun _ => true) (fun t => !sem L r y t) t := by rw [sem_eq]; simp [semK]
set_option maxHeartbeats 8000000 in
set_option maxRecDepth 100000 in
theorem now_any (L : List (List (List UInt8))) (r : Nat) (hr : r < L.length) (hL : L.length ≤ 60) (a : Option Addr) (c : Nat) (x : Fm) : NowOK L r a c x := by
  induction x using Fm.ind with
  | h z k nm l ih =>
    intro d hok O w0 w v hF hR hB hO1 hO2
    rw [ok_eq, Bool.and_eq_true, List.all_eq_true] at hok
    obtain ⟨hz, -, hk1, hk10, hlp, -, -⟩ := wrongN_zero (of_decide_eq_true hok.1)
    subst hz
    obtain ⟨-, -, -, b, sa, sc, -, rfl, c0, c1, c2, hrow⟩ := isF_node.1 hF
    have hmf : ∀ (fn : Fn) (first cap : Array Value) (w : World), (Instr.makeFunc fn first cap).run Tryd.prog w = .ok (.func fn first cap) w := fun _ _ _ _ => rfl
    have hm2 : l.length ≤ 2 := by rw [hlp]; exact partsOf_le k
    have HIH : Hid (∀ x, x ∈ l → NowOK L r a c x) := ih
    have HOK : Hid (∀ x, x ∈ l → ok x (d + 1) = true) := hok.2
    have HROW := hide hrow
    have HR := hide hR
    have HB := hide hB
    have HO1 := hide hO1
    have HO2 := hide hO2
    have HC0 := hide c0
    have HC1 := hide c1
    have HC2 := hide c2
    obtain ⟨m, hm⟩ : ∃ m, m = l.length := ⟨_, rfl⟩
    have HM := hide hm
    have HLP := hide hlp
    have hmk := makeSo l.length (by omega)
    rw [← hm] at HC2 hm2 hmk
    clear ih hok hF hR hB hO1 hO2 hrow c0 c1 c2 hm hlp
    obtain ⟨n, hn⟩ : ∃ n, n = L.length := ⟨_, rfl⟩
    have HN := hide hn
    rw [← hn] at HR hr hL
    have HGOAL : Hid (∀ w' f, IsSo O w' f n (sem L r ⟨false, k, nm, l⟩) → IsSo O w' f L.length (sem L r ⟨false, k, nm, l⟩)) := fun w' f h => by rw [← HN.out]; exact h
    show Calls Tryd.prog 25 #[.agg #[.slice a L.length c, .int .i64 (r : Int)], .pointer (some ⟨b, 0, none⟩)] w fun e w' => ∃ f, e = .returned f ∧ IsSo O w' f L.length (sem L r ⟨false, k, nm, l⟩) ∧ Below w.heap.size w w'
    rw [← hn]
    clear hn HGOAL
    obtain ⟨wA, hwA⟩ : ∃ wA, wA = (((w.alloc (.cells #[.slice a n c, .int .i64 (r : Int)] 67)).alloc (.cells #[.pointer (some ⟨b, 0, none⟩)] 40)).alloc (.cells (Array.replicate m .nilFunc) 70)).alloc (.cells #[.slice (some ⟨w.heap.size + 1 + 1, 0, none⟩) m m] 90) := ⟨_, rfl⟩
    have HU0 : Hid (NW w (.slice a n c) r (.pointer (some ⟨b, 0, none⟩)) m wA []) := by
      obtain ⟨w1, hw1⟩ : ∃ w1, w1 = w.alloc (.cells #[.slice a n c, .int .i64 (r : Int)] 67) := ⟨_, rfl⟩
      have hs1 : w1.heap.size = w.heap.size + 1 := by rw [hw1]; simp
      have ht1 : Tm w1 w.heap.size (.slice a n c) r := by rw [hw1]; exact Tm.new _ _ _
      have hb1 : Below w.heap.size w w1 := by rw [hw1]; exact newB _ _
      rw [← hw1] at hwA
      clear hw1
      obtain ⟨w2, hw2⟩ : ∃ w2, w2 = w1.alloc (.cells #[.pointer (some ⟨b, 0, none⟩)] 40) := ⟨_, rfl⟩
      have hs2 : w2.heap.size = w.heap.size + 1 + 1 := by rw [hw2]; simp [hs1]
      have hb2 : Below w1.heap.size w1 w2 := by rw [hw2]; exact newB _ _
      have hf2 : w2.cell? ⟨w.heap.size + 1, 0, none⟩ = some (.pointer (some ⟨b, 0, none⟩)) := by rw [hw2, ← hs1, Lib.cell_of_heap (heap_alloc_new w1 _)]; rfl
      rw [← hw2] at hwA
      clear hw2
      obtain ⟨w3, hw3⟩ : ∃ w3, w3 = w2.alloc (.cells (Array.replicate m .nilFunc) 70) := ⟨_, rfl⟩
      have hs3 : w3.heap.size = w.heap.size + 1 + 1 + 1 := by rw [hw3]; simp [hs2]
      have hb3 : Below w2.heap.size w2 w3 := by rw [hw3]; exact newB _ _
      have hr3 : RowIs w3 (w.heap.size + 1 + 1) 70 ([] ++ List.replicate (m - ([] : List Value).length) .nilFunc) := by
        rw [hw3, ← hs2]
        have : (Array.replicate m Value.nilFunc) = ⟨[] ++ List.replicate (m - ([] : List Value).length) .nilFunc⟩ := by
          apply Array.ext'
          simp
        rw [this]
        exact RowIs.new _ _ _
      rw [← hw3] at hwA
      clear hw3
      have hb4 : Below w3.heap.size w3 wA := by rw [hwA]; exact newB _ _
      refine ⟨then_ hb1 (then_ hb2 (then_ hb3 hb4)), by rw [hwA]; simp [hs3], ((ht1.below hb2).below hb3).below hb4, kept hb4 (kept hb3 hf2), hr3.below hb4, ?_⟩
      rw [hwA, ← hs3, Lib.cell_of_heap (heap_alloc_new w3 _)]
      rfl
    have HWA := hide hwA
    clear hwA
    have cw2 : w.cell? ⟨b, 2, none⟩ = some (.slice sa m sc) := kept HB.out HC2.out
    have hbl := World.block_lt_of_cell? _ _ cw2
    have hml : m ≤ 1000 := by omega
    have cw4 : wA.cell? ⟨b, 2, none⟩ = some (.slice sa m sc) := kept HU0.out.1 cw2
    rw [HWA.out] at cw4
    go_enter Tryd.func25, Tryd.ntmps25
    go_wp2_with fail
    rw [← HWA.out]
    clear HWA hmk cw2 hbl cw4
    go_loopw [19] (fun i wr => ∃ (j : Nat) (fs : List Value), j ≤ m ∧ i = .int .i64 (j : Int) ∧ Hid (fs.length = j) ∧ Hid (NW w (.slice a n c) r (.pointer (some ⟨b, 0, none⟩)) m wr fs) ∧ Hid (Tell (fun b => b < w0.heap.size ∨ w.heap.size + 4 ≤ b) wr n fs ((l.take j).map fun x => sem L r x))) (fun i _ => m - (intOf i).toNat)
    case atStart => exact ⟨0, [], Nat.zero_le _, rfl, rfl, HU0.out, ⟨rfl, fun i f p h => by simp at h⟩⟩
    case round =>
      obtain ⟨j, fs, hj, rfl, HFL, HW, HT⟩ := hrel
      have HBW : Hid (Below w0.heap.size w0 wr) := HB.out.trans (HW.out.1.mono HB.out.size)
      by_cases hlt : j < m
      · have hjl : j < l.length := by rw [← HM.out]; exact hlt
        obtain ⟨g, o, u, _, hsa, _, hc, hxu⟩ := HROW.out j l[j] (List.getElem?_eq_getElem hjl)
        have hc' := kept HBW.out hc
        have hji : (j : Int) < (m : Int) := by omega
        have HCALL : Hid (∀ W, Below wr.heap.size wr W → Calls Tryd.prog 25 #[.agg #[.slice a n c, .int .i64 (r : Int)], u] W fun e w' => ∃ f, e = .returned f ∧ IsSo (fun b => b < w0.heap.size ∨ w.heap.size + 4 ≤ b) w' f n (sem L r l[j]) ∧ Below W.heap.size W w') := fun W hW => by
          have := HIH.out l[j] (List.getElem_mem hjl) (d + 1) (HOK.out _ (List.getElem_mem hjl)) (fun b => b < w0.heap.size ∨ w.heap.size + 4 ≤ b) w0 W u hxu (by rw [← HN.out]; exact HR.out) (HBW.out.trans (hW.mono HBW.out.size)) (fun b hb => .inl hb) (fun b hb => .inr (Nat.le_trans (Nat.le_trans HW.out.2.1 hW.size) hb))
          rw [← HN.out] at this
          exact this
        have HTK : Hid ((l.take (j + 1)).map (fun x => sem L r x) = (l.take j).map (fun x => sem L r x) ++ [sem L r l[j]]) := by show _ = _; rw [List.take_succ_eq_append_getElem hjl, List.map_append]; rfl
        subst hsa
        obtain ⟨pu, rfl⟩ := hxu.ptr
        clear hc hxu
        generalize sem L r l[j] = sp at *
        clear hjl
        have hh := HW.out.2.2.2.2.2
        obtain ⟨t0, t1⟩ := HW.out.2.2.1
        have HD := hide (drewB wr)
        have HKS : Hid (∀ W, Below wr.heap.size wr W → W.cell? ⟨w.heap.size + 1 + 1 + 1, 0, none⟩ = some (.slice (some ⟨w.heap.size + 1 + 1, 0, none⟩) m m) ∧ W.cell? ⟨w.heap.size, 0, none⟩ = some (.slice a n c) ∧ W.cell? ⟨w.heap.size, 1, none⟩ = some (.int .i64 (r : Int))) := fun W hW => ⟨kept hW hh, kept hW t0, kept hW t1⟩
        have HKT : Hid (∀ (W : World) (y : Value), Below wr.heap.size wr W → (W.setCell ⟨w.heap.size + 1 + 1, j, none⟩ y).cell? ⟨w.heap.size + 1 + 1 + 1, 0, none⟩ = some (.slice (some ⟨w.heap.size + 1 + 1, 0, none⟩) m m) ∧ (W.setCell ⟨w.heap.size + 1 + 1, j, none⟩ y).cell? ⟨w.heap.size, 0, none⟩ = some (.slice a n c) ∧ (W.setCell ⟨w.heap.size + 1 + 1, j, none⟩ y).cell? ⟨w.heap.size, 1, none⟩ = some (.int .i64 (r : Int))) := fun W y hW => ⟨cell_set_block _ _ _ _ _ _ _ (by omega) (kept hW hh), cell_set_block _ _ _ _ _ _ _ (by omega) (kept hW t0), cell_set_block _ _ _ _ _ _ _ (by omega) (kept hW t1)⟩
        go_wp2_with fail
        go_region_held3 (fun W => W.cell? ⟨w.heap.size + 1 + 1 + 1, 0, none⟩ = some (.slice (some ⟨w.heap.size + 1 + 1, 0, none⟩) m m) ∧ W.cell? ⟨w.heap.size, 0, none⟩ = some (.slice a n c) ∧ W.cell? ⟨w.heap.size, 1, none⟩ = some (.int .i64 (r : Int))) ((first
          | exact HKS.out _ (Below.refl _ _) | exact HKS.out _ HD.out | exact HKS.out _ HB2.out | exact HKT.out _ _ HB2.out)) ((first
          | (go_at_call 25; (with_reducible refine (HCALL.out _ HD.out).mono ?_); rintro e w2 ⟨f2, rfl, hf2, hb2⟩; have HB2 : Hid (Below wr.heap.size wr w2) := then_ HD.out hb2; have HF2 := hide hf2; obtain ⟨K, cs, rfl, _, _, _⟩ := hf2; have z0 : w2.cell? ⟨w.heap.size + 1 + 1, j, none⟩ = some .nilFunc := RowIs.cell (HW.out.below HB2.out).2.2.2.2.1 j _ (nil_at HFL.out hlt); have z1 : w2.frozen? ⟨w.heap.size + 1 + 1, j, none⟩ = false := RowIs.frozen (HW.out.below HB2.out).2.2.2.2.1 j; clear hb2)))
        have HNX : Hid (NW w (.slice a n c) r (.pointer (some ⟨b, 0, none⟩)) m (w2.setCell ⟨w.heap.size + 1 + 1, j, none⟩ (.func (.func K) #[] cs)) (fs ++ [.func (.func K) #[] cs])) := by
          have := (HW.out.below HB2.out).set (by rw [HFL.out]; exact hlt) (.func (.func K) #[] cs)
          rw [HFL.out] at this
          exact this
        have HTX : Hid (Tell (fun b => b < w0.heap.size ∨ w.heap.size + 4 ≤ b) (w2.setCell ⟨w.heap.size + 1 + 1, j, none⟩ (.func (.func K) #[] cs)) n (fs ++ [.func (.func K) #[] cs]) ((l.take (j + 1)).map fun x => sem L r x)) := by
          rw [HTK.out]
          have hwl := HB.out.size
          exact ((HT.out.stay (.of_below HB2.out)).snoc HF2.out).stay ((Stay.refl _ _).set _ (by omega))
        clear z0 z1
        go_wp2_with fail
        go_roundw
        case rel => exact ⟨j + 1, fs ++ [Value.func (Fn.func K) #[] cs], by omega, by go_num, by show (fs ++ [Value.func (.func K) #[] cs]).length = j + 1; rw [List.length_append, HFL.out]; rfl, HNX.out, HTX.out⟩
        case measure => simp [intOf]; omega
      · have hjm : j = m := by omega
        have HTL : Hid (Tell (fun b => b < w0.heap.size ∨ w.heap.size + 4 ≤ b) wr n fs (l.map fun x => sem L r x)) := by have := HT.out; rw [List.take_of_length_le (by rw [← HM.out]; omega)] at this; exact this
        subst hjm
        have ck := kept HBW.out HC0.out
        have cf := HW.out.2.2.2.1
        clear hj hlt HT
        have HO : Hid (∀ b, (b < w0.heap.size ∨ w.heap.size + 4 ≤ b) → O b) := fun b hb => hb.elim (HO1.out b) (fun h => HO2.out b (by omega))
        have HOW : Hid (∀ W : World, Below wr.heap.size wr W → ∀ b, W.heap.size ≤ b → O b) := fun W hW b hb => HO2.out b (by have h1 := HW.out.1.size; have h2 := hW.size; omega)
        have hh := HW.out.2.2.2.2.2
        have HRW := hide HW.out.2.2.2.2.1
        obtain ⟨t0, t1⟩ := HW.out.2.2.1
        have HD := hide (drewB wr)
        have HBX : Hid (Below w.heap.size w wr) := HW.out.1
        have hcases : k = 1 ∨ k = 2 ∨ k = 3 ∨ k = 4 ∨ k = 5 ∨ k = 6 ∨ k = 7 ∨ k = 8 ∨ k = 9 ∨ k = 10 := by omega
        rcases hcases with rfl | rfl | rfl | rfl | rfl | rfl | rfl | rfl | rfl | rfl
        · clear HLP HM
          have HRES : Hid (IsSo O wr (.func (.func 39) #[] #[.pointer (some ⟨w.heap.size, 0, none⟩), .pointer (some ⟨w.heap.size + 1, 0, none⟩)]) n (sem L r ⟨false, 1, nm, l⟩)) := by
            refine ⟨_, _, rfl, .inr (.inr ⟨_, _, rfl⟩), fun _ _ => by kernel_rfl, fun t W hW ht => ?_⟩
            rw [sem_atom]
            have hold : ∀ b i v, w0.cell? ⟨b, i, none⟩ = some v → W.cell? ⟨b, i, none⟩ = some v := fun b i v hc => hW.cell (HO1.out b (World.block_lt_of_cell? _ _ hc)) (kept HBW.out hc)
            have hRW := HR.out.old hold
            have hn := HN.out
            have htm : Tm W w.heap.size (.slice a n c) r := ⟨hW.cell (HO2.out _ (Nat.le_refl _)) t0, hW.cell (HO2.out _ (Nat.le_refl _)) t1⟩
            rw [hn] at hRW ht htm
            exact now1_any L r t ht nm a c _ _ b W hRW htm (hW.cell (HO2.out _ (by omega)) cf) (hold _ _ _ HC1.out)
          go_wp2_with fail
          go_ret
          exact ⟨_, rfl, HRES.out, HBX.out⟩
        · have HRES : Hid (IsSo O wr (.func (.func 47) #[] #[]) n (sem L r ⟨false, 2, nm, l⟩)) := (anytime_so O n wr).congr fun t _ => (sem_true L r nm l t).symm
          go_wp2_with fail
          go_ret
          exact ⟨_, rfl, HRES.out, HBX.out⟩
        · obtain ⟨y, rfl⟩ := len_one (HLP.out.trans (by decide))
          have hj1 : j = 1 := HM.out
          subst hj1
          obtain ⟨f0, rfl, hf0⟩ := HTL.out.one
          have hr0 : wr.cell? ⟨w.heap.size + 1 + 1, 0, none⟩ = some f0 := HRW.out.cell 0 _ rfl
          have HF0 := hide (hf0.mono HO.out)
          have HSEM := hide (sem_not L r nm y)
          obtain ⟨K0, cs0, rfl, _, _, _⟩ := hf0
          have HCN := hide (not_any O n _ _ wr HF0.out (HOW.out _ (Below.refl _ _)))
          go_wp2_with fail
          refine HCN.out.mono ?_
          rintro e w2 ⟨f2, rfl, hf2, hb2⟩
          have HBw2 := hide hb2
          have Hf2 := hide hf2
          obtain ⟨K2, cs2, rfl, _, _, _⟩ := hf2
          clear hb2 HCN
          go_wp2_with fail
          go_ret
          exact ⟨_, rfl, Hf2.out.congr fun t _ => (HSEM.out t).symm, then_ HBX.out HBw2.out⟩
        · obtain ⟨y, z, rfl⟩ := len_two (HLP.out.trans (by decide))
          have hj1 : j = 2 := HM.out
          subst hj1
          obtain ⟨f0, f1, rfl, hf0, hf1⟩ := HTL.out.two
          have hr0 : wr.cell? ⟨w.heap.size + 1 + 1, 0, none⟩ = some f0 := HRW.out.cell 0 _ rfl
          have hr1 : wr.cell? ⟨w.heap.size + 1 + 1, 1, none⟩ = some f1 := HRW.out.cell 1 _ rfl
          have HF0 := hide (hf0.mono HO.out)
          have HF1 := hide (hf1.mono HO.out)
          have HSEM := hide (sem_and L r nm y z)
          obtain ⟨K0, cs0, rfl, _, _, _⟩ := hf0
          obtain ⟨K1, cs1, rfl, _, _, _⟩ := hf1
          have HRES : Hid (IsSo O wr (.func (.func 42) #[] #[.pointer (some ⟨w.heap.size + 1 + 1 + 1, 0, none⟩)]) n (sem L r ⟨false, 4, nm, [y, z]⟩)) := by
            refine ⟨_, _, rfl, .inr (.inl ⟨_, rfl⟩), fun _ _ => by kernel_rfl, fun t W hW ht => ?_⟩
            rw [HSEM.out]
            exact now2_any O n t ht _ _ _ _ _ _ W (hW.cell (HO2.out _ (by omega)) hh) (hW.cell (HO2.out _ (by omega)) hr0) (hW.cell (HO2.out _ (by omega)) hr1) (HF0.out.stay hW) (HF1.out.stay hW)
          go_wp2_with fail
          go_ret
          exact ⟨_, rfl, HRES.out, HBX.out⟩
        · obtain ⟨y, z, rfl⟩ := len_two (HLP.out.trans (by decide))
          have hj1 : j = 2 := HM.out
          subst hj1
          obtain ⟨f0, f1, rfl, hf0, hf1⟩ := HTL.out.two
          have hr0 : wr.cell? ⟨w.heap.size + 1 + 1, 0, none⟩ = some f0 := HRW.out.cell 0 _ rfl
          have hr1 : wr.cell? ⟨w.heap.size + 1 + 1, 1, none⟩ = some f1 := HRW.out.cell 1 _ rfl
          have HF0 := hide (hf0.mono HO.out)
          have HF1 := hide (hf1.mono HO.out)
          have HSEM := hide (sem_or L r nm y z)
          obtain ⟨K0, cs0, rfl, _, _, _⟩ := hf0
          obtain ⟨K1, cs1, rfl, _, _, _⟩ := hf1
          have HRES : Hid (IsSo O wr (.func (.func 43) #[] #[.pointer (some ⟨w.heap.size + 1 + 1 + 1, 0, none⟩)]) n (sem L r ⟨false, 5, nm, [y, z]⟩)) := by
            refine ⟨_, _, rfl, .inr (.inl ⟨_, rfl⟩), fun _ _ => by kernel_rfl, fun t W hW ht => ?_⟩
            rw [HSEM.out]
            exact now3_any O n t ht _ _ _ _ _ _ W (hW.cell (HO2.out _ (by omega)) hh) (hW.cell (HO2.out _ (by omega)) hr0) (hW.cell (HO2.out _ (by omega)) hr1) (HF0.out.stay hW) (HF1.out.stay hW)
          go_wp2_with fail
          go_ret
          exact ⟨_, rfl, HRES.out, HBX.out⟩
        · obtain ⟨y, rfl⟩ := len_one (HLP.out.trans (by decide))
          have hj1 : j = 1 := HM.out
          subst hj1
          obtain ⟨f0, rfl, hf0⟩ := HTL.out.one
          have hr0 : wr.cell? ⟨w.heap.size + 1 + 1, 0, none⟩ = some f0 := HRW.out.cell 0 _ rfl
          have HF0 := hide (hf0.mono HO.out)
          have HSEM := hide (sem_next L r nm y)
          rw [← HN.out] at HSEM
          obtain ⟨K0, cs0, rfl, _, _, _⟩ := hf0
          have HRES : Hid (IsSo O wr (.func (.func 44) #[] #[.pointer (some ⟨w.heap.size + 1 + 1 + 1, 0, none⟩), .pointer (some ⟨w.heap.size, 0, none⟩)]) n (sem L r ⟨false, 6, nm, [y]⟩)) := by
            refine ⟨_, _, rfl, .inr (.inr ⟨_, _, rfl⟩), fun _ _ => by kernel_rfl, fun t W hW ht => ?_⟩
            rw [HSEM.out]
            exact now4_any O n r t hL hr ht _ _ _ _ _ a c W ⟨hW.cell (HO2.out _ (Nat.le_refl _)) t0, hW.cell (HO2.out _ (Nat.le_refl _)) t1⟩ (hW.cell (HO2.out _ (by omega)) hh) (hW.cell (HO2.out _ (by omega)) hr0) (HF0.out.stay hW)
          go_wp2_with fail
          go_ret
          exact ⟨_, rfl, HRES.out, HBX.out⟩
        · obtain ⟨y, z, rfl⟩ := len_two (HLP.out.trans (by decide))
          have hj1 : j = 2 := HM.out
          subst hj1
          obtain ⟨f0, f1, rfl, hf0, hf1⟩ := HTL.out.two
          have hr0 : wr.cell? ⟨w.heap.size + 1 + 1, 0, none⟩ = some f0 := HRW.out.cell 0 _ rfl
          have hr1 : wr.cell? ⟨w.heap.size + 1 + 1, 1, none⟩ = some f1 := HRW.out.cell 1 _ rfl
          have HF0 := hide (hf0.mono HO.out)
          have HF1 := hide (hf1.mono HO.out)
          have HSEM := hide (sem_until L r nm y z)
          rw [← HN.out] at HSEM
          obtain ⟨K0, cs0, rfl, _, _, _⟩ := hf0
          obtain ⟨K1, cs1, rfl, _, _, _⟩ := hf1
          have HCU := hide (fun W (hW : Below wr.heap.size wr W) => until_any O n r _ _ _ _ a c W (HF0.out.below hW) (HF1.out.below hW) (HOW.out W hW) hL hr)
          go_wp2_with fail
          go_region_held3 (fun W => W.cell? ⟨w.heap.size + 1 + 1 + 1, 0, none⟩ = some (.slice (some ⟨w.heap.size + 1 + 1, 0, none⟩) 2 2) ∧ W.cell? ⟨w.heap.size, 0, none⟩ = some (.slice a n c) ∧ W.cell? ⟨w.heap.size, 1, none⟩ = some (.int .i64 (r : Int)) ∧ W.cell? ⟨w.heap.size + 1 + 1, 0, none⟩ = some (.func (.func K0) #[] cs0) ∧ W.cell? ⟨w.heap.size + 1 + 1, 1, none⟩ = some (.func (.func K1) #[] cs1)) ((first
            | exact ⟨hh, t0, t1, hr0, hr1⟩
            | exact ⟨kept HD.out hh, kept HD.out t0, kept HD.out t1, kept HD.out hr0, kept HD.out hr1⟩
            | exact ⟨kept HBw2.out hh, kept HBw2.out t0, kept HBw2.out t1, kept HBw2.out hr0, kept HBw2.out hr1⟩)) ((first
            | (go_at_call 46; (with_reducible refine (HCU.out _ HD.out).mono ?_); rintro e w2 ⟨f2, rfl, hf2, hb⟩; have HBw2 : Hid (Below wr.heap.size wr w2) := then_ HD.out hb; have Hf2 := hide hf2; obtain ⟨K2, cs2, rfl, _, _, _⟩ := hf2; clear hb)))
          go_wp2_with fail
          go_ret
          exact ⟨_, rfl, Hf2.out.congr fun t _ => (HSEM.out t).symm, then_ HBX.out HBw2.out⟩
        · obtain ⟨y, z, rfl⟩ := len_two (HLP.out.trans (by decide))
          have hj1 : j = 2 := HM.out
          subst hj1
          obtain ⟨f0, f1, rfl, hf0, hf1⟩ := HTL.out.two
          have hr0 : wr.cell? ⟨w.heap.size + 1 + 1, 0, none⟩ = some f0 := HRW.out.cell 0 _ rfl
          have hr1 : wr.cell? ⟨w.heap.size + 1 + 1, 1, none⟩ = some f1 := HRW.out.cell 1 _ rfl
          have HF0 := hide (hf0.mono HO.out)
          have HF1 := hide (hf1.mono HO.out)
          have HSEM := hide (sem_release L r nm y z)
          rw [← HN.out] at HSEM
          obtain ⟨K0, cs0, rfl, _, _, _⟩ := hf0
          obtain ⟨K1, cs1, rfl, _, _, _⟩ := hf1
          have HCN0 := hide (fun W (hW : Below wr.heap.size wr W) => not_any O n _ _ W (HF0.out.below hW) (HOW.out W hW))
          have HCN1 := hide (fun W (hW : Below wr.heap.size wr W) => not_any O n _ _ W (HF1.out.below hW) (HOW.out W hW))
          go_wp2_with fail
          go_region_held3 (fun W => W.cell? ⟨w.heap.size + 1 + 1 + 1, 0, none⟩ = some (.slice (some ⟨w.heap.size + 1 + 1, 0, none⟩) 2 2) ∧ W.cell? ⟨w.heap.size, 0, none⟩ = some (.slice a n c) ∧ W.cell? ⟨w.heap.size, 1, none⟩ = some (.int .i64 (r : Int)) ∧ W.cell? ⟨w.heap.size + 1 + 1, 0, none⟩ = some (.func (.func K0) #[] cs0) ∧ W.cell? ⟨w.heap.size + 1 + 1, 1, none⟩ = some (.func (.func K1) #[] cs1)) ((first
            | exact ⟨hh, t0, t1, hr0, hr1⟩
            | exact ⟨kept HD.out hh, kept HD.out t0, kept HD.out t1, kept HD.out hr0, kept HD.out hr1⟩
            | exact ⟨kept HBw2.out hh, kept HBw2.out t0, kept HBw2.out t1, kept HBw2.out hr0, kept HBw2.out hr1⟩
            | exact ⟨kept HBw3.out hh, kept HBw3.out t0, kept HBw3.out t1, kept HBw3.out hr0, kept HBw3.out hr1⟩
            | exact ⟨kept HBw4.out hh, kept HBw4.out t0, kept HBw4.out t1, kept HBw4.out hr0, kept HBw4.out hr1⟩
            | exact ⟨kept HBw5.out hh, kept HBw5.out t0, kept HBw5.out t1, kept HBw5.out hr0, kept HBw5.out hr1⟩)) ((first
            | (go_at_call 41; (with_reducible refine (HCN0.out _ HD.out).mono ?_); rintro e w2 ⟨f2, rfl, hf2, hb⟩; have HBw2 : Hid (Below wr.heap.size wr w2) := then_ HD.out hb; have Hf2 := hide hf2; obtain ⟨K2, cs2, rfl, _, _, _⟩ := hf2; clear hb)
            | (go_at_call 41; (with_reducible refine (HCN1.out _ HBw2.out).mono ?_); rintro e w3 ⟨f3, rfl, hf3, hb⟩; have HBw3 : Hid (Below wr.heap.size wr w3) := then_ HBw2.out hb; have hb23 : Hid (Below w2.heap.size w2 w3) := hb; have Hf3 := hide hf3; obtain ⟨K3, cs3, rfl, _, _, _⟩ := hf3; clear hb)
            | (go_at_call 46; (with_reducible refine (until_any O n r _ _ _ _ a c w3 (Hf2.out.below hb23.out) Hf3.out (HOW.out w3 HBw3.out) hL hr).mono ?_); rintro e w4 ⟨f4, rfl, hf4, hb⟩; have HBw4 : Hid (Below wr.heap.size wr w4) := then_ HBw3.out hb; have Hf4 := hide hf4; obtain ⟨K4, cs4, rfl, _, _, _⟩ := hf4; clear hb)
            | (go_at_call 41; (with_reducible refine (not_any O n _ _ w4 Hf4.out (HOW.out w4 HBw4.out)).mono ?_); rintro e w5 ⟨f5, rfl, hf5, hb⟩; have HBw5 : Hid (Below wr.heap.size wr w5) := then_ HBw4.out hb; have Hf5 := hide hf5; obtain ⟨K5, cs5, rfl, _, _, _⟩ := hf5; clear hb)))
          go_wp2_with fail
          go_ret
          exact ⟨_, rfl, Hf5.out.congr fun t _ => (HSEM.out t).symm, then_ HBX.out HBw5.out⟩
        · obtain ⟨y, rfl⟩ := len_one (HLP.out.trans (by decide))
          have hj1 : j = 1 := HM.out
          subst hj1
          obtain ⟨f0, rfl, hf0⟩ := HTL.out.one
          have hr0 : wr.cell? ⟨w.heap.size + 1 + 1, 0, none⟩ = some f0 := HRW.out.cell 0 _ rfl
          have HF0 := hide (hf0.mono HO.out)
          have HSEM := hide (sem_ever L r nm y)
          rw [← HN.out] at HSEM
          obtain ⟨K0, cs0, rfl, _, _, _⟩ := hf0
          have HCU := hide (fun W (hW : Below wr.heap.size wr W) => until_any O n r _ _ _ _ a c W (anytime_so O n W) (HF0.out.below hW) (HOW.out W hW) hL hr)
          go_wp2_with fail
          go_region_held3 (fun W => W.cell? ⟨w.heap.size + 1 + 1 + 1, 0, none⟩ = some (.slice (some ⟨w.heap.size + 1 + 1, 0, none⟩) 1 1) ∧ W.cell? ⟨w.heap.size, 0, none⟩ = some (.slice a n c) ∧ W.cell? ⟨w.heap.size, 1, none⟩ = some (.int .i64 (r : Int)) ∧ W.cell? ⟨w.heap.size + 1 + 1, 0, none⟩ = some (.func (.func K0) #[] cs0)) ((first
            | exact ⟨hh, t0, t1, hr0⟩
            | exact ⟨kept HD.out hh, kept HD.out t0, kept HD.out t1, kept HD.out hr0⟩
            | exact ⟨kept HBw2.out hh, kept HBw2.out t0, kept HBw2.out t1, kept HBw2.out hr0⟩)) ((first
            | (go_at_call 46; (with_reducible refine (HCU.out _ HD.out).mono ?_); rintro e w2 ⟨f2, rfl, hf2, hb⟩; have HBw2 : Hid (Below wr.heap.size wr w2) := then_ HD.out hb; have Hf2 := hide hf2; obtain ⟨K2, cs2, rfl, _, _, _⟩ := hf2; clear hb)))
          go_wp2_with fail
          go_ret
          exact ⟨_, rfl, Hf2.out.congr fun t _ => (HSEM.out t).symm, then_ HBX.out HBw2.out⟩
        · obtain ⟨y, rfl⟩ := len_one (HLP.out.trans (by decide))
          have hj1 : j = 1 := HM.out
          subst hj1
          obtain ⟨f0, rfl, hf0⟩ := HTL.out.one
          have hr0 : wr.cell? ⟨w.heap.size + 1 + 1, 0, none⟩ = some f0 := HRW.out.cell 0 _ rfl
          have HF0 := hide (hf0.mono HO.out)
          have HSEM := hide (sem_always L r nm y)
          rw [← HN.out] at HSEM
          obtain ⟨K0, cs0, rfl, _, _, _⟩ := hf0
          have HCN0 := hide (fun W (hW : Below wr.heap.size wr W) => not_any O n _ _ W (HF0.out.below hW) (HOW.out W hW))
          go_wp2_with fail
          go_region_held3 (fun W => W.cell? ⟨w.heap.size + 1 + 1 + 1, 0, none⟩ = some (.slice (some ⟨w.heap.size + 1 + 1, 0, none⟩) 1 1) ∧ W.cell? ⟨w.heap.size, 0, none⟩ = some (.slice a n c) ∧ W.cell? ⟨w.heap.size, 1, none⟩ = some (.int .i64 (r : Int)) ∧ W.cell? ⟨w.heap.size + 1 + 1, 0, none⟩ = some (.func (.func K0) #[] cs0)) ((first
            | exact ⟨hh, t0, t1, hr0⟩
            | exact ⟨kept HD.out hh, kept HD.out t0, kept HD.out t1, kept HD.out hr0⟩
            | exact ⟨kept HBw2.out hh, kept HBw2.out t0, kept HBw2.out t1, kept HBw2.out hr0⟩
            | exact ⟨kept HBw3.out hh, kept HBw3.out t0, kept HBw3.out t1, kept HBw3.out hr0⟩
            | exact ⟨kept HBw4.out hh, kept HBw4.out t0, kept HBw4.out t1, kept HBw4.out hr0⟩)) ((first
            | (go_at_call 41; (with_reducible refine (HCN0.out _ HD.out).mono ?_); rintro e w2 ⟨f2, rfl, hf2, hb⟩; have HBw2 : Hid (Below wr.heap.size wr w2) := then_ HD.out hb; have Hf2 := hide hf2; obtain ⟨K2, cs2, rfl, _, _, _⟩ := hf2; clear hb)
            | (go_at_call 46; (with_reducible refine (until_any O n r _ _ _ _ a c w2 (anytime_so O n w2) Hf2.out (HOW.out w2 HBw2.out) hL hr).mono ?_); rintro e w3 ⟨f3, rfl, hf3, hb⟩; have HBw3 : Hid (Below wr.heap.size wr w3) := then_ HBw2.out hb; have Hf3 := hide hf3; obtain ⟨K3, cs3, rfl, _, _, _⟩ := hf3; clear hb)
            | (go_at_call 41; (with_reducible refine (not_any O n _ _ w3 Hf3.out (HOW.out w3 HBw3.out)).mono ?_); rintro e w4 ⟨f4, rfl, hf4, hb⟩; have HBw4 : Hid (Below wr.heap.size wr w4) := then_ HBw3.out hb; have Hf4 := hide hf4; obtain ⟨K4, cs4, rfl, _, _, _⟩ := hf4; clear hb)))
          go_wp2_with fail
          go_ret
          exact ⟨_, rfl, Hf4.out.congr fun t _ => (HSEM.out t).symm, then_ HBX.out HBw4.out⟩
end Ls
end Go.Proofs.YtmdblokmplbpmaaDoor
