/-
  The walks of package route's free, clashing and wanting: rows that are appended one by one.
-/
import Derived.Test.YtjnmeacblefkgaaDoorRoExpr
namespace Go.Proofs.YtjnmeacblefkgaaDoor
namespace Ro
open Go.RowKit
theorem ownBlock_new {W : World} {q : Nat} {e : TypeId} {s : Nat} {v : Value} {n : Nat} {xs : List Value} (h : W.ownsRow q e s v n xs) : v.ownBlock = none ∨ ∃ g, v.ownBlock = some g ∧ q ≤ g := by
  rcases h.2 with ⟨h1, _⟩ | ⟨g, cap, cur, h1, h2, _⟩
  · exact .inl (by rw [h1]; rfl)
  · exact .inr ⟨g, by rw [h1]; rfl, h2⟩
theorem below_grown {w W W' : World} {v : Value} (hb : Below w.heap.size w W) (hg : W.grownBy W' v.ownBlock) (hv : v.ownBlock = none ∨ ∃ g, v.ownBlock = some g ∧ w.heap.size ≤ g) : Below w.heap.size w W' := by
  refine ⟨hg.os.trans hb.os, hg.tape.trans hb.tape, hg.output.trans hb.output, Nat.le_trans hb.size hg.size, fun k hk => ?_⟩
  refine (hg.block k (Nat.lt_of_lt_of_le hk hb.size) ?_).trans (hb.block k hk)
  rcases hv with h | ⟨g, h, hgl⟩
  · rw [h]; intro e; cases e
  · rw [h]; intro e; cases e; omega
def freeVs (r : Rt) : List Value := r.secs.map fun s => notV 98 s.toNat
theorem notV_iface (c : UInt8) (i : Nat) : ∃ x, notV c i = .iface 84 x := ⟨_, rfl⟩
theorem bitV_iface (c : UInt8) (i : Nat) : ∃ x, bitV c i = .iface 88 x := ⟨_, rfl⟩
theorem map_take_succ {α : Type} (f : α → Value) (l : List α) (k : Nat) (h : k < l.length) : (l.map f).take (k + 1) = (l.map f).take k ++ [f l[k]] := by
  rw [List.take_succ_eq_append_getElem (by simpa using h)]
  simp
set_option maxHeartbeats 4000000 in
set_option maxRecDepth 100000 in
theorem free_any (r : Rt) (sv pv : Value) (w : World) (hs : Ints w sv r.secs) (hp : Pts w pv r.pts) (h4 : ∀ s, s ∈ r.secs → 0 ≤ s ∧ s < 4) (hl : r.secs.length ≤ 100) :
    Calls Tryd.prog 26 #[.agg #[sv, pv]] w fun e w' => ∃ v, e = .returned v ∧ w'.ownsRow w.heap.size 50 1 v r.secs.length (freeVs r) ∧ Below w.heap.size w w' := by
  obtain ⟨i0, hi0, hz0, hz1, hz2⟩ := info_parts Tryd.infoExpr
  obtain ⟨sa, sc, rfl⟩ := hs.slice
  obtain ⟨pa, pc, rfl⟩ := hp.slice
  obtain ⟨n, hn⟩ : ∃ n, n = r.secs.length := ⟨_, rfl⟩
  have HN := hide hn
  have HS := hide hs
  rw [← hn] at hl HS ⊢
  obtain ⟨wA, hwA⟩ : ∃ wA, wA = w.alloc (.cells #[.slice sa n sc, .slice pa r.pts.length pc] 25) := ⟨_, rfl⟩
  have HBA : Hid (Below w.heap.size w wA) := by rw [hwA]; exact newB _ _
  have HW := hide hwA
  have H4 := hide h4
  have HFL : Hid ((freeVs r).length = n) := by show _ = _; rw [hn]; unfold freeVs; simp
  clear hwA hs hp hn h4
  go_enter Tryd.func26, Tryd.ntmps26
  go_wp2_with fail
  rw [← HW.out]
  clear HW
  go_loopw [9, 3] (fun iv s wr => ∃ (k : Nat) (a : Option Addr) (c : Nat), k ≤ n ∧ iv = .int .i64 (k : Int) ∧ s = .slice a k c ∧ Hid (wr.ownsRow w.heap.size 50 1 (.slice a k c) k ((freeVs r).take k)) ∧ Hid (Below w.heap.size w wr)) (fun iv _ _ => n - (intOf iv).toNat)
  case atStart => exact ⟨0, none, 0, Nat.zero_le _, rfl, rfl, World.ownsRow_nil _ _ _ _, HBA.out⟩
  case round =>
    obtain ⟨k, a, c, hk, rfl, rfl, HO, HB⟩ := hrel
    by_cases hlt : k < n
    · have hkl : k < r.secs.length := by rw [← HN.out]; exact hlt
      obtain ⟨g, o, rfl, c0, hi⟩ := (HS.out.below HB.out).cell k _ (List.getElem?_eq_getElem hkl)
      obtain ⟨hx0, hx4⟩ := H4.out r.secs[k] (List.getElem_mem hkl)
      obtain ⟨x, hx⟩ : ∃ x : Nat, r.secs[k] = (x : Int) := ⟨r.secs[k].toNat, by omega⟩
      have HTK : Hid ((freeVs r).take (k + 1) = (freeVs r).take k ++ [notV 98 x]) := by
        show _ = _
        unfold freeVs
        rw [map_take_succ _ _ _ hkl, hx]
        rfl
      have HC := hide (isNot_any 98 x (by omega) wr)
      rw [hx] at c0
      obtain ⟨nx, hnx⟩ := notV_iface 98 x
      rw [hnx] at HTK HC
      have HOWN : Hid (∀ o, (wr.alloc o).ownsRow w.heap.size 50 1 (.slice a k c) k ((freeVs r).take k)) := fun o => own_below HO.out (newB _ _)
      have HONE : Hid (∀ u ∈ [Value.iface 84 nx], u.oneCell' = true) := fun u hu => by obtain rfl := List.mem_singleton.1 hu; rfl
      have HBN : Hid (∀ (o : Obj) (wC : World), (wr.alloc o).grownBy wC (Value.slice a k c).ownBlock → Below w.heap.size w wC) := fun o wC hg => below_grown (then_ HB.out (newB _ _)) hg (ownBlock_new HO.out)
      have hle : w.heap.size ≤ wr.heap.size := HB.out.size
      clear hx0 hx4 hi hx hnx
      go_wp2_with (first
        | (at_builtin; refine wpList_append_lies _ rfl (.tmp 13) (.tmp 16) 69 rfl w.heap.size 50 i0 _ 1 16 Tryd.underlying69 hi0 hz0 hz1 hz2 rfl (by decide) (.slice a k c) k ((freeVs r).take k) rfl (HOWN.out _) ⟨wr.heap.size, 0, none⟩ 1 1 [.iface 84 nx] rfl rfl (World.news_of_block (heap_alloc_new wr _)) HONE.out (by decide) (by unfold maxLen; omega) (by omega) (by simp; omega) (wr.heap.size + 1) (by simp) ?_; intro g2 cap2 wC hown hgrow hat hltg; have HOC := hide hown; have HBC := hide (HBN.out _ wC hgrow); clear hown hgrow hat)
        | (go_at_call 25; refine HC.out.mono ?_; rintro e w1 ⟨rfl, hw⟩; obtain rfl := hw.symm))
      go_roundw
      case rel => exact ⟨k + 1, some ⟨g2, 0, none⟩, cap2, by omega, by go_num, rfl, by rw [HTK.out]; exact HOC.out, HBC.out⟩
      case measure => simp [intOf]; omega
    · have hkn : k = n := by omega
      have HR : Hid (wr.ownsRow w.heap.size 50 1 (.slice a k c) n (freeVs r)) := by
        have h := HO.out
        rw [List.take_of_length_le (by rw [HFL.out]; omega)] at h
        rw [← hkn]
        exact h
      subst hkn
      go_wp2_with fail
      go_ret
      exact ⟨_, rfl, HR.out, HB.out⟩
end Ro
end Go.Proofs.YtjnmeacblefkgaaDoor
