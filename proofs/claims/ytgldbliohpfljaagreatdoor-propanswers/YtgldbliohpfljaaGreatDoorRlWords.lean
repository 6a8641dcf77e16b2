/-
  The walk of the document's words.
-/
import Derived.Test.YtgldbliohpfljaaGreatDoorRlSplitAll
import Derived.Test.YtgldbliohpfljaaGreatDoorRpPieceAll
import Derived.Test.YtgldbliohpfljaaGreatDoorRpRuneAll
import Derived.Test.YtgldbliohpfljaaGreatDoorShelf4
namespace Go.Proofs.YtgldbliohpfljaaGreatDoor
open Go.RowKit
theorem Tryz.infoTxW : (Tryz.prog.info? 9).map (fun i => (i.zero, i.size, i.bytes)) = some (some (.string ⟨#[]⟩), 1, 16) := by kernel_rfl
def strV' (x : List UInt8) : Value := .string ⟨x.toArray⟩
def kept (l : List (List UInt8)) : List (List UInt8) := l.filter fun w => !w.isEmpty
theorem kept_succ (l : List (List UInt8)) (k : Nat) (h : k < l.length) : kept (l.take (k + 1)) = kept (l.take k) ++ (if l[k].isEmpty then [] else [l[k]]) := by
  unfold kept
  rw [List.take_succ_eq_append_getElem h, List.filter_append]
  congr 1
  cases hb : l[k].isEmpty <;> simp [hb]
theorem kept_le (l : List (List UInt8)) (k : Nat) : (kept (l.take k)).length ≤ k := by
  unfold kept
  exact Nat.le_trans (List.length_filter_le _ _) (by simp; omega)
set_option maxHeartbeats 4000000 in
set_option maxRecDepth 100000 in
theorem rwords_any (s : ByteArray) (m : Int) (w : World) (hs : s.size ≤ 100000) (hm : w.cell? ⟨4, 0, none⟩ = some (.int .i64 m)) :
    Calls Tryz.prog 109 #[.string s] w fun e w' => ∃ v, e = .returned v ∧ w'.ownsRow w.heap.size 9 1 v (Ld.words s.data.toList).length ((Ld.words s.data.toList).map strV') ∧ Below w.heap.size w w' := by
  obtain ⟨i0, hi0, hz0, hz1, hz2⟩ := info_parts Tryz.infoTxW
  obtain ⟨L, hL⟩ : ∃ L, L = Ld.split 32 s.data.toList := ⟨_, rfl⟩
  have HWD : Hid (Ld.words s.data.toList = kept L) := by show _ = _; rw [hL]; rfl
  have hsp := Ld.splitB_one 32 s
  rw [← hL] at hsp
  have hN : Lib.countB s ⟨#[32]⟩ + 1 = L.length := by
    rw [← hsp, List.length_map, Lib.splitB_all _ (by decide) 0 _ _ rfl]
  have hcb := Lib.countB_le ⟨#[32]⟩ (by decide) s.size s (Nat.le_refl _)
  have HSP := hide (Tryz.strings_Split s ⟨#[32]⟩ m w (by omega) hm (by decide))
  obtain ⟨wS, hwS⟩ : ∃ wS, wS = w.alloc (.cells ((Lib.splitB ⟨#[32]⟩ 0 (Lib.countB s ⟨#[32]⟩) s).map Value.string).toArray 9) := ⟨_, rfl⟩
  have HCE : Hid (∀ (k : Nat) x, L[k]? = some x → wS.cell? ⟨w.heap.size, k, none⟩ = some (.string ⟨x.toArray⟩)) := fun k x hx => by
    rw [hwS, Lib.cell_of_heap (heap_alloc_new w _) k, List.getElem?_toArray, List.getElem?_map]
    rw [← hsp, List.getElem?_map, Option.map_eq_some_iff] at hx
    obtain ⟨y, hy, rfl⟩ := hx
    rw [hy]
    simp
  have hbS : Below w.heap.size w wS := by rw [hwS]; exact (Below.refl _ _).alloc (Nat.le_refl _) _
  have HBS := hide hbS
  have hlS : w.heap.size < wS.heap.size := by rw [hwS]; simp
  rw [HWD.out]
  rw [hN, ← hwS] at HSP
  obtain ⟨n, hn⟩ : ∃ n, n = L.length := ⟨_, rfl⟩
  have HN := hide hn
  rw [← hn] at HSP
  have hn6 : n ≤ 100001 := by omega
  clear hwS hbS hsp hL hN hcb hm hn
  go_enter Tryz.func109, Tryz.ntmps109
  go_wp2_with fail
  refine HSP.out.mono ?_
  rintro e w1 ⟨rfl, hw1⟩
  rw [hw1]
  clear hw1 HSP
  go_wp2_with fail
  go_loopw [3, 9] (fun l i wr => ∃ k : Nat, k ≤ n ∧ i = .int .i64 (k : Int) ∧ (∃ a c, l = .slice a (kept (L.take k)).length c) ∧ Hid (wr.ownsRow wS.heap.size 9 1 l (kept (L.take k)).length ((kept (L.take k)).map strV')) ∧ Hid (Below wS.heap.size wS wr)) (fun _ i _ => n - (intOf i).toNat)
  case atStart => exact ⟨0, Nat.zero_le _, rfl, ⟨_, _, rfl⟩, World.ownsRow_nil _ _ _ _, Below.refl _ _⟩
  case round =>
    obtain ⟨k, hk, rfl, ⟨la, lc, rfl⟩, HO, HB⟩ := hrel
    have hple := kept_le L k
    by_cases hlt : k < n
    · have hkl : k < L.length := by rw [← HN.out]; exact hlt
      have c1 := (HB.out.cell (p := ⟨w.heap.size, k, none⟩) hlS).trans (HCE.out k _ (List.getElem?_eq_getElem hkl))
      have HSU := hide (kept_succ L k hkl)
      have hki : (k : Int) < (n : Int) := by omega
      generalize L[k] = y at *
      generalize kept (L.take k) = pl at *
      have hbs := bytes_list y
      have hzr := HB.out.size
      cases hy : y.isEmpty with
      | true =>
        rw [hy, if_pos rfl, List.append_nil] at HSU
        go_wp2_with fail
        exact ⟨⟨k + 1, by omega, by go_num, ⟨_, _, by rw [HSU.out]⟩, by rw [HSU.out]; exact HO.out, HB.out⟩, by simp [intOf]; omega⟩
      | false =>
        rw [hy, if_neg Bool.false_ne_true] at HSU
        have HOWN : Hid (∀ o, (wr.alloc o).ownsRow wS.heap.size 9 1 (.slice la pl.length lc) pl.length (pl.map strV')) := fun o => HO.out.alloc o
        have HONE : Hid (∀ u ∈ [Value.string ⟨y.toArray⟩], u.oneCell' = true) := by
          intro u hu
          simp only [List.mem_cons, List.not_mem_nil, or_false] at hu
          subst hu; rfl
        have HFIN : Hid (∀ (o : Obj) (g cap : Nat) (wA : World), wA.ownsRow wS.heap.size 9 1 (.slice (some ⟨g, 0, none⟩) (pl.length + 1) cap) (pl.length + 1) (pl.map strV' ++ [strV' y]) → (wr.alloc o).grownBy wA (Value.slice la pl.length lc).ownBlock →
            (wA.ownsRow wS.heap.size 9 1 (.slice (some ⟨g, 0, none⟩) (pl.length + 1) cap) (kept (L.take (k + 1))).length ((kept (L.take (k + 1))).map strV') ∧ (kept (L.take (k + 1))).length = pl.length + 1) ∧ Below wS.heap.size wS wA) := by
          intro o g cap wA hown hgrow
          rw [HSU.out]
          refine ⟨⟨by simpa using hown, by simp⟩, ?_⟩
          exact (HB.out.alloc HB.out.size o).grown hgrow (by simp; omega) (fun j e => (HO.out.lt j e).1)
        go_wp2_with (at_builtin; refine wpList_append_lies _ rfl (.tmp 15) (.tmp 17) 65 rfl wS.heap.size 9 i0 _ 1 16 Tryz.underlying65 hi0 hz0 hz1 hz2 rfl (by decide) (.slice la pl.length lc) pl.length (pl.map strV') rfl (HOWN.out _) ⟨wr.heap.size, 0, none⟩ 1 1 [.string ⟨y.toArray⟩] rfl rfl (World.news_of_block (heap_alloc_new wr _)) HONE.out (by decide) (by unfold maxLen; omega) (by omega) (by simp; omega) (wr.heap.size + 1) (by simp) ?_; intro g2 cap2 wC hown hgrow hat hltg; obtain ⟨⟨hoC, hlC⟩, hbC⟩ := HFIN.out _ g2 cap2 wC hown hgrow; have HOC := hide hoC; have HLC := hide hlC; have HBC := hide hbC; clear hown hgrow hat hoC hlC hbC)
        exact ⟨⟨k + 1, by omega, by go_num, ⟨_, _, by rw [HLC.out]⟩, HOC.out, HBC.out⟩, by simp [intOf]; omega⟩
    · have hkn : k = n := by omega
      subst hkn
      have htk : L.take k = L := List.take_of_length_le (by rw [← HN.out]; exact Nat.le_refl _)
      rw [htk] at HO ⊢
      go_wp2_with fail
      go_ret
      exact ⟨_, rfl, own_mono HO.out (by omega), HBS.out.trans (HB.out.mono HBS.out.size)⟩
end Go.Proofs.YtgldbliohpfljaaGreatDoor
