/-
  The walks of slices.Grow and slices.Concat over rows of names, and of package lasso's timesOf.
-/
import Derived.Test.YtmdblokmplbpmaaDoorLsCheck
import Derived.Maps.AppendAt
import Derived.Deep.Strs
namespace Go.Proofs.YtmdblokmplbpmaaDoor
namespace Ls
open Go.RowKit
theorem Tryd.infoNames : (Tryd.prog.info? 58).map (fun i => (i.zero, i.size, i.bytes)) = some (some (.slice none 0 0), 1, 24) := by kernel_rfl
/-- nothing is appended -/
theorem append_zero {W : World} (base : Nat) (t ty e : TypeId) (i : TypeInfo) (size : Nat) (ht : Tryd.prog.underlying t = some (.slice e)) (hi : Tryd.prog.info? e = some i) (v : Value) (n : Nat) (xs : List Value) (hown : W.ownsRow base e size v n xs) (a : Option Addr) (c : Nat) :
    (Builtin.append_ #[t, t] ty #[v, .slice a 0 c]).run Tryd.prog W = .ok v W := by
  rcases hown.2 with ⟨rfl, rfl⟩ | ⟨g, cap, cur, rfl, _, _, hnc, _⟩
  · cases a <;> simp [Builtin.append_, run_underlying ht, sizeOf, typeInfo, hi, Builtin.lenOf, Builtin.firstCells, loadCells, loadCellsFrom]
  · cases a <;> simp [Builtin.append_, run_underlying ht, sizeOf, typeInfo, hi, Builtin.lenOf, Builtin.firstCells, hnc, storeCells, loadCells, loadCellsFrom]
/-- the rows of a list of rows, as they lie -/
def Vals (w : World) (sv : Value) (us : List Value) : Prop := ∃ a c, sv = .slice a us.length c ∧ ∀ (k : Nat) u, us[k]? = some u → ∃ g o, a = some ⟨g, o, none⟩ ∧ us.length ≤ c ∧ w.cell? ⟨g, o + k, none⟩ = some u
def Each (w : World) (us : List Value) (L : List (List (List UInt8))) : Prop := us.length = L.length ∧ ∀ (k : Nat) r, L[k]? = some r → ∃ u, us[k]? = some u ∧ Strs w u r
theorem Each.below {w w' : World} {us : List Value} {L : List (List (List UInt8))} (h : Each w us L) (hb : Below w.heap.size w w') : Each w' us L := ⟨h.1, fun k r hk => by obtain ⟨u, h1, h2⟩ := h.2 k r hk; exact ⟨u, h1, h2.below hb⟩⟩
theorem Vals.below {w w' : World} {sv : Value} {us : List Value} (h : Vals w sv us) (hb : Below w.heap.size w w') : Vals w' sv us := by
  obtain ⟨a, c, h1, h2⟩ := h
  exact ⟨a, c, h1, fun k u hk => by obtain ⟨g, o, e1, e2, e3⟩ := h2 k u hk; exact ⟨g, o, e1, e2, kept hb e3⟩⟩
theorem Each.append {w : World} {us vs : List Value} {L M : List (List (List UInt8))} (h : Each w us L) (k : Each w vs M) : Each w (us ++ vs) (L ++ M) := by
  refine ⟨by rw [List.length_append, List.length_append, h.1, k.1], fun j r hj => ?_⟩
  by_cases hlt : j < L.length
  · rw [List.getElem?_append_left hlt] at hj
    rw [List.getElem?_append_left (by rw [h.1]; exact hlt)]
    exact h.2 j r hj
  · rw [List.getElem?_append_right (by omega)] at hj
    rw [List.getElem?_append_right (by rw [h.1]; omega), h.1]
    exact k.2 _ r hj
theorem Each.slice {w : World} {us : List Value} {L : List (List (List UInt8))} (h : Each w us L) (u : Value) (hu : u ∈ us) : ∃ a n c, u = .slice a n c := by
  obtain ⟨k, hk⟩ := List.mem_iff_getElem?.1 hu
  have hkl : k < L.length := by rw [← h.1]; exact (List.getElem?_eq_some_iff.1 hk).1
  obtain ⟨u', h1, h2⟩ := h.2 k _ (List.getElem?_eq_getElem hkl)
  rw [hk] at h1
  cases h1
  obtain ⟨a, c, h3⟩ := h2.slice
  exact ⟨a, _, c, h3⟩
theorem Rows.vals {w : World} {sv : Value} {L : List (List (List UInt8))} (h : Rows w sv L) : ∃ us, Vals w sv us ∧ Each w us L := by
  obtain ⟨a, c, h1, h2, h3⟩ := h
  have hx : ∀ k, k < L.length → ∃ u : Value, (∃ g o, a = some ⟨g, o, none⟩ ∧ L.length ≤ c ∧ w.cell? ⟨g, o + k, none⟩ = some u) ∧ ∀ r, L[k]? = some r → Strs w u r := fun k hk => by
    obtain ⟨g, o, v, e1, e2, e3, e4⟩ := h3 k _ (List.getElem?_eq_getElem hk)
    exact ⟨v, ⟨g, o, e1, e2, e3⟩, fun r hr => by rw [List.getElem?_eq_getElem hk] at hr; cases hr; exact e4⟩
  obtain ⟨f, hf⟩ := Go.Deep.choose_lt hx
  refine ⟨(List.range L.length).map f, ⟨a, c, by rw [h1]; simp, fun k u hu => ?_⟩, by simp, fun k r hr => ?_⟩
  · have hk : k < L.length := by have := (List.getElem?_eq_some_iff.1 hu).1; simpa using this
    have : f k = u := by simpa [hk] using hu
    subst this
    simpa using (hf k hk).1
  · have hk : k < L.length := (List.getElem?_eq_some_iff.1 hr).1
    exact ⟨f k, by simp [hk], (hf k hk).2 r hr⟩
/-- an own row of rows -/
theorem rows_own {W : World} {q : Nat} {v : Value} {us : List Value} {L : List (List (List UInt8))} (h : W.ownsRow q 58 1 v us.length us) (hl : L.length ≤ maxLen) (he : Each W us L) : Rows W v L := by
  have hlen := he.1
  rcases h.2 with ⟨hx, h0⟩ | ⟨g', cap, cur, hx, _, hcur, hcap, _, _, htk⟩
  · have : L = [] := List.length_eq_zero_iff.1 (by rw [← hlen]; exact h0)
    subst this
    exact ⟨none, 0, hx, by simp, fun k r hk => by simp at hk⟩
  · refine ⟨some ⟨g', 0, none⟩, cap, by rw [hx, hlen], hl, fun k r hk => ?_⟩
    obtain ⟨u, h1, h2⟩ := he.2 k r hk
    exact ⟨g', 0, u, rfl, by rw [← hlen]; exact hcap, by rw [Nat.zero_add]; exact row_cell hcur (by simpa using htk) h1, h2⟩
/-- rows are appended to an own row -/
theorem append_vals {W : World} (base : Nat) (ty : TypeId) (v sv : Value) (xs us : List Value) (hown : W.ownsRow base 58 1 v xs.length xs) (hs : Vals W sv us) (hsl : ∀ u, u ∈ us → ∃ a n c, u = Value.slice a n c) (hb : base ≤ W.heap.size) (hx : xs.length ≤ 1000) (hu : us.length ≤ 1000) :
    ∃ v' W', (Builtin.append_ #[22, 22] ty #[v, sv]).run Tryd.prog W = .ok v' W' ∧ W'.ownsRow base 58 1 v' (xs ++ us).length (xs ++ us) ∧ W.grownBy W' v.ownBlock ∧ (us.length = 0 → v' = v ∧ W' = W) := by
  obtain ⟨i0, hi0, hz0, hz1, hz2⟩ := info_parts Tryd.infoNames
  obtain ⟨a, c, rfl, hc⟩ := hs
  cases us with
  | nil => exact ⟨v, W, append_zero base _ ty _ i0 1 Tryd.underlying22 hi0 v _ _ hown a c, by simpa using hown, ⟨rfl, rfl, rfl, Nat.le_refl _, fun _ _ _ => rfl⟩, fun _ => ⟨rfl, rfl⟩⟩
  | cons u0 ur =>
    obtain ⟨g, o, rfl, hcap, _⟩ := hc 0 u0 rfl
    obtain ⟨v', W', h1, h2, h3, _⟩ := run_append_own_at (P := Tryd.prog) W base 22 ty 58 i0 _ 1 24 Tryd.underlying22 hi0 hz0 hz1 hz2 rfl (by decide) v xs.length xs hown ⟨g, o, none⟩ (u0 :: ur).length c (u0 :: ur) (by simp) (fun j u hj => by
        obtain ⟨g', o', e1, _, e3⟩ := hc j u hj
        cases e1
        cases j <;> simpa [Addr.add] using e3) (fun u hu => by
        obtain ⟨a, n, c, rfl⟩ := hsl u hu
        rfl) (by unfold maxLen; omega) (by omega) hb
    exact ⟨v', W', h1, by rw [List.length_append]; exact h2, h3, fun h => by simp at h⟩
set_option maxHeartbeats 2000000 in
set_option maxRecDepth 100000 in
theorem grow_any (t : Nat) (h0 : 0 < t) (h60 : t ≤ 1000) (w : World) :
    Calls Tryd.prog 56 #[.slice none 0 0, .int .i64 (t : Int)] w fun e w' => ∃ v, e = .returned v ∧ w'.ownsRow w.heap.size 58 1 v 0 [] ∧ Below w.heap.size w w' := by
  obtain ⟨i0, hi0, hz0, hz1, hz2⟩ := info_parts Tryd.infoNames
  have HA := hide (fun (W : World) (ty : TypeId) => Lib.run_append_nil_zeros (P := Tryd.prog) W 22 3 ty 58 i0 _ .i64 .i64 Tryd.underlying22 Tryd.underlying3 hi0 hz0 t h0 (by omega) (by omega) (by rw [hz2]; omega))
  have hti : (0 : Int) < (t : Int) := by omega
  have HCG := hide (grownCap_ge w t 0 58)
  have HCM := hide (grownCap_le_maxLen w t 0 58 (by unfold maxLen; omega))
  clear hi0 hz0 hz1 hz2
  go_enter Tryd.func56, Tryd.ntmps56
  go_wp2_with (at_builtin; refine Lib.wpList_append_run _ rfl _ _ _ _ rfl _ _ rfl rfl _ _ (HA.out _ _) ?_)
  go_ret
  refine ⟨_, rfl, ⟨by simp, .inr ⟨w.heap.size, grownCap w t 0 58, _, rfl, Nat.le_refl _, heap_alloc_new w _, Nat.zero_le _, HCM.out, ?_, by simp⟩⟩, ?_⟩
  · have := HCG.out
    simp [Builtin.zeroCells]
    omega
  · exact ((Below.refl _ w).alloc (Nat.le_refl _) _).trans ⟨rfl, rfl, rfl, Nat.le_refl _, fun _ _ => rfl⟩
theorem ownBlock_new {W : World} {q : Nat} {e : TypeId} {s : Nat} {v : Value} {n : Nat} {xs : List Value} (h : W.ownsRow q e s v n xs) : v.ownBlock = none ∨ ∃ g, v.ownBlock = some g ∧ q ≤ g := by
  rcases h.2 with ⟨h1, _⟩ | ⟨g, cap, cur, h1, h2, _⟩
  · exact .inl (by rw [h1]; rfl)
  · exact .inr ⟨g, by rw [h1]; rfl, h2⟩
/-- what grew in a row that is younger than the world at the start leaves all elder blocks -/
theorem below_grown {w W W' : World} {v : Value} (hb : Below w.heap.size w W) (hg : W.grownBy W' v.ownBlock) (hv : v.ownBlock = none ∨ ∃ g, v.ownBlock = some g ∧ w.heap.size ≤ g) : Below w.heap.size w W' := by
  refine ⟨hg.os.trans hb.os, hg.tape.trans hb.tape, hg.output.trans hb.output, Nat.le_trans hb.size hg.size, fun k hk => ?_⟩
  refine (hg.block k (Nat.lt_of_lt_of_le hk hb.size) ?_).trans (hb.block k hk)
  rcases hv with h | ⟨g, h, hgl⟩
  · rw [h]; intro e; cases e
  · rw [h]; intro e; cases e; omega
set_option maxHeartbeats 4000000 in
set_option maxRecDepth 100000 in
theorem concat_any (ua ur : List Value) (av rv : Value) (g : Nat) (w : World) (va : Vals w av ua) (vr : Vals w rv ur) (hsa : ∀ u, u ∈ ua → ∃ a n c, u = Value.slice a n c) (hsr : ∀ u, u ∈ ur → ∃ a n c, u = Value.slice a n c) (h0 : 0 < ur.length) (h60 : ua.length + ur.length ≤ 60) (c0 : w.cell? ⟨g, 0, none⟩ = some av) (c1 : w.cell? ⟨g, 1, none⟩ = some rv) :
    Calls Tryd.prog 38 #[.slice (some ⟨g, 0, none⟩) 2 2] w fun e w' => ∃ v, e = .returned v ∧ w'.ownsRow w.heap.size 58 1 v (ua ++ ur).length (ua ++ ur) ∧ Below w.heap.size w w' := by
  have HVA := hide va
  have HVR := hide vr
  have HSA := hide hsa
  have HSR := hide hsr
  obtain ⟨aa, ac, rfl, _⟩ := va
  obtain ⟨ra, rc, rfl, _⟩ := vr
  have HG := hide (fun W => grow_any (ua.length + ur.length) (by omega) (by omega) W)
  have HC0 := hide c0
  have HC1 := hide c1
  clear hsa hsr
  generalize hn : ua.length = n at *
  generalize hm : ur.length = m at *
  have HLA := hide hn
  have HLR := hide hm
  clear hn hm c0 c1
  go_enter Tryd.func38, Tryd.ntmps38
  go_wp2_with fail
  go_loop [11, 3] (fun i s => ∃ k : Nat, k ≤ 2 ∧ i = .int .i64 (k : Int) ∧ s = .int .i64 ((if k = 0 then 0 else if k = 1 then n else n + m : Nat) : Int)) (fun i _ => 2 - (intOf i).toNat)
  case atStart => exact ⟨0, by omega, rfl, rfl⟩
  case round =>
    obtain ⟨k, hk, rfl, rfl⟩ := hrel
    have hk3 : k = 0 ∨ k = 1 ∨ k = 2 := by omega
    have c0 := HC0.out
    have c1 := HC1.out
    rcases hk3 with rfl | rfl | rfl
    · have hni : ¬ ((n : Int) < 0) := by omega
      go_wp2_with fail
      go_round
      case rel => exact ⟨1, by omega, by go_num, by simp⟩
      case measure => simp [intOf]
    · have hni : ¬ ((n : Int) + (m : Int) < 0) := by omega
      rw [if_neg (by decide), if_pos rfl]
      go_wp2_with fail
      go_round
      case rel => exact ⟨2, by omega, by go_num, by simp⟩
      case measure => simp [intOf]
    · rw [if_neg (by decide), if_neg (by decide)]
      clear hk
      go_wp2_with fail
      have hnm : ((n + m : Nat) : Int) = (n : Int) + (m : Int) := by omega
      have HGW := hide (HG.out w)
      rw [hnm] at HGW
      refine HGW.out.mono ?_
      rintro e w1 ⟨v1, rfl, hown1, hb1⟩
      have HO1 := hide hown1
      have HB1 := hide hb1
      obtain ⟨a1, cp1, rfl⟩ := own_slice hown1
      clear hown1 hb1 HGW HG hnm c0 c1
      go_wp2_with fail
      go_loopw [27, 6] (fun i s wr => ∃ (k : Nat) (xs : List Value) (a : Option Addr) (c : Nat), k ≤ 2 ∧ i = .int .i64 (k : Int) ∧ s = .slice a xs.length c ∧ Hid (xs = if k = 0 then [] else if k = 1 then ua else ua ++ ur) ∧ Hid (wr.ownsRow w.heap.size 58 1 (.slice a xs.length c) xs.length xs) ∧ Hid (Below w.heap.size w wr)) (fun i _ _ => 2 - (intOf i).toNat)
      case atStart => exact ⟨0, [], a1, cp1, by omega, rfl, rfl, rfl, HO1.out, HB1.out⟩
      case round =>
        obtain ⟨k, xs, a2, c2, hk, rfl, rfl, HX, HO, HB⟩ := hrel
        have hk3 : k = 0 ∨ k = 1 ∨ k = 2 := by omega
        have c0 := kept HB.out HC0.out
        have c1 := kept HB.out HC1.out
        rcases hk3 with rfl | rfl | rfl
        · have hx0 : xs = [] := HX.out
          obtain ⟨v', W', r1, r2, r3, _⟩ := append_vals w.heap.size 22 (.slice a2 xs.length c2) _ xs ua HO.out (HVA.out.below HB.out) HSA.out HB.out.size (by rw [hx0]; decide) (by rw [HLA.out]; omega)
          have HR1 := hide r1
          have HXX : Hid (xs ++ ua = ua) := by rw [hx0]; rfl
          have HO2 := hide r2
          have HB2 := hide (below_grown HB.out r3 (ownBlock_new HO.out))
          obtain ⟨a3, c3, rfl⟩ := own_slice r2
          clear r1 r2 r3 hk hx0
          go_wp2_with (at_builtin; refine Lib.wpList_append_run _ rfl _ _ _ _ rfl _ _ rfl rfl _ _ HR1.out ?_)
          go_roundw
          case rel => exact ⟨1, xs ++ ua, a3, c3, by omega, by go_num, by rw [List.length_append], HXX.out, HO2.out, HB2.out⟩
          case measure => simp [intOf]
        · have hx0 : xs = ua := HX.out
          obtain ⟨v', W', r1, r2, r3, _⟩ := append_vals w.heap.size 22 (.slice a2 xs.length c2) _ xs ur HO.out (HVR.out.below HB.out) HSR.out HB.out.size (by rw [hx0, HLA.out]; omega) (by rw [HLR.out]; omega)
          have HR1 := hide r1
          have HXX : Hid (xs ++ ur = ua ++ ur) := by rw [hx0]; rfl
          have HO2 := hide r2
          have HB2 := hide (below_grown HB.out r3 (ownBlock_new HO.out))
          obtain ⟨a3, c3, rfl⟩ := own_slice r2
          clear r1 r2 r3 hk hx0
          go_wp2_with (at_builtin; refine Lib.wpList_append_run _ rfl _ _ _ _ rfl _ _ rfl rfl _ _ HR1.out ?_)
          go_roundw
          case rel => exact ⟨2, xs ++ ur, a3, c3, by omega, by go_num, by rw [List.length_append], HXX.out, HO2.out, HB2.out⟩
          case measure => simp [intOf]
        · have HX0 : Hid (xs = ua ++ ur) := HX.out
          clear hk HX
          go_wp2_with fail
          go_ret
          have hx0 := HX0.out
          subst hx0
          exact ⟨_, rfl, HO.out, HB.out⟩
/-- block b holds times: the rows, and where the round begins -/
def Tm (w : World) (b : Nat) (nv : Value) (r : Nat) : Prop := w.cell? ⟨b, 0, none⟩ = some nv ∧ w.cell? ⟨b, 1, none⟩ = some (.int .i64 (r : Int))
theorem Tm.below {w w' : World} {b : Nat} {nv : Value} {r : Nat} (h : Tm w b nv r) (hb : Below w.heap.size w w') : Tm w' b nv r := ⟨kept hb h.1, kept hb h.2⟩
theorem Tm.lt {w : World} {b : Nat} {nv : Value} {r : Nat} (h : Tm w b nv r) : b < w.heap.size := World.block_lt_of_cell? _ _ h.1
theorem Tm.new (w : World) (nv : Value) (r : Nat) : Tm (w.alloc (.cells #[nv, .int .i64 (r : Int)] 67)) w.heap.size nv r :=
  ⟨by rw [Lib.cell_of_heap (heap_alloc_new w _)]; rfl, by rw [Lib.cell_of_heap (heap_alloc_new w _)]; rfl⟩
theorem newB (w : World) (o : Obj) : Below w.heap.size w (w.alloc o) := (Below.refl _ _).alloc (Nat.le_refl _) _
end Ls
end Go.Proofs.YtmdblokmplbpmaaDoor
