/-
  The walks of slices.Clone over numbers, and of package block's Blocks.
-/
import Derived.Test.YtdeijfkahhgojaaDoorBkBlocks
import Derived.Test.YtdeijfkahhgojaaDoorBkCheck
import Derived.Maps.AppendAt
namespace Go.Proofs.YtdeijfkahhgojaaDoor
namespace Bk
open Go.RowKit
/-- nothing is appended -/
theorem append_zero {W : World} (base : Nat) (t ty e : TypeId) (i : TypeInfo) (size : Nat) (ht : Tryd.prog.underlying t = some (.slice e)) (hi : Tryd.prog.info? e = some i) (v : Value) (n : Nat) (xs : List Value) (hown : W.ownsRow base e size v n xs) (a : Option Addr) (c : Nat) :
    (Builtin.append_ #[t, t] ty #[v, .slice a 0 c]).run Tryd.prog W = .ok v W := by
  rcases hown.2 with ⟨rfl, rfl⟩ | ⟨g, cap, cur, rfl, _, _, hnc, _⟩
  · cases a <;> simp [Builtin.append_, run_underlying ht, sizeOf, typeInfo, hi, Builtin.lenOf, Builtin.firstCells, loadCells, loadCellsFrom]
  · cases a <;> simp [Builtin.append_, run_underlying ht, sizeOf, typeInfo, hi, Builtin.lenOf, Builtin.firstCells, hnc, storeCells, loadCells, loadCellsFrom]
theorem eqNil_none (w : World) (n c : Nat) : (binOp BinOp.eql 31 (.slice none n c) (.slice none 0 0)).run Tryd.prog w = .ok (.bool true) w := by kernel_rfl
theorem eqNil_some (w : World) (a : Addr) (n c : Nat) : (binOp BinOp.eql 31 (.slice (some a) n c) (.slice none 0 0)).run Tryd.prog w = .ok (.bool false) w := by kernel_rfl
theorem add_plain (g o j : Nat) : (⟨g, o, none⟩ : Addr).add j = ⟨g, o + j, none⟩ := by unfold Addr.add; split <;> simp_all
/-- a row of numbers that a call has built -/
def Rw (W : World) (q : Nat) (v : Value) (l : List Int) : Prop := W.ownsRow q 3 1 v l.length (l.map intV)
theorem Rw.ints {W : World} {q : Nat} {v : Value} {l : List Int} (h : Rw W q v l) (hl : l.length ≤ maxLen) (hb : ∀ i, i ∈ l → I64 i) : Ints W v l := ints_own h hl hb
set_option maxHeartbeats 2000000 in
set_option maxRecDepth 100000 in
theorem clone_any (l : List Int) (sv : Value) (w : World) (h : Ints w sv l) (hl : l.length ≤ 1000) :
    Calls Tryd.prog 20 #[sv] w fun e w' => ∃ v, e = .returned v ∧ Rw w' w.heap.size v l ∧ Below w.heap.size w w' := by
  obtain ⟨i0, hi0, hz0, hz1, hz2⟩ := info_parts Tryd.infoInt
  have q0 := fun n c => eqNil_none w n c
  have q1 := fun a n c => eqNil_some w a n c
  have HBA : Hid (Below w.heap.size w (w.alloc (.cells #[] 3))) := (Below.refl _ w).alloc (Nat.le_refl _) _
  obtain ⟨a, cp, rfl, h2, h3⟩ := h
  by_cases h0 : l.length = 0
  · obtain rfl := List.length_eq_zero_iff.1 h0
    cases a with
    | none =>
      go_enter Tryd.func20, Tryd.ntmps20
      go_wp2_with fail
      go_ret
      exact ⟨_, rfl, World.ownsRow_nil _ _ _ _, Below.refl _ _⟩
    | some ad =>
      go_enter Tryd.func20, Tryd.ntmps20
      go_wp2_with (at_builtin; refine Lib.wpList_append_run _ rfl (.tmp 5) (.tmp 6) 31 31 rfl _ _ rfl rfl _ _ (append_zero w.heap.size _ _ _ i0 1 Tryd.underlying31 hi0 _ 0 [] (own_zero w w.heap.size 3 1 (Nat.le_refl _)) _ _) ?_)
      go_ret
      exact ⟨_, rfl, own_zero w w.heap.size 3 1 (Nat.le_refl _), HBA.out⟩
  · have hp : 0 < l.length := by omega
    obtain ⟨g, o, rfl, hcp, _, _⟩ := h3 0 _ (List.getElem?_eq_getElem hp)
    have HOWN : Hid ((w.alloc (.cells #[] 3)).ownsRow w.heap.size 3 1 (.slice (some ⟨w.heap.size, 0, none⟩) 0 0) 0 []) := own_zero w w.heap.size 3 1 (Nat.le_refl _)
    have HNEW : Hid (∀ j u, (l.map intV)[j]? = some u → (w.alloc (.cells #[] 3)).cell? ((⟨g, o, none⟩ : Addr).add j) = some u) := fun j u hu => by
      rw [List.getElem?_map, Option.map_eq_some_iff] at hu
      obtain ⟨x, hx, rfl⟩ := hu
      obtain ⟨g', o', e1, _, e3, _⟩ := h3 j x hx
      simp only [Option.some.injEq, Addr.mk.injEq, and_true] at e1
      obtain ⟨rfl, rfl⟩ := e1
      rw [add_plain]
      exact kept HBA.out e3
    have HONE : Hid (∀ u ∈ l.map intV, u.oneCell' = true) := by
      intro u hu
      obtain ⟨x, _, rfl⟩ := List.mem_map.1 hu
      rfl
    have HLC : Hid ((l.map intV).length = l.length * 1) := by show _ = _; simp
    have HFIN : Hid (∀ (g2 cap2 : Nat) (wC : World), wC.ownsRow w.heap.size 3 1 (.slice (some ⟨g2, 0, none⟩) (0 + l.length) cap2) (0 + l.length) ([] ++ l.map intV) → Rw wC w.heap.size (.slice (some ⟨g2, 0, none⟩) l.length cap2) l) := fun g2 cap2 wC h => by
      rw [Nat.zero_add, List.nil_append] at h
      exact h
    obtain ⟨n, hn⟩ : ∃ n, n = l.length := ⟨_, rfl⟩
    rw [← hn] at hl hp HLC HFIN ⊢
    clear h3 h2 h0 hn hcp
    go_enter Tryd.func20, Tryd.ntmps20
    go_wp2_with (at_builtin; refine wpList_append_lies _ rfl (.tmp 5) (.tmp 6) 31 rfl w.heap.size 3 i0 _ 1 8 Tryd.underlying31 hi0 hz0 hz1 hz2 rfl (by decide) (.slice (some ⟨w.heap.size, 0, none⟩) 0 0) 0 [] rfl HOWN.out ⟨g, o, none⟩ n cp (l.map intV) rfl HLC.out HNEW.out HONE.out hp (by unfold maxLen; omega) (by omega) (by simp) (w.heap.size + 1) (by simp) ?_; intro g2 cap2 wC hown hgrow hat2 hltg; have HF := hide (HFIN.out g2 cap2 wC hown); have HGR := hide hgrow; clear hown hgrow hat2)
    go_ret
    exact ⟨_, rfl, HF.out, HBA.out.grown HGR.out (by simp) (fun j e => by simp only [Value.ownBlock, Option.some.injEq] at e; omega)⟩
/-- what Blocks comes to: what is wrong; else of each state its block's number -/
def BlocksDone (w : World) (N T : List (List Int)) (e : Ending) (w' : World) : Prop := Below w.heap.size w w' ∧
  ((check N T ≠ none ∧ ∃ v, e = .returned (.tuple #[.slice none 0 0, v]) ∧ ErrIs w' v (check N T)) ∨
   (check N T = none ∧ ∃ d gO, 1 ≤ d ∧ Stable (tab N T) d ∧ e = .returned (.tuple #[.slice (some ⟨gO, 0, none⟩) N.length N.length, .nilIface]) ∧ RowIs w' gO 3 ((ints (gd N T d).1).map intV) ∧ w.heap.size ≤ gO))
/-- an error's form -/
theorem ErrIs.iface {w : World} {v : Value} {r : Option (Nat × Option Nat)} (h : ErrIs w v r) (hr : r ≠ none) : ∃ t y, v = .iface t y := by
  match r, h with
  | none, _ => exact absurd rfl hr
  | some (_, none), h => exact ⟨_, _, h⟩
  | some (_, some _), ⟨a, h, _⟩ => exact ⟨_, _, h⟩
theorem neqNil (t : TypeId) (y : Value) (w : World) : (binOp BinOp.neq 33 (.iface t y) .nilIface).run Tryd.prog w = .ok (.bool true) w := by kernel_rfl
theorem neqNilN (w : World) : (binOp BinOp.neq 33 .nilIface .nilIface).run Tryd.prog w = .ok (.bool false) w := by kernel_rfl
set_option maxHeartbeats 4000000 in
set_option maxRecDepth 100000 in
theorem Blocks_any (N T : List (List Int)) (nv tv : Value) (w : World) (hN : Rows w nv N) (hT : Rows w tv T) :
    Calls Tryd.prog 6 #[.agg #[nv, tv]] w (BlocksDone w N T) := by
  obtain ⟨wA, hwA⟩ : ∃ wA, wA = w.alloc (.cells #[nv, tv] 24) := ⟨_, rfl⟩
  have hBA : Below w.heap.size w wA := by rw [hwA]; exact (Below.refl _ _).alloc (Nat.le_refl _) _
  have hTA : Tab wA w.heap.size nv tv := by rw [hwA]; exact Tab.new _ _ _
  have HC := hide (Check_any N T nv tv wA (hN.below hBA) (hT.below hBA))
  have HBL := hide (fun W (hG : Good N T) (hW : Below wA.heap.size wA W) => blocks_any N T nv tv W hG (hN.below (then_ hBA hW)) (hT.below (then_ hBA hW)))
  obtain ⟨na, nc, rfl⟩ := hN.slice
  obtain ⟨ta, tc, rfl⟩ := hT.slice
  have HBA := hide hBA
  have HTA := hide hTA
  obtain ⟨t0, t1⟩ := hTA
  have nq := neqNil
  have nn := neqNilN
  clear hN hT hBA
  go_enter Tryd.func6, Tryd.ntmps6
  go_wp2_with fail
  rw [← hwA]
  clear hwA
  refine HC.out.mono ?_
  rintro e w1 ⟨v, rfl, he, hb1⟩
  have HB1 := hide hb1
  obtain ⟨s0, s1⟩ := HTA.out.below hb1
  cases hck : check N T with
  | none =>
    rw [hck] at he
    obtain rfl : v = .nilIface := he
    have HB2 := hide (HBL.out w1 (good_of hck) hb1)
    have HCK := hide hck
    clear hb1 hck HC HBL
    go_wp2_with fail
    refine HB2.out.mono ?_
    rintro e w2 ⟨d, hd, hs, g2, f2, rfl, hr2, ho2, hg2, hb2⟩
    have HFIN : Hid (BlocksDone w N T (.returned (.tuple #[.slice (some ⟨g2, 0, none⟩) N.length N.length, .nilIface])) w2) := ⟨then_ HBA.out (then_ HB1.out hb2), .inr ⟨HCK.out, d, g2, hd, hs, rfl, hr2, Nat.le_trans HBA.out.size (Nat.le_trans HB1.out.size hg2)⟩⟩
    clear hr2 ho2 hg2 hb2 hs HB2
    go_wp2_with fail
    go_ret2
    exact HFIN.out
  | some r =>
    obtain ⟨t, y, rfl⟩ := he.iface (by rw [hck]; simp)
    have HFIN : Hid (BlocksDone w N T (.returned (.tuple #[.slice none 0 0, .iface t y])) w1) := ⟨then_ HBA.out HB1.out, .inl ⟨by rw [hck]; simp, _, rfl, he⟩⟩
    clear hb1 he hck HC HBL
    go_wp2_with fail
    go_ret2
    exact HFIN.out
end Bk
end Go.Proofs.YtdeijfkahhgojaaDoor
