/-
  Plain mathematics: bits of numbers, lists of bools as numbers. Slices of numbers in memory. Rows of one's own, of different types, are different ones. (Out of LdRd.) Slices of numbers, and rows of rows of bools, in memory. The walk of the statements' own inputs: so many bits of each number.
-/
import Derived.Test.YtflonjbbolmelaaGreatDoorMcMath
import Derived.Laws.Bits64b
import Derived.Laws.BitsLemmas
import Derived.Test.YtflonjbbolmelaaGreatDoorLdKindAll
import Derived.Test.YtflonjbbolmelaaGreatDoorScPlayAll
namespace Go.Proofs.YtflonjbbolmelaaGreatDoor
section
def bitB (x : Int) (k : Nat) : Bool := bits BinOp.and .i64 (x / 2 ^ k) 1 == 1
def bitsTo (x : Int) (k : Nat) : List Bool := (List.range k).map (bitB x)
theorem bitsTo_len (x : Int) (k : Nat) : (bitsTo x k).length = k := by simp [bitsTo]
theorem bitsTo_succ (x : Int) (k : Nat) : bitsTo x (k + 1) = bitsTo x k ++ [bitB x k] := by simp [bitsTo, List.range_succ]
namespace Mc
theorem bits_one (a : Int) : bits BinOp.and .i64 a 1 = a % 2 := by
  show IntKind.i64.wrap ((BitVec.ofInt 64 a &&& BitVec.ofInt 64 1).toNat : Int) = _
  have h1 : (BitVec.ofInt 64 1).toNat = 1 := by decide
  rw [BitVec.toNat_and, h1, Nat.and_one_is_mod, BitVec.toNat_ofInt]
  have h2 : (((a % ((2 ^ 64 : Nat) : Int)).toNat % 2 : Nat) : Int) = a % 2 := by
    have : (0 : Int) ≤ a % ((2 ^ 64 : Nat) : Int) := Int.emod_nonneg _ (by decide)
    omega
  rw [h2, IntKind.wrap_i64]
  have h3 := Int.emod_nonneg a (show (2 : Int) ≠ 0 by decide)
  have h4 := Int.emod_lt_of_pos a (show (0 : Int) < 2 by decide)
  omega
theorem bitB_eq (x : Int) (k : Nat) : bitB x k = decide (x / 2 ^ k % 2 = 1) := by
  unfold bitB
  rw [bits_one]
  rfl
theorem bitB_mod (x : Int) (q k : Nat) (hk : k < q) : bitB (x % 2 ^ q) k = bitB x k := by
  rw [bitB_eq, bitB_eq]
  have h : x % 2 ^ q / 2 ^ k % 2 = x / 2 ^ k % 2 := by
    obtain ⟨d, rfl⟩ : ∃ d, q = k + 1 + d := ⟨q - (k + 1), by omega⟩
    have e : (2 : Int) ^ (k + 1 + d) = 2 ^ k * (2 * 2 ^ d) := by rw [Int.pow_add, Int.pow_succ, Int.mul_assoc]
    rw [e]
    have hp : (0 : Int) < 2 ^ k := Int.pow_pos (by decide)
    have hx := Int.emod_add_mul_ediv x (2 ^ k * (2 * 2 ^ d))
    generalize x / (2 ^ k * (2 * 2 ^ d)) = c at hx
    generalize x % (2 ^ k * (2 * 2 ^ d)) = r at hx ⊢
    rw [← hx, show r + 2 ^ k * (2 * 2 ^ d) * c = r + 2 ^ k * (2 * (2 ^ d * c)) by rw [Int.mul_assoc, Int.mul_assoc], Int.add_mul_ediv_left _ _ (by omega)]
    omega
  rw [h]
theorem bitsTo_mod (x : Int) (q : Nat) : bitsTo (x % 2 ^ q) q = bitsTo x q := by
  unfold bitsTo
  apply List.map_congr_left
  intro k hk
  exact bitB_mod x q k (List.mem_range.1 hk)
/-- bools as a number: bit k is the k-th -/
def val : List Bool → Nat
  | [] => 0
  | b :: r => (if b then 1 else 0) + 2 * val r
theorem val_lt : ∀ l : List Bool, val l < 2 ^ l.length
  | [] => by simp [val]
  | b :: r => by
    have := val_lt r
    simp only [val, List.length_cons, Nat.pow_succ]
    split <;> omega
theorem val_snoc : ∀ (l : List Bool) (b : Bool), val (l ++ [b]) = val l + (if b then 2 ^ l.length else 0)
  | [], b => by simp [val]
  | a :: r, b => by
    rw [List.cons_append, val, val, val_snoc r b, List.length_cons, Nat.pow_succ]
    split <;> split <;> omega
theorem val_bit : ∀ (l : List Bool) (k : Nat), bitB (val l : Int) k = l.getD k false
  | [], k => by rw [bitB_eq]; simp [val]
  | b :: r, 0 => by
    rw [bitB_eq]
    cases b <;> simp [val] <;> omega
  | b :: r, k + 1 => by
    have ih := val_bit r k
    rw [bitB_eq] at ih ⊢
    have e : ((val (b :: r) : Nat) : Int) / 2 ^ (k + 1) = (val r : Int) / 2 ^ k := by
      rw [Int.pow_succ, Int.mul_comm, ← Int.ediv_ediv_of_nonneg (by decide)]
      congr 1
      cases b <;> simp [val] <;> omega
    rw [e]
    simpa using ih
theorem val_back (l : List Bool) : bitsTo (val l) l.length = l := by
  apply ext_getD (by rw [bitsTo_len])
  intro k hk
  rw [bitsTo_len] at hk
  rw [← val_bit l k]
  simp [bitsTo, hk]
theorem or_pow (v k : Nat) (hv : v < 2 ^ k) (hk : k < 62) : bits BinOp.or .i64 (v : Int) (2 ^ k : Nat) = ((v + 2 ^ k : Nat) : Int) := by
  have hp : 2 ^ k ≤ 2 ^ 61 := Nat.pow_le_pow_right (by decide) (by omega)
  have h1 : (BitVec.ofInt 64 (v : Int)).toNat = v := by
    rw [BitVec.ofInt_natCast, BitVec.toNat_ofNat]; exact Nat.mod_eq_of_lt (by omega)
  have h2 : (BitVec.ofInt 64 ((2 ^ k : Nat) : Int)).toNat = 2 ^ k := by
    rw [BitVec.ofInt_natCast, BitVec.toNat_ofNat]; exact Nat.mod_eq_of_lt (by omega)
  show IntKind.i64.wrap ((BitVec.ofInt 64 (v : Int) ||| BitVec.ofInt 64 ((2 ^ k : Nat) : Int)).toNat : Int) = _
  have h3 : v ||| 2 ^ k = v + 2 ^ k := by
    have := Nat.two_pow_add_eq_or_of_lt hv 1
    rw [Nat.mul_one] at this
    rw [Nat.or_comm, ← this, Nat.add_comm]
  rw [BitVec.toNat_or, h1, h2, h3, IntKind.wrap_i64]
  omega
end Mc
end
section
open Go.RowKit
/-- a slice of numbers that came in -/
def Ints (w : World) (sv : Value) (l : List Int) : Prop :=
  (l = [] ∧ ∃ a cap, sv = .slice a 0 cap) ∨ ∃ g o cap, sv = .slice (some ⟨g, o, none⟩) l.length cap ∧ l.length ≤ cap ∧ ∀ (k : Nat) x, l[k]? = some x → w.cell? ⟨g, o + k, none⟩ = some (.int .i64 x) ∧ I64 x
theorem Ints.below {w w' : World} {sv : Value} {l : List Int} (h : Ints w sv l) (hb : Below w.heap.size w w') : Ints w' sv l := by
  rcases h with h | ⟨g, o, cap, h1, h2, h3⟩
  · exact .inl h
  · exact .inr ⟨g, o, cap, h1, h2, fun k x hk => ⟨(hb.cell (World.block_lt_of_cell? _ _ (h3 k x hk).1)).trans (h3 k x hk).1, (h3 k x hk).2⟩⟩
theorem Ints.slice {w : World} {sv : Value} {l : List Int} (h : Ints w sv l) : ∃ a c, sv = .slice a l.length c := by
  rcases h with ⟨rfl, a, c, rfl⟩ | ⟨g, o, cap, rfl, _⟩
  · exact ⟨a, c, rfl⟩
  · exact ⟨_, _, rfl⟩
theorem Ints.cell {w : World} {a : Option Addr} {n c : Nat} {l : List Int} (h : Ints w (.slice a n c) l) (k : Nat) (x : Int) (hx : l[k]? = some x) : ∃ g o, a = some ⟨g, o, none⟩ ∧ w.cell? ⟨g, o + k, none⟩ = some (.int .i64 x) := by
  rcases h with ⟨h0, _⟩ | ⟨g, o, cap, h1, h2, h3⟩
  · rw [h0] at hx; simp at hx
  · simp only [Value.slice.injEq] at h1
    exact ⟨g, o, h1.1, (h3 k x hx).1⟩
end
section
open Go.RowKit
theorem own_apart {W : World} {q : Nat} {e e' : TypeId} {s s' : Nat} {v v' : Value} {n n' : Nat} {xs xs' : List Value} (h : W.ownsRow q e s v n xs) (h' : W.ownsRow q e' s' v' n' xs') (hne : e ≠ e') : v.ownBlock = none ∨ v.ownBlock ≠ v'.ownBlock := by
  cases hv : v.ownBlock with
  | none => exact .inl rfl
  | some g =>
    right
    intro e2
    obtain ⟨c, h1⟩ := own_tag h g hv
    obtain ⟨c', h2⟩ := own_tag h' g e2.symm
    rw [h1] at h2
    simp only [Option.some.injEq, Obj.cells.injEq] at h2
    exact hne h2.2.1
end
section
open Go.RowKit
theorem Tryz.infoBool : (Tryz.prog.info? 4).map (fun i => (i.zero, i.size, i.bytes)) = some (some (.bool false), 1, 1) := by kernel_rfl
theorem Tryz.infoBools : (Tryz.prog.info? 39).map (fun i => (i.zero, i.size, i.bytes)) = some (some (.slice none 0 0), 1, 24) := by kernel_rfl
/-- rows of bools in a row of slices, all from block q on -/
structure InsR (q : Nat) (W : World) (o : Value) (us : List Value) (bs : List (List Bool)) : Prop where
  len : us.length = bs.length
  own : W.ownsRow q 39 1 o bs.length us
  at_ : ∀ (j : Nat) (u : Value) (b : List Bool), us[j]? = some u → bs[j]? = some b → W.ownsRow q 4 1 u b.length (b.map boolV)
theorem InsR.nil (q : Nat) (W : World) : InsR q W (.slice none 0 0) [] [] := ⟨rfl, World.ownsRow_nil _ _ _ _, fun j u b h => by simp at h⟩
theorem InsR.below {q : Nat} {W W' : World} {o : Value} {us : List Value} {bs : List (List Bool)} (h : InsR q W o us bs) (hb : Below W.heap.size W W') : InsR q W' o us bs :=
  ⟨h.len, own_below h.own hb, fun j u b h1 h2 => own_below (h.at_ j u b h1 h2) hb⟩
theorem bools_of {q : Nat} {W : World} {u : Value} {b : List Bool} (h : W.ownsRow q 4 1 u b.length (b.map boolV)) (hl : b.length ≤ 1000000) : Bools W u b := by
  rcases h.2 with ⟨rfl, h0⟩ | ⟨g, cap, cur, rfl, _, hcur, hcap, _, _, htk⟩
  · exact ⟨none, 0, by rw [h0], hl, fun i b hb => by rw [List.length_eq_zero_iff.1 h0] at hb; simp at hb⟩
  · exact ⟨_, _, rfl, hl, fun i x hx => ⟨g, rfl, row_cell hcur htk (by rw [List.getElem?_map, hx]; rfl)⟩⟩
theorem InsR.insAt {q : Nat} {W : World} {o : Value} {us : List Value} {bs : List (List Bool)} (h : InsR q W o us bs) (hl : ∀ b, b ∈ bs → b.length ≤ 1000000) : InsAt W o bs := by
  rcases h.own.2 with ⟨rfl, h0⟩ | ⟨g, cap, cur, rfl, _, hcur, hcap, _, _, htk⟩
  · exact .inl ⟨List.length_eq_zero_iff.1 h0, _, _, rfl⟩
  · refine .inr ⟨g, cap, rfl, hcap, fun i b hb => ?_⟩
    have hil : i < us.length := by rw [h.len]; exact (List.getElem?_eq_some_iff.1 hb).1
    exact ⟨us[i], row_cell hcur htk (List.getElem?_eq_getElem hil), bools_of (h.at_ i _ b (List.getElem?_eq_getElem hil) hb) (hl b (List.mem_of_getElem? hb))⟩
theorem InsR.put {q : Nat} {W W' : World} {o o' u : Value} {us : List Value} {bs : List (List Bool)} {b : List Bool} (h : InsR q W o us bs) (hu : W.ownsRow q 4 1 u b.length (b.map boolV)) (ob : Obj) (hown : W'.ownsRow q 39 1 o' (bs.length + 1) (us ++ [u])) (hg : (W.alloc ob).grownBy W' o.ownBlock) :
    InsR q W' o' (us ++ [u]) (bs ++ [b]) := by
  have hk : ∀ (u : Value) (b : List Bool), W.ownsRow q 4 1 u b.length (b.map boolV) → W'.ownsRow q 4 1 u b.length (b.map boolV) := fun u b hu =>
    (hu.alloc ob).kept hg (own_apart hu h.own (by decide))
  refine ⟨by simp [h.len], by simpa using hown, ?_⟩
  intro j x y hj hy
  by_cases hjl : j < bs.length
  · rw [List.getElem?_append_left (by rw [h.len]; exact hjl)] at hj
    rw [List.getElem?_append_left hjl] at hy
    exact hk _ _ (h.at_ j x y hj hy)
  · have hj2 : j < (bs ++ [b]).length := (List.getElem?_eq_some_iff.1 hy).1
    have : j = bs.length := by simp at hj2; omega
    subst this
    rw [List.getElem?_append_right (by rw [h.len]; exact Nat.le_refl _), h.len] at hj
    rw [List.getElem?_append_right (Nat.le_refl _)] at hy
    simp only [Nat.sub_self, List.getElem?_cons_zero, Option.some.injEq] at hj hy
    subst hj; subst hy
    exact hk _ _ hu
end
section
open Go.RowKit
set_option maxHeartbeats 8000000 in
set_option maxRecDepth 100000 in
theorem kinputsR_any (l : List Int) (lv : Value) (many : Nat) (w : World) (hl : Ints w lv l) (h60 : l.length ≤ 60) (hm : many ≤ 12) :
    Calls Tryz.prog 8 #[lv, .int .i64 (many : Int)] w fun e w' => ∃ v us, e = .returned v ∧ InsR w.heap.size w' v us (l.map fun x => bitsTo x many) ∧ Below w.heap.size w w' := by
  obtain ⟨i0, hi0, hz0, hz1, hz2⟩ := info_parts Tryz.infoBool
  obtain ⟨i1, hi1, hy0, hy1, hy2⟩ := info_parts Tryz.infoBools
  have HLI := hide hl
  obtain ⟨la, lc, rfl⟩ := hl.slice
  obtain ⟨c, hcc⟩ : ∃ c, c = l.length := ⟨_, rfl⟩
  have HC := hide hcc
  rw [← hcc] at HLI h60 ⊢
  clear hl hcc
  go_enter Tryz.func8, Tryz.ntmps8
  go_wp2_with fail
  go_loopw [5, 6] (fun o i wr => ∃ k : Nat, k ≤ c ∧ i = .int .i64 (k : Int) ∧ (∃ a cp, o = .slice a k cp) ∧ Hid (∃ us, InsR w.heap.size wr o us ((l.take k).map fun x => bitsTo x many)) ∧ Hid (Below w.heap.size w wr)) (fun _ i _ => c - (intOf i).toNat)
  case atStart => exact ⟨0, Nat.zero_le _, rfl, ⟨_, _, rfl⟩, ⟨[], InsR.nil _ _⟩, Below.refl _ _⟩
  case round =>
    obtain ⟨k, hk, rfl, ⟨oa, oc, rfl⟩, HI, HB⟩ := hrel
    by_cases hlt : k < c
    · have hkl : k < l.length := by rw [← HC.out]; exact hlt
      obtain ⟨g, o, hla, hca, hcell⟩ : ∃ g o, la = some ⟨g, o, none⟩ ∧ c ≤ lc ∧ ∀ W, Below w.heap.size w W → W.cell? ⟨g, o + k, none⟩ = some (.int .i64 l[k]) ∧ I64 l[k] := by
        rcases HLI.out with ⟨h0, _⟩ | ⟨g, o, cap, h1, h2, h3⟩
        · rw [h0] at hkl; simp at hkl
        · simp only [Value.slice.injEq] at h1
          refine ⟨g, o, h1.1, by rw [h1.2.2, h1.2.1]; exact h2, fun W hW => ?_⟩
          obtain ⟨h4, h5⟩ := h3 k _ (List.getElem?_eq_getElem hkl)
          exact ⟨(hW.cell (World.block_lt_of_cell? _ _ h4)).trans h4, h5⟩
      subst hla
      have HCL := hide hcell
      have HTK := hide (List.take_succ_eq_append_getElem hkl)
      clear hcell
      generalize l[k] = x at *
      have hqw := HB.out.size
      obtain ⟨us, hus⟩ := HI.out
      have HUS := hide hus
      clear HI hus
      obtain ⟨wo, rfl⟩ : ∃ wo, wo = wr := ⟨_, rfl⟩
      go_wp2_with fail
      go_loopw [7, 8] (fun ii kk wi => ∃ j : Nat, j ≤ many ∧ kk = .int .i64 (j : Int) ∧ (∃ a cp, ii = .slice a j cp) ∧ Hid (wi.ownsRow wo.heap.size 4 1 ii j ((bitsTo x j).map boolV)) ∧ Hid (Below wo.heap.size wo wi)) (fun _ kk _ => many - (intOf kk).toNat)
      case atStart => exact ⟨0, Nat.zero_le _, rfl, ⟨_, _, rfl⟩, World.ownsRow_nil _ _ _ _, Below.refl _ _⟩
      case round =>
        obtain ⟨j, hj, rfl, ⟨ja, jc, rfl⟩, HO, HBI⟩ := hrel
        have hsz := HBI.out.size
        by_cases hjm : j < many
        · obtain ⟨hcx, hxx⟩ := HCL.out wr (HB.out.trans (HBI.out.mono HB.out.size))
          have HOWN : Hid (∀ o, (wr.alloc o).ownsRow wo.heap.size 4 1 (.slice ja j jc) j ((bitsTo x j).map boolV)) := fun o => HO.out.alloc o
          have HONE : Hid (∀ (b : Bool), ∀ u ∈ [Value.bool b], u.oneCell' = true) := by
            intro b u hu
            simp only [List.mem_cons, List.not_mem_nil, or_false] at hu
            subst hu; rfl
          have HFIN : Hid (∀ (o : Obj) (g cap : Nat) (wC : World), wC.ownsRow wo.heap.size 4 1 (.slice (some ⟨g, 0, none⟩) (j + 1) cap) (j + 1) ((bitsTo x j).map boolV ++ [.bool (bitB x j)]) → (wr.alloc o).grownBy wC (Value.slice ja j jc).ownBlock →
              wC.ownsRow wo.heap.size 4 1 (.slice (some ⟨g, 0, none⟩) (j + 1) cap) (j + 1) ((bitsTo x (j + 1)).map boolV) ∧ Below wo.heap.size wo wC) := by
            intro o g cap wC hown hgrow
            refine ⟨?_, (HBI.out.alloc HBI.out.size o).grown hgrow (by simp; omega) (fun j e => (HO.out.lt j e).1)⟩
            rw [bitsTo_succ, List.map_append]
            exact hown
          clear HO
          go_wp2_with (at_builtin; refine wpList_append_lies _ rfl (.tmp 20) (.tmp 29) 39 rfl wo.heap.size 4 i0 _ 1 1 Tryz.underlying39 hi0 hz0 hz1 hz2 rfl (by decide) (.slice ja j jc) j ((bitsTo x j).map boolV) rfl (HOWN.out _) ⟨wr.heap.size, 0, none⟩ 1 1 [.bool _] rfl rfl (World.news_of_block (heap_alloc_new wr _)) (HONE.out _) (by decide) (by unfold maxLen; omega) (by omega) (by simp; omega) (wr.heap.size + 1) (by simp) ?_; intro g2 cap2 wC hown hgrow hat hltg)
          obtain ⟨hoC, hbC⟩ := HFIN.out _ g2 cap2 wC hown hgrow
          exact ⟨⟨j + 1, by omega, by go_num, ⟨_, _, rfl⟩, hoC, hbC⟩, by simp [intOf]; omega⟩
        · have hjn : j = many := by omega
          subst hjn
          have HOWN : Hid (∀ o, (wr.alloc o).ownsRow w.heap.size 39 1 (.slice oa k oc) k us) := fun o => by
            have := own_below HUS.out.own HBI.out
            simp only [List.length_map, List.length_take, Nat.min_eq_left (Nat.le_of_lt hkl)] at this
            exact this.alloc o
          have HONE : Hid (∀ u ∈ [Value.slice ja j jc], u.oneCell' = true) := by
            intro u hu
            simp only [List.mem_cons, List.not_mem_nil, or_false] at hu
            subst hu; rfl
          have HFIN : Hid (∀ (o : Obj) (g cap : Nat) (wC : World), wC.ownsRow w.heap.size 39 1 (.slice (some ⟨g, 0, none⟩) (k + 1) cap) (k + 1) (us ++ [.slice ja j jc]) → (wr.alloc o).grownBy wC (Value.slice oa k oc).ownBlock →
              InsR w.heap.size wC (.slice (some ⟨g, 0, none⟩) (k + 1) cap) (us ++ [.slice ja j jc]) ((l.take (k + 1)).map fun x => bitsTo x j) ∧ Below w.heap.size w wC) := by
            intro o g cap wC hown hgrow
            have hln : ((l.take k).map fun x => bitsTo x j).length = k := by simp; omega
            have hu : wr.ownsRow w.heap.size 4 1 (.slice ja j jc) (bitsTo x j).length ((bitsTo x j).map boolV) := by rw [bitsTo_len]; exact own_mono HO.out hqw
            have hp := (HUS.out.below HBI.out).put hu o (by rw [hln]; exact hown) hgrow
            rw [HTK.out, List.map_append]
            refine ⟨hp, ?_⟩
            have hb := HB.out.trans (HBI.out.mono hqw)
            exact (hb.alloc hb.size o).grown hgrow (by simp; omega) (fun i e => (HUS.out.own.lt i e).1)
          clear HO
          go_wp2_with (at_builtin; refine wpList_append_lies _ rfl (.tmp 31) (.tmp 33) 37 rfl w.heap.size 39 i1 _ 1 24 Tryz.underlying37 hi1 hy0 hy1 hy2 rfl (by decide) (.slice oa k oc) k us rfl (HOWN.out _) ⟨wr.heap.size, 0, none⟩ 1 1 [.slice ja j jc] rfl rfl (World.news_of_block (heap_alloc_new wr _)) HONE.out (by decide) (by unfold maxLen; omega) (by omega) (by simp; omega) (wr.heap.size + 1) (by simp) ?_; intro g2 cap2 wC hown hgrow hat hltg)
          obtain ⟨hoC, hbC⟩ := HFIN.out _ g2 cap2 wC hown hgrow
          go_roundw
          case rel => exact ⟨k + 1, by omega, by go_num, ⟨_, _, rfl⟩, ⟨_, hoC⟩, hbC⟩
          case measure => simp [intOf]; omega
    · have hkc : k = c := by omega
      subst hkc
      obtain ⟨us, hus⟩ := HI.out
      have HUS := hide hus
      clear HI hus
      go_wp2_with fail
      go_ret
      refine ⟨_, us, rfl, ?_, HB.out⟩
      have h1 := HUS.out
      rw [List.take_of_length_le (by rw [← HC.out]; exact Nat.le_refl _)] at h1
      exact h1
theorem kinputs_any (l : List Int) (lv : Value) (many : Nat) (w : World) (hl : Ints w lv l) (h60 : l.length ≤ 60) (hm : many ≤ 12) :
    Calls Tryz.prog 8 #[lv, .int .i64 (many : Int)] w fun e w' => ∃ v, e = .returned v ∧ InsAt w' v (l.map fun x => bitsTo x many) ∧ Below w.heap.size w w' :=
  (kinputsR_any l lv many w hl h60 hm).mono fun _ _ ⟨v, _, h1, h2, h3⟩ => ⟨v, h1, h2.insAt (fun b hb => by
    obtain ⟨x, _, rfl⟩ := List.mem_map.1 hb
    rw [bitsTo_len]; omega), h3⟩
end
end Go.Proofs.YtflonjbbolmelaaGreatDoor
