/-
  The walks of strings.Builder's copyCheck, WriteByte and WriteString, at a builder of the call's own; what else is there stands as it stood.
-/
import Derived.Test.YtmniiclmimidjaaDoorRoBase
import Derived.Test.YtmniiclmimidjaaDoorRoItoa
import Derived.Test.YtmniiclmimidjaaDoorShelf
import Derived.Lib.Builder
import Derived.Lib.AppendStr
import Derived.Lib.UnsafeStr
import Derived.Lib.OthersKept
import Derived.Laws.Externs
namespace Go.Proofs.YtmniiclmimidjaaDoor
namespace Ro
open Go.RowKit
/-- a builder in block b that holds these bytes (as cells) -/
def Bld (b : Nat) (bs : List Value) (w : World) : Prop := Lib.IsBuilder 69 5 b b bs w
/-- all below b stands; of what lies above it all but b and the rows of bytes -/
def Kb (b : Nat) (w w' : World) : Prop := Below b w w' ∧ Lib.OthersKept 5 (some b) w w'
namespace Kb
theorem refl (b : Nat) (w : World) : Kb b w w := ⟨Below.refl _ _, Lib.OthersKept.refl _ _ _⟩
theorem trans {b : Nat} {x y z : World} (h : Kb b x y) (k : Kb b y z) : Kb b x z := ⟨h.1.trans k.1, h.2.trans k.2⟩
theorem drewN {b : Nat} {a w : World} (n : Nat) (h : Kb b a w) : Kb b a (w.drewN n) := ⟨⟨h.1.os, h.1.tape, h.1.output, h.1.size, h.1.block⟩, h.2⟩
theorem alloc {b : Nat} {a w : World} (h : Kb b a w) (hb : b ≤ w.heap.size) (o : Obj) : Kb b a (w.alloc o) := ⟨h.1.alloc hb o, h.2.alloc o⟩
theorem setCell {b : Nat} {a w : World} (h : Kb b a w) (p : Addr) (hp : p.block = b) (v : Value) : Kb b a (w.setCell p v) := ⟨h.1.setCell (by omega) v, h.2.setCell p hp v⟩
theorem grown {b : Nat} {a w w' : World} {row : Option Nat} (h : Kb b a w) (hg : w.grownBy w' row) (hb : b ≤ w.heap.size) (hr : ∀ k, row = some k → b ≤ k) (hrow : ∀ g, row = some g → ∃ c fz, w.heap[g]? = some (.cells c 5 fz)) : Kb b a w' :=
  ⟨h.1.grown hg hb hr, h.2.grown hg hrow⟩
theorem of_below {b : Nat} {w w' : World} (h : Below w.heap.size w w') (hb : b ≤ w.heap.size) : Kb b w w' :=
  ⟨h.mono hb, fun k o hk _ _ => by rw [h.block k (Array.getElem?_eq_some_iff.1 hk).1]; exact hk⟩
/-- a cell of a block that is no row of bytes -/
theorem cell {b : Nat} {w w' : World} (h : Kb b w w') {g : Nat} {c : Array Value} {t : TypeId} {fz : Nat × Nat} (hg : w.heap[g]? = some (.cells c t fz)) (hb : g ≠ b) (ht : t ≠ 5) : w'.heap[g]? = some (.cells c t fz) :=
  h.2 g _ hg (fun e => hb (Option.some.inj e)) (fun c' fz' e => ht (by injection e))
end Kb
theorem ownsRow_kind {w : World} {B : Nat} {e : TypeId} {v : Value} {n : Nat} {xs : List Value} (h : w.ownsRow B e 1 v n xs) : ∀ g, v.ownBlock = some g → ∃ c fz, w.heap[g]? = some (.cells c e fz) := by
  intro g hg
  rcases h.2 with ⟨hv, _⟩ | ⟨g', cap, cur, hv, _, hcur, _⟩
  · rw [hv] at hg; cases hg
  · rw [hv] at hg
    simp only [Value.ownBlock, Option.some.injEq] at hg
    subst hg
    exact ⟨cur, (0, 0), hcur⟩
/-- a builder in a world that has kept all that was there -/
theorem Bld.below {b : Nat} {bs : List Value} {w w' : World} (h : Bld b bs w) (hb : Below w.heap.size w w') : Bld b bs w' := by
  have key : ∀ p, Lib.BuilderAt 69 5 b b p bs w → Lib.BuilderAt 69 5 b b p bs w' := by
    rintro p ⟨h1, v, h2, h3, h4⟩
    have hlt : b < w.heap.size := (Array.getElem?_eq_some_iff.1 h2).1
    exact ⟨h1, v, by rw [hb.block b hlt]; exact h2, h3.kept (row := none) ⟨hb.os, hb.tape, hb.output, hb.size, fun k hk _ => hb.block k hk⟩ (by cases v.ownBlock <;> simp), h4⟩
  rcases h with h | h
  · exact .inl (key _ h)
  · exact .inr (key _ h)
theorem Bld.lt {b : Nat} {bs : List Value} {w : World} (h : Bld b bs w) : b < w.heap.size := by
  rcases h with h | h <;> exact h.lt
theorem Bld.drewN {b : Nat} {bs : List Value} {w : World} (n : Nat) (h : Bld b bs w) : Bld b bs (w.drewN n) := h
theorem Tryd.infoByte : (Tryd.prog.info? 5).map (fun i => (i.zero, i.size, i.bytes)) = some (some (.int .u8 0), 1, 1) := by kernel_rfl
theorem Tryd.sizeBuilder : (Tryd.prog.info? 69).map (·.size) = some 2 := by kernel_rfl
theorem Tryd.liesBuilder : liesAt Tryd.prog Tryd.prog.depth 69 (2 / Tryd.prog.cellsOf 69) 0 69 1 = true := by kernel_rfl
set_option maxHeartbeats 1000000 in
theorem copyCheck_any (b : Nat) (bs : List Value) (w : World) (h : Bld b bs w) :
    Calls Tryd.prog 36 #[.pointer (some ⟨b, 0, none⟩)] w fun e w' => e = .returned (.tuple #[]) ∧ Lib.BuilderAt 69 5 b b (.pointer (some ⟨b, 0, none⟩)) bs w' ∧ Kb b w w' := by
  obtain ⟨j, hj, hjs⟩ := Option.map_eq_some_iff.1 Tryd.sizeBuilder
  rcases h with h | h
  · have H := hide h
    have h0 := h.cell0
    have hsh := h.shape
    have hfz := h.frozen0
    have hx : (callFunc 42 #[.pointer (some ⟨b, 0, none⟩)]).run Tryd.prog w = .ok (.value (.pointer (some ⟨b, 0, none⟩))) w := by
      rw [run_callFunc_extern Tryd.func42 (by kernel_rfl) (by kernel_rfl) (by kernel_rfl) (e := Extern.AbiNoEscape.same) (by kernel_rfl), Lib.run_noEscape]
      rfl
    have hu := Lib.run_to_unsafe (P := Tryd.prog) w ⟨b, 0, none⟩ Tryd.underlying66 Tryd.underlying95 hj (by rw [hjs]; decide) hsh (Nat.zero_lt_succ 1)
    have hf := Lib.run_from_unsafe (P := Tryd.prog) w ⟨b, 0, none⟩ Tryd.underlying95 Tryd.underlying66 hj hsh Tryd.liesBuilder
    clear h hsh
    go_enter Tryd.func36, Tryd.ntmps36
    go_wp2
    go_end0
    exact ⟨rfl, H.out.used _, Kb.setCell (b := b) (Kb.refl b w) ⟨b, 0, none⟩ rfl _⟩
  · have H := hide h
    have h0 := h.cell0
    have hn := Lib.run_neq_ptr_same (P := Tryd.prog) w ⟨b, 0, none⟩ Tryd.underlying66 hj
    clear h
    go_enter Tryd.func36, Tryd.ntmps36
    go_wp2
    go_end0
    exact ⟨rfl, H.out, Kb.refl _ _⟩
theorem cell_heap {w : World} {b : Nat} {cs : Array Value} {T : TypeId} {fr : Nat × Nat} (hb : w.heap[b]? = some (.cells cs T fr)) (j : Nat) (u : Value) (hu : cs[j]? = some u) : w.cell? ⟨b, j, none⟩ = some u := by rw [Lib.cell_of_heap hb, hu]
set_option maxHeartbeats 1000000 in
theorem WriteByte_any (b : Nat) (bs : List Value) (c : Int) (w : World) (h : Bld b bs w) (hlen : bs.length ≤ 140737488355327) :
    Calls Tryd.prog 25 #[.pointer (some ⟨b, 0, none⟩), .int .u8 c] w fun e w' => e = .returned .nilIface ∧ Bld b (bs ++ [.int .u8 c]) w' ∧ Kb b w w' := by
  obtain ⟨i0, hi0, hz0, hz1, hz2⟩ := info_parts Tryd.infoByte
  have HC := hide (copyCheck_any b bs w h)
  have HLT := hide h.lt
  clear h
  go_enter Tryd.func25, Tryd.ntmps25
  go_wp2_with fail
  refine HC.out.mono ?_
  rintro e w1 ⟨rfl, h1, hk1⟩
  obtain ⟨hB, v, hbk, hown, hne⟩ := h1
  have HBK := hide hbk
  have HK := hide hk1
  have HNE := hide hne
  have hsz := hk1.1.size
  have hlt := HLT.out
  have c0 := cell_heap hbk 0 _ rfl
  have c1 := cell_heap hbk 1 _ rfl
  have HOWN := hide hown
  have HOWN2 := hide (hown.alloc (.cells #[.int .u8 c] 5))
  clear hbk hown hk1 hne hB HC
  go_wp2_with (at_builtin; refine wpList_append_own _ rfl _ _ 67 rfl b 5 i0 (.int .u8 0) 1 1 Tryd.underlying67 hi0 hz0 hz1 hz2 rfl (by decide) _ bs.length bs rfl HOWN2.out ⟨w1.heap.size, 0, none⟩ 1 1 [.int .u8 c] rfl rfl (cell_one_new _ _ _) ?c2 ?c3 ?c4 ?c5 ?_)
  case c2 => intro z hz; simp at hz; subst hz; rfl
  case c3 => unfold maxLen; omega
  case c4 => omega
  case c5 => simp; omega
  intro v' w2 hown' hgrow _
  have hb2 : w2.heap[b]? = some (.cells #[.pointer (some ⟨b, 0, none⟩), v] 69 (0, 0)) := by
    rw [hgrow.block b (by simp; omega) (fun e => HNE.out e.symm), Below.heap_alloc w1 _ b (by omega)]
    exact HBK.out
  have d0 := cell_heap hb2 0 _ rfl
  have d1 := cell_heap hb2 1 _ rfl
  have f1 : w2.frozen? ⟨b, 1, none⟩ = false := Lib.frozen_of_heap hb2 1
  have HK2 : Hid (Kb b w w2) := (HK.out.alloc (by omega) _).grown hgrow (by simp; omega) (fun k hk => (HOWN.out.lt k hk).1) (fun g hg => by
    obtain ⟨c, fz, hc⟩ := ownsRow_kind HOWN.out g hg
    exact ⟨c, fz, by rw [Below.heap_alloc w1 _ g (HOWN.out.lt g hg).2]; exact hc⟩)
  have HP : Hid (∀ p : Addr, p = ⟨b, 1, none⟩ → Lib.BuilderAt 69 5 b b (.pointer (some ⟨b, 0, none⟩)) (bs ++ [.int .u8 c]) (w2.setCell p v')) := fun p hp => by
    subst hp
    exact Lib.BuilderAt.put (Nat.le_refl _) hb2 (bs' := bs ++ [.int .u8 c]) (by simpa using hown') (by decide)
  obtain ⟨g, cap, hv'⟩ : ∃ g cap, v' = .slice (some ⟨g, 0, none⟩) (bs.length + 1) cap := by
    rcases hown'.2 with ⟨_, h0⟩ | ⟨g, cap, cur, hv, _⟩
    · omega
    · exact ⟨g, cap, hv⟩
  rw [hv'] at HP
  rw [hv']
  clear hown' hgrow hb2 hv' HOWN HOWN2 HBK HNE c0 c1
  go_wp2_with fail
  go_ret
  exact ⟨rfl, .inr (HP.out _ rfl), Kb.setCell HK2.out ⟨b, 1, none⟩ rfl _⟩
set_option maxHeartbeats 1000000 in
theorem WriteString_any (b : Nat) (bs : List Value) (s : ByteArray) (w : World) (h : Bld b bs w) (hlen : bs.length + s.size ≤ 140737488355328) :
    Calls Tryd.prog 23 #[.pointer (some ⟨b, 0, none⟩), .string s] w fun e w' => e = .returned (.tuple #[.int .i64 s.size, .nilIface]) ∧ Bld b (bs ++ Lib.strCells s) w' ∧ Kb b w w' := by
  obtain ⟨i0, hi0, hz0, hz1, hz2⟩ := info_parts Tryd.infoByte
  have HC := hide (copyCheck_any b bs w h)
  have HLT := hide h.lt
  clear h
  go_enter Tryd.func23, Tryd.ntmps23
  go_wp2_with fail
  refine HC.out.mono ?_
  rintro e w1 ⟨rfl, h1, hk1⟩
  obtain ⟨hB, v, hbk, hown, hne⟩ := h1
  have HBK := hide hbk
  have HK := hide hk1
  have HNE := hide hne
  have hsz := hk1.1.size
  have hlt := HLT.out
  have c0 := cell_heap hbk 0 _ rfl
  have c1 := cell_heap hbk 1 _ rfl
  have HOWN := hide hown
  clear hbk hown hk1 hne hB HC
  go_wp2_with (at_builtin; refine Lib.wpList_append_own_string _ rfl _ _ 67 9 rfl b 5 i0 Tryd.underlying67 Tryd.underlying9 hi0 hz0 hz1 hz2 _ bs.length bs rfl HOWN.out s rfl ?c3 ?c4 ?c5 ?_)
  case c3 => unfold maxLen; omega
  case c4 => omega
  case c5 => omega
  intro v' w2 hown' hgrow _
  have hb2 : w2.heap[b]? = some (.cells #[.pointer (some ⟨b, 0, none⟩), v] 69 (0, 0)) := by
    rw [hgrow.block b (by omega) (fun e => HNE.out e.symm)]
    exact HBK.out
  have d0 := cell_heap hb2 0 _ rfl
  have d1 := cell_heap hb2 1 _ rfl
  have f1 : w2.frozen? ⟨b, 1, none⟩ = false := Lib.frozen_of_heap hb2 1
  have HK2 : Hid (Kb b w w2) := HK.out.grown hgrow (by omega) (fun k hk => (HOWN.out.lt k hk).1) (ownsRow_kind HOWN.out)
  have HP : Hid (∀ p : Addr, p = ⟨b, 1, none⟩ → Lib.BuilderAt 69 5 b b (.pointer (some ⟨b, 0, none⟩)) (bs ++ Lib.strCells s) (w2.setCell p v')) := fun p hp => by
    subst hp
    exact Lib.BuilderAt.put (Nat.le_refl _) hb2 (bs' := bs ++ Lib.strCells s) (by simpa [Lib.strCells_length] using hown') (by decide)
  obtain ⟨ao, n', cap, hv'⟩ : ∃ ao n' cap, v' = .slice ao n' cap := by
    rcases hown'.2 with ⟨hv, _⟩ | ⟨g, cap, cur, hv, _⟩
    · exact ⟨_, _, _, hv⟩
    · exact ⟨_, _, _, hv⟩
  rw [hv'] at HP
  rw [hv']
  clear hown' hgrow hb2 hv' HOWN HBK HNE c0 c1
  go_wp2_with fail
  go_ret2
  exact ⟨rfl, .inr (HP.out _ rfl), Kb.setCell HK2.out ⟨b, 1, none⟩ rfl _⟩
theorem strCells_of (l : List UInt8) : Lib.strCells ⟨l.toArray⟩ = Lib.byteCells l := rfl
theorem byteCells_append (a b : List UInt8) : Lib.byteCells (a ++ b) = Lib.byteCells a ++ Lib.byteCells b := by simp [Lib.byteCells]
theorem ws_any (b : Nat) (l t : List UInt8) (w : World) (h : Bld b (Lib.byteCells l) w) (hlen : l.length + t.length ≤ 100000000) :
    Calls Tryd.prog 23 #[.pointer (some ⟨b, 0, none⟩), .string ⟨t.toArray⟩] w fun e w' => e = .returned (.tuple #[.int .i64 (t.length : Int), .nilIface]) ∧ Bld b (Lib.byteCells (l ++ t)) w' ∧ Kb b w w' := by
  have hs : (⟨t.toArray⟩ : ByteArray).size = t.length := by simp [ByteArray.size]
  refine (WriteString_any b _ ⟨t.toArray⟩ w h (by rw [Lib.byteCells_length, hs]; omega)).mono ?_
  rintro e w1 ⟨rfl, hb, hk⟩
  exact ⟨by rw [hs], by rw [byteCells_append, ← strCells_of t]; exact hb, hk⟩
end Ro
end Go.Proofs.YtmniiclmimidjaaDoor
