/-
  The walks of strings.Builder's copyCheck, WriteByte and WriteString, at a builder of the call's own; what else is there stands as it stood. The walks of the leaves' Text, of isAnd, isOr, isList, and of Text itself (its deferred closure finds nothing to recover). The table of numbers in memory, and the walk of number: a text's number in it. The walk of numberOf: the number of a sign ahead of parts that are told by theirs.
-/
import Derived.Test.YtgoabhclnicepaaGreatDoorLdRepAll
import Derived.Test.YtgoabhclnicepaaGreatDoorShelf
import Derived.Lib.Builder
import Derived.Lib.AppendStr
import Derived.Lib.UnsafeStr
import Derived.Lib.OthersKept
import Derived.Laws.Externs
import Derived.Test.YtgoabhclnicepaaGreatDoorRdListAll
import Derived.Test.YtgoabhclnicepaaGreatDoorNaEachAll
import Derived.Defers
import Derived.Recover
import Derived.Test.YtgoabhclnicepaaGreatDoorMcCloneNAll
import Derived.Maps.OwnSet
import Derived.Maps.OwnOps
import Derived.WalkMore
import Derived.Lib.LaidTab
import Derived.Lib.ItoaMem
namespace Go.Proofs.YtgoabhclnicepaaGreatDoor
section
open Go.RowKit
/-- a builder in block b that holds these bytes (as cells) -/
def Bld (b : Nat) (bs : List Value) (w : World) : Prop := Lib.IsBuilder 72 5 b b bs w
/-- all below b stands; of what lies above it all but b and the rows of bytes -/
def Kb (b : Nat) (w w' : World) : Prop := Below b w w' ∧ Lib.OthersKept 5 (some b) w w'
namespace Kb
theorem refl (b : Nat) (w : World) : Kb b w w := ⟨Below.refl _ _, Lib.OthersKept.refl _ _ _⟩
theorem trans {b : Nat} {x y z : World} (h : Kb b x y) (k : Kb b y z) : Kb b x z := ⟨h.1.trans k.1, h.2.trans k.2⟩
theorem drewN {b : Nat} {a w : World} (n : Nat) (h : Kb b a w) : Kb b a (w.drewN n) := ⟨⟨h.1.os, h.1.tape, h.1.output, h.1.size, h.1.block⟩, h.2⟩
theorem alloc {b : Nat} {a w : World} (h : Kb b a w) (hb : b ≤ w.heap.size) (o : Obj) : Kb b a (w.alloc o) := ⟨h.1.alloc hb o, h.2.alloc o⟩
theorem setCell {b : Nat} {a w : World} (h : Kb b a w) (p : Addr) (hp : p.block = b) (v : Value) : Kb b a (w.setCell p v) := ⟨h.1.setCell (by omega) v, h.2.setCell p hp v⟩
theorem grown {b : Nat} {a w w' : World} {row : Option Nat} (h : Kb b a w) (hg : w.grownBy w' row) (hb : b ≤ w.heap.size) (hr : ∀ k, row = some k → b ≤ k) (hrow : ∀ g, row = some g → ∃ c fz, w.heap[g]? = some (.cells c 5 fz)) : Kb b a w' :=
  ⟨h.1.grown hg hb hr, h.2.grown hg hrow⟩
theorem of_below {b : Nat} {w w' : World} (h : Below w.heap.size w w') (hb : b ≤ w.heap.size) : Kb b w w' :=
  ⟨h.mono hb, fun k o hk _ _ => by rw [h.block k (Array.getElem?_eq_some_iff.1 hk).1]; exact hk⟩
/-- a cell of a block that is no row of bytes -/
theorem cell {b : Nat} {w w' : World} (h : Kb b w w') {g : Nat} {c : Array Value} {t : TypeId} {fz : Nat × Nat} (hg : w.heap[g]? = some (.cells c t fz)) (hb : g ≠ b) (ht : t ≠ 5) : w'.heap[g]? = some (.cells c t fz) :=
  h.2 g _ hg (fun e => hb (Option.some.inj e)) (fun c' fz' e => ht (by injection e))
end Kb
theorem ownsRow_kind {w : World} {B : Nat} {e : TypeId} {v : Value} {n : Nat} {xs : List Value} (h : w.ownsRow B e 1 v n xs) : ∀ g, v.ownBlock = some g → ∃ c fz, w.heap[g]? = some (.cells c e fz) := by
  intro g hg
  rcases h.2 with ⟨hv, _⟩ | ⟨g', cap, cur, hv, _, hcur, _⟩
  · rw [hv] at hg; cases hg
  · rw [hv] at hg
    simp only [Value.ownBlock, Option.some.injEq] at hg
    subst hg
    exact ⟨cur, (0, 0), hcur⟩
/-- a builder in a world that has kept all that was there -/
theorem Bld.below {b : Nat} {bs : List Value} {w w' : World} (h : Bld b bs w) (hb : Below w.heap.size w w') : Bld b bs w' := by
  have key : ∀ p, Lib.BuilderAt 72 5 b b p bs w → Lib.BuilderAt 72 5 b b p bs w' := by
    rintro p ⟨h1, v, h2, h3, h4⟩
    have hlt : b < w.heap.size := (Array.getElem?_eq_some_iff.1 h2).1
    exact ⟨h1, v, by rw [hb.block b hlt]; exact h2, h3.kept (row := none) ⟨hb.os, hb.tape, hb.output, hb.size, fun k hk _ => hb.block k hk⟩ (by cases v.ownBlock <;> simp), h4⟩
  rcases h with h | h
  · exact .inl (key _ h)
  · exact .inr (key _ h)
theorem Bld.lt {b : Nat} {bs : List Value} {w : World} (h : Bld b bs w) : b < w.heap.size := by
  rcases h with h | h <;> exact h.lt
theorem Bld.drewN {b : Nat} {bs : List Value} {w : World} (n : Nat) (h : Bld b bs w) : Bld b bs (w.drewN n) := h
theorem Tryz.infoByte : (Tryz.prog.info? 5).map (fun i => (i.zero, i.size, i.bytes)) = some (some (.int .u8 0), 1, 1) := by kernel_rfl
theorem Tryz.sizeBuilder : (Tryz.prog.info? 72).map (·.size) = some 2 := by kernel_rfl
theorem Tryz.liesBuilder : liesAt Tryz.prog Tryz.prog.depth 72 (2 / Tryz.prog.cellsOf 72) 0 72 1 = true := by kernel_rfl
set_option maxHeartbeats 1000000 in
theorem copyCheck_any (b : Nat) (bs : List Value) (w : World) (h : Bld b bs w) :
    Calls Tryz.prog 64 #[.pointer (some ⟨b, 0, none⟩)] w fun e w' => e = .returned (.tuple #[]) ∧ Lib.BuilderAt 72 5 b b (.pointer (some ⟨b, 0, none⟩)) bs w' ∧ Kb b w w' := by
  obtain ⟨j, hj, hjs⟩ := Option.map_eq_some_iff.1 Tryz.sizeBuilder
  rcases h with h | h
  · have H := hide h
    have h0 := h.cell0
    have hsh := h.shape
    have hfz := h.frozen0
    have hx : (callFunc 94 #[.pointer (some ⟨b, 0, none⟩)]).run Tryz.prog w = .ok (.value (.pointer (some ⟨b, 0, none⟩))) w := by
      rw [run_callFunc_extern Tryz.func94 (by kernel_rfl) (by kernel_rfl) (by kernel_rfl) (e := Extern.AbiNoEscape.same) (by kernel_rfl), Lib.run_noEscape]
      rfl
    have hu := Lib.run_to_unsafe (P := Tryz.prog) w ⟨b, 0, none⟩ Tryz.underlying69 Tryz.underlying163 hj (by rw [hjs]; decide) hsh (Nat.zero_lt_succ 1)
    have hf := Lib.run_from_unsafe (P := Tryz.prog) w ⟨b, 0, none⟩ Tryz.underlying163 Tryz.underlying69 hj hsh Tryz.liesBuilder
    clear h hsh
    go_enter Tryz.func64, Tryz.ntmps64
    go_wp2
    go_end0
    exact ⟨rfl, H.out.used _, Kb.setCell (b := b) (Kb.refl b w) ⟨b, 0, none⟩ rfl _⟩
  · have H := hide h
    have h0 := h.cell0
    have hn := Lib.run_neq_ptr_same (P := Tryz.prog) w ⟨b, 0, none⟩ Tryz.underlying69 hj
    clear h
    go_enter Tryz.func64, Tryz.ntmps64
    go_wp2
    go_end0
    exact ⟨rfl, H.out, Kb.refl _ _⟩
theorem cell_heap {w : World} {b : Nat} {cs : Array Value} {T : TypeId} {fr : Nat × Nat} (hb : w.heap[b]? = some (.cells cs T fr)) (j : Nat) (u : Value) (hu : cs[j]? = some u) : w.cell? ⟨b, j, none⟩ = some u := by rw [Lib.cell_of_heap hb, hu]
set_option maxHeartbeats 1000000 in
theorem WriteByte_any (b : Nat) (bs : List Value) (c : Int) (w : World) (h : Bld b bs w) (hlen : bs.length ≤ 140737488355327) :
    Calls Tryz.prog 219 #[.pointer (some ⟨b, 0, none⟩), .int .u8 c] w fun e w' => e = .returned .nilIface ∧ Bld b (bs ++ [.int .u8 c]) w' ∧ Kb b w w' := by
  obtain ⟨i0, hi0, hz0, hz1, hz2⟩ := info_parts Tryz.infoByte
  have HC := hide (copyCheck_any b bs w h)
  have HLT := hide h.lt
  clear h
  go_enter Tryz.func219, Tryz.ntmps219
  go_wp2_with fail
  refine HC.out.mono ?_
  rintro e w1 ⟨rfl, h1, hk1⟩
  obtain ⟨hB, v, hbk, hown, hne⟩ := h1
  have HBK := hide hbk
  have HK := hide hk1
  have HNE := hide hne
  have hsz := hk1.1.size
  have hlt := HLT.out
  have c0 := cell_heap hbk 0 _ rfl
  have c1 := cell_heap hbk 1 _ rfl
  have HOWN := hide hown
  have HOWN2 := hide (hown.alloc (.cells #[.int .u8 c] 5))
  clear hbk hown hk1 hne hB HC
  go_wp2_with (at_builtin; refine wpList_append_own _ rfl _ _ 70 rfl b 5 i0 (.int .u8 0) 1 1 Tryz.underlying70 hi0 hz0 hz1 hz2 rfl (by decide) _ bs.length bs rfl HOWN2.out ⟨w1.heap.size, 0, none⟩ 1 1 [.int .u8 c] rfl rfl (cell_one_new _ _ _) ?c2 ?c3 ?c4 ?c5 ?_)
  case c2 => intro z hz; simp at hz; subst hz; rfl
  case c3 => unfold maxLen; omega
  case c4 => omega
  case c5 => simp; omega
  intro v' w2 hown' hgrow _
  have hb2 : w2.heap[b]? = some (.cells #[.pointer (some ⟨b, 0, none⟩), v] 72 (0, 0)) := by
    rw [hgrow.block b (by simp; omega) (fun e => HNE.out e.symm), Below.heap_alloc w1 _ b (by omega)]
    exact HBK.out
  have d0 := cell_heap hb2 0 _ rfl
  have d1 := cell_heap hb2 1 _ rfl
  have f1 : w2.frozen? ⟨b, 1, none⟩ = false := Lib.frozen_of_heap hb2 1
  have HK2 : Hid (Kb b w w2) := (HK.out.alloc (by omega) _).grown hgrow (by simp; omega) (fun k hk => (HOWN.out.lt k hk).1) (fun g hg => by
    obtain ⟨c, fz, hc⟩ := ownsRow_kind HOWN.out g hg
    exact ⟨c, fz, by rw [Below.heap_alloc w1 _ g (HOWN.out.lt g hg).2]; exact hc⟩)
  have HP : Hid (∀ p : Addr, p = ⟨b, 1, none⟩ → Lib.BuilderAt 72 5 b b (.pointer (some ⟨b, 0, none⟩)) (bs ++ [.int .u8 c]) (w2.setCell p v')) := fun p hp => by
    subst hp
    exact Lib.BuilderAt.put (Nat.le_refl _) hb2 (bs' := bs ++ [.int .u8 c]) (by simpa using hown') (by decide)
  obtain ⟨g, cap, hv'⟩ : ∃ g cap, v' = .slice (some ⟨g, 0, none⟩) (bs.length + 1) cap := by
    rcases hown'.2 with ⟨_, h0⟩ | ⟨g, cap, cur, hv, _⟩
    · omega
    · exact ⟨g, cap, hv⟩
  rw [hv'] at HP
  rw [hv']
  clear hown' hgrow hb2 hv' HOWN HOWN2 HBK HNE c0 c1
  go_wp2_with fail
  go_ret
  exact ⟨rfl, .inr (HP.out _ rfl), Kb.setCell HK2.out ⟨b, 1, none⟩ rfl _⟩
set_option maxHeartbeats 1000000 in
theorem WriteString_any (b : Nat) (bs : List Value) (s : ByteArray) (w : World) (h : Bld b bs w) (hlen : bs.length + s.size ≤ 140737488355328) :
    Calls Tryz.prog 42 #[.pointer (some ⟨b, 0, none⟩), .string s] w fun e w' => e = .returned (.tuple #[.int .i64 s.size, .nilIface]) ∧ Bld b (bs ++ Lib.strCells s) w' ∧ Kb b w w' := by
  obtain ⟨i0, hi0, hz0, hz1, hz2⟩ := info_parts Tryz.infoByte
  have HC := hide (copyCheck_any b bs w h)
  have HLT := hide h.lt
  clear h
  go_enter Tryz.func42, Tryz.ntmps42
  go_wp2_with fail
  refine HC.out.mono ?_
  rintro e w1 ⟨rfl, h1, hk1⟩
  obtain ⟨hB, v, hbk, hown, hne⟩ := h1
  have HBK := hide hbk
  have HK := hide hk1
  have HNE := hide hne
  have hsz := hk1.1.size
  have hlt := HLT.out
  have c0 := cell_heap hbk 0 _ rfl
  have c1 := cell_heap hbk 1 _ rfl
  have HOWN := hide hown
  clear hbk hown hk1 hne hB HC
  go_wp2_with (at_builtin; refine Lib.wpList_append_own_string _ rfl _ _ 70 9 rfl b 5 i0 Tryz.underlying70 Tryz.underlying9 hi0 hz0 hz1 hz2 _ bs.length bs rfl HOWN.out s rfl ?c3 ?c4 ?c5 ?_)
  case c3 => unfold maxLen; omega
  case c4 => omega
  case c5 => omega
  intro v' w2 hown' hgrow _
  have hb2 : w2.heap[b]? = some (.cells #[.pointer (some ⟨b, 0, none⟩), v] 72 (0, 0)) := by
    rw [hgrow.block b (by omega) (fun e => HNE.out e.symm)]
    exact HBK.out
  have d0 := cell_heap hb2 0 _ rfl
  have d1 := cell_heap hb2 1 _ rfl
  have f1 : w2.frozen? ⟨b, 1, none⟩ = false := Lib.frozen_of_heap hb2 1
  have HK2 : Hid (Kb b w w2) := HK.out.grown hgrow (by omega) (fun k hk => (HOWN.out.lt k hk).1) (ownsRow_kind HOWN.out)
  have HP : Hid (∀ p : Addr, p = ⟨b, 1, none⟩ → Lib.BuilderAt 72 5 b b (.pointer (some ⟨b, 0, none⟩)) (bs ++ Lib.strCells s) (w2.setCell p v')) := fun p hp => by
    subst hp
    exact Lib.BuilderAt.put (Nat.le_refl _) hb2 (bs' := bs ++ Lib.strCells s) (by simpa [Lib.strCells_length] using hown') (by decide)
  obtain ⟨ao, n', cap, hv'⟩ : ∃ ao n' cap, v' = .slice ao n' cap := by
    rcases hown'.2 with ⟨hv, _⟩ | ⟨g, cap, cur, hv, _⟩
    · exact ⟨_, _, _, hv⟩
    · exact ⟨_, _, _, hv⟩
  rw [hv'] at HP
  rw [hv']
  clear hown' hgrow hb2 hv' HOWN HBK HNE c0 c1
  go_wp2_with fail
  go_ret2
  exact ⟨rfl, .inr (HP.out _ rfl), Kb.setCell HK2.out ⟨b, 1, none⟩ rfl _⟩
end
section
open Go.RowKit
theorem Const_Text (c : Bool) (w : World) : Calls Tryz.prog 215 #[.bool c] w fun e w' => e = .returned (.string ⟨#[if c then 49 else 48]⟩) ∧ w' = w := by
  cases c
  · go_enter Tryz.func215, Tryz.ntmps215
    go_wp2
    go_ret
    exact ⟨rfl, rfl⟩
  · go_enter Tryz.func215, Tryz.ntmps215
    go_wp2
    go_ret
    exact ⟨rfl, rfl⟩
theorem Bit_Text (s : ByteArray) (w : World) : Calls Tryz.prog 225 #[.string s] w fun e w' => e = .returned (.string s) ∧ w' = w := by
  go_enter Tryz.func225, Tryz.ntmps225
  go_wp2
  go_ret
  exact ⟨rfl, rfl⟩
theorem cons_bytes (c : UInt8) (l : List UInt8) : (⟨#[c]⟩ ++ ⟨l.toArray⟩ : ByteArray) = ⟨(c :: l).toArray⟩ := by
  apply ByteArray.ext
  simp [ByteArray.data_append]
theorem Rise_Text (l : List UInt8) (hl : l.length ≤ 8) (w : World) : Calls Tryz.prog 226 #[.string ⟨l.toArray⟩] w fun e w' => e = .returned (.string ⟨(94 :: l).toArray⟩) ∧ w' = w := by
  go_enter Tryz.func226, Tryz.ntmps226
  go_wp2
  go_ret
  exact ⟨ret_str (cons_bytes _ _), rfl⟩
theorem Fall_Text (l : List UInt8) (hl : l.length ≤ 8) (w : World) : Calls Tryz.prog 227 #[.string ⟨l.toArray⟩] w fun e w' => e = .returned (.string ⟨(126 :: l).toArray⟩) ∧ w' = w := by
  go_enter Tryz.func227, Tryz.ntmps227
  go_wp2
  go_ret
  exact ⟨ret_str (cons_bytes _ _), rfl⟩
/-- the deferred closure of Text, where nothing panics -/
theorem Text_idle (p : Addr) (w : World) :
    CallsD Tryz.prog 66 #[.pointer (some p)] .returning w fun e u' w' => e = .returned (.tuple #[]) ∧ u' = .returning ∧ w' = w := by
  refine callsD_of_wpS Tryz.func66 rfl fun c₀ cs hu => ?_
  apply wpS_seq
  apply wpS_region
  simp [wpOpsS, go_sem, recoverD, hu, Tryz.ntmps66, Exit.thenS]
  refine wpS_cond (t := false) (by simp [Act.eval, Array.replicate]) ?_
  simp only [Bool.false_eq_true, if_false]
  refine wpS_of_wp (wp_skip ?_)
  cases c₀
  simp_all [bodyPostS, results, Tryz.results66]
set_option maxHeartbeats 1000000 in
set_option maxRecDepth 100000 in
/-- Text is what the type's own method says -/
theorem Text_of (T M : Nat) (y : Value) (t : ByteArray) (w : World) (hm : ∀ w : World, (method 417 T y "Text").run Tryz.prog w = .ok (M, y) w) (hent : ∀ (args : Array Value) (w : World), (callFunc M args).run Tryz.prog w = .ok (.enter M args) w)
    (hc : ∀ w2 : World, Below w.heap.size w w2 → Calls Tryz.prog M #[y] w2 fun e w' => e = .returned (.string t) ∧ Below w2.heap.size w2 w') :
    Calls Tryz.prog 45 #[.iface T y] w fun e w' => e = .returned (.string t) ∧ Below w.heap.size w w' := by
  have hmf : ∀ (fn : Fn) (first cap : Array Value) (w : World), (Instr.makeFunc fn first cap).run Tryz.prog w = .ok (.func fn first cap) w := fun _ _ _ _ => rfl
  have HC := hide hc
  clear hc
  go_enter_defers Tryz.func45, Tryz.ntmps45
  go_wp2_with fail
  refine (HC.out _ ((Below.refl _ _).alloc (Nat.le_refl _) _)).mono ?_
  rintro e w1 ⟨rfl, hb⟩
  have hsz : w.heap.size < w1.heap.size := by have := hb.size; simp at this; omega
  have hc0 : w1.cell? ⟨w.heap.size, 0, none⟩ = some (.string ⟨#[]⟩) := by rw [hb.cell (by simp)]; simp
  have hf0 : w1.frozen? ⟨w.heap.size, 0, none⟩ = false := by rw [hb.frozen (by simp)]; simp [go_sem]
  have HB : Hid (Below w.heap.size w w1) := ((Below.refl _ w).alloc (Nat.le_refl _) _).trans (hb.mono (by simp))
  clear hb HC
  go_wp2_with fail
  refine leaves_cons (f := 66) (args := #[.pointer (some ⟨w.heap.size, 0, none⟩)]) (by simp) (by simp [go_sem]) ?_
  refine (Text_idle ⟨w.heap.size, 0, none⟩ _).mono ?_
  rintro e u' w'' ⟨rfl, rfl, rfl⟩
  have hc2 : (w1.setCell ⟨w.heap.size, 0, none⟩ (.string t)).cell? ⟨w.heap.size, 0, none⟩ = some (.string t) := World.cell?_setCell_same w1 _ _ hc0
  have HX := HB.out.setCell (p := ⟨w.heap.size, 0, none⟩) (Nat.le_refl _) (.string t)
  simp [Leaves, settle, results, Tryz.results45, go_sem, hc2]
  exact HX
theorem entered_Const : Entered 215 := fun _ _ => by kernel_rfl
theorem entered_Bit : Entered 225 := fun _ _ => by kernel_rfl
theorem entered_Rise : Entered 226 := fun _ _ => by kernel_rfl
theorem entered_Fall : Entered 227 := fun _ _ => by kernel_rfl
/-- a leaf's text -/
theorem Text_leaf (ok : Nat → Prop) (x : Ex) (v : Value) (w : World) (h : IsEx ok w x v) (hk : x.kind ≤ 4) :
    Calls Tryz.prog 45 #[v] w fun e w' => e = .returned (.string ⟨x.text.toArray⟩) ∧ Below w.heap.size w w' := by
  obtain ⟨k, nm, l⟩ := x
  match k, h, hk with
  | 0, h, _ =>
    simp only [IsEx] at h
    obtain ⟨_, _, rfl⟩ := h
    refine Text_of _ 215 _ _ w (fun _ => by kernel_rfl) entered_Const (fun w2 _ => (Const_Text false w2).mono ?_)
    rintro e w' ⟨rfl, rfl⟩
    exact ⟨by simp [Ex.text], Below.refl _ _⟩
  | 1, h, _ =>
    simp only [IsEx] at h
    obtain ⟨_, _, rfl⟩ := h
    refine Text_of _ 215 _ _ w (fun _ => by kernel_rfl) entered_Const (fun w2 _ => (Const_Text true w2).mono ?_)
    rintro e w' ⟨rfl, rfl⟩
    exact ⟨by simp [Ex.text], Below.refl _ _⟩
  | 2, h, _ =>
    simp only [IsEx] at h
    obtain ⟨_, _, rfl⟩ := h
    refine Text_of _ 225 _ _ w (fun _ => by kernel_rfl) entered_Bit (fun w2 _ => (Bit_Text _ w2).mono ?_)
    rintro e w' ⟨rfl, rfl⟩
    exact ⟨by simp [Ex.text], Below.refl _ _⟩
  | 3, h, _ =>
    simp only [IsEx] at h
    obtain ⟨_, hl, rfl⟩ := h
    refine Text_of _ 226 _ _ w (fun _ => by kernel_rfl) entered_Rise (fun w2 _ => (Rise_Text _ hl w2).mono ?_)
    rintro e w' ⟨rfl, rfl⟩
    exact ⟨by simp [Ex.text], Below.refl _ _⟩
  | 4, h, _ =>
    simp only [IsEx] at h
    obtain ⟨_, hl, rfl⟩ := h
    refine Text_of _ 227 _ _ w (fun _ => by kernel_rfl) entered_Fall (fun w2 _ => (Fall_Text _ hl w2).mono ?_)
    rintro e w' ⟨rfl, rfl⟩
    exact ⟨by simp [Ex.text], Below.refl _ _⟩
/-- is an expression's value an And? -/
theorem isAnd_any (ok : Nat → Prop) (x : Ex) (v : Value) (w0 w : World) (h : IsEx ok w0 x v) : Calls Tryz.prog 141 #[v] w fun e w' => e = .returned (.bool (x.kind == 6)) ∧ w' = w := by
  obtain ⟨k, nm, l⟩ := x
  match k, h with
  | 0, h =>
    simp only [IsEx] at h
    obtain ⟨_, _, rfl⟩ := h
    go_enter Tryz.func141, Tryz.ntmps141
    go_wp2
    go_ret
    exact ⟨rfl, rfl⟩
  | 1, h =>
    simp only [IsEx] at h
    obtain ⟨_, _, rfl⟩ := h
    go_enter Tryz.func141, Tryz.ntmps141
    go_wp2
    go_ret
    exact ⟨rfl, rfl⟩
  | 2, h =>
    simp only [IsEx] at h
    obtain ⟨_, _, rfl⟩ := h
    go_enter Tryz.func141, Tryz.ntmps141
    go_wp2
    go_ret
    exact ⟨rfl, rfl⟩
  | 3, h =>
    simp only [IsEx] at h
    obtain ⟨_, _, rfl⟩ := h
    go_enter Tryz.func141, Tryz.ntmps141
    go_wp2
    go_ret
    exact ⟨rfl, rfl⟩
  | 4, h =>
    simp only [IsEx] at h
    obtain ⟨_, _, rfl⟩ := h
    go_enter Tryz.func141, Tryz.ntmps141
    go_wp2
    go_ret
    exact ⟨rfl, rfl⟩
  | 5, h =>
    simp only [IsEx] at h
    obtain ⟨_, _, u, rfl, _⟩ := h
    go_enter Tryz.func141, Tryz.ntmps141
    go_wp2
    go_ret
    exact ⟨rfl, rfl⟩
  | 6, h =>
    simp only [IsEx] at h
    obtain ⟨_, _, _, g, cap, rfl, _⟩ := h
    go_enter Tryz.func141, Tryz.ntmps141
    go_wp2
    go_ret
    exact ⟨rfl, rfl⟩
  | 7, h =>
    simp only [IsEx] at h
    obtain ⟨_, _, _, g, cap, rfl, _⟩ := h
    go_enter Tryz.func141, Tryz.ntmps141
    go_wp2
    go_ret
    exact ⟨rfl, rfl⟩
  | n + 8, h => simp only [IsEx] at h
theorem isOr_any (ok : Nat → Prop) (x : Ex) (v : Value) (w0 w : World) (h : IsEx ok w0 x v) : Calls Tryz.prog 142 #[v] w fun e w' => e = .returned (.bool (x.kind == 7)) ∧ w' = w := by
  obtain ⟨k, nm, l⟩ := x
  match k, h with
  | 0, h =>
    simp only [IsEx] at h
    obtain ⟨_, _, rfl⟩ := h
    go_enter Tryz.func142, Tryz.ntmps142
    go_wp2
    go_ret
    exact ⟨rfl, rfl⟩
  | 1, h =>
    simp only [IsEx] at h
    obtain ⟨_, _, rfl⟩ := h
    go_enter Tryz.func142, Tryz.ntmps142
    go_wp2
    go_ret
    exact ⟨rfl, rfl⟩
  | 2, h =>
    simp only [IsEx] at h
    obtain ⟨_, _, rfl⟩ := h
    go_enter Tryz.func142, Tryz.ntmps142
    go_wp2
    go_ret
    exact ⟨rfl, rfl⟩
  | 3, h =>
    simp only [IsEx] at h
    obtain ⟨_, _, rfl⟩ := h
    go_enter Tryz.func142, Tryz.ntmps142
    go_wp2
    go_ret
    exact ⟨rfl, rfl⟩
  | 4, h =>
    simp only [IsEx] at h
    obtain ⟨_, _, rfl⟩ := h
    go_enter Tryz.func142, Tryz.ntmps142
    go_wp2
    go_ret
    exact ⟨rfl, rfl⟩
  | 5, h =>
    simp only [IsEx] at h
    obtain ⟨_, _, u, rfl, _⟩ := h
    go_enter Tryz.func142, Tryz.ntmps142
    go_wp2
    go_ret
    exact ⟨rfl, rfl⟩
  | 6, h =>
    simp only [IsEx] at h
    obtain ⟨_, _, _, g, cap, rfl, _⟩ := h
    go_enter Tryz.func142, Tryz.ntmps142
    go_wp2
    go_ret
    exact ⟨rfl, rfl⟩
  | 7, h =>
    simp only [IsEx] at h
    obtain ⟨_, _, _, g, cap, rfl, _⟩ := h
    go_enter Tryz.func142, Tryz.ntmps142
    go_wp2
    go_ret
    exact ⟨rfl, rfl⟩
  | n + 8, h => simp only [IsEx] at h
theorem isList_any (ok : Nat → Prop) (x : Ex) (v : Value) (w0 w : World) (h : IsEx ok w0 x v) : Calls Tryz.prog 221 #[v] w fun e w' => e = .returned (.bool (decide (6 ≤ x.kind))) ∧ w' = w := by
  have H1 := hide (fun w => isAnd_any ok x v w0 w h)
  have H2 := hide (fun w => isOr_any ok x v w0 w h)
  have H7 := hide (IsEx.le7 x v h)
  clear h
  generalize x.kind = k at *
  cases hk : (k == 6) with
  | true =>
    rw [hk] at H1
    have e1 : k = 6 := by simpa using hk
    clear hk
    go_enter Tryz.func221, Tryz.ntmps221
    go_wp2_with (first | (go_at_call 141; refine (H1.out _).mono ?_; rintro e w' ⟨rfl, rfl⟩) | (go_at_call 142; refine (H2.out _).mono ?_; rintro e w' ⟨rfl, rfl⟩))
    go_ret
    exact ⟨ret_bool (by rw [e1]; rfl), rfl⟩
  | false =>
    rw [hk] at H1
    have e1 : ¬ k = 6 := by simpa using hk
    clear hk
    go_enter Tryz.func221, Tryz.ntmps221
    go_wp2_with (first | (go_at_call 141; refine (H1.out _).mono ?_; rintro e w' ⟨rfl, rfl⟩) | (go_at_call 142; refine (H2.out _).mono ?_; rintro e w' ⟨rfl, rfl⟩))
    go_ret
    refine ⟨ret_bool ?_, rfl⟩
    have h7 := H7.out
    by_cases e2 : k = 7
    · rw [e2]; rfl
    · have : ¬ 6 ≤ k := by omega
      simp [e2, this]
end
section
section
open Go.RowKit Go.Maps
theorem keyStr (s : List UInt8) (h : s.length ≤ maxLen) : keyOf Tryz.prog 9 (.string ⟨s.toArray⟩) = some (.string s) := by
  have := Go.WideMaps.keyOf_string_mk (P := Tryz.prog) (k := 9) Tryz.underlying9 (s := ⟨s.toArray⟩) (by show s.toArray.size ≤ maxLen; simpa using h)
  simpa using this
theorem keyed : Keyed Tryz.prog 9 := string_keyed Tryz.underlying9
/-- block mb is a map that has each text of the table at its place -/
structure Tbl (mb : Nat) (tb : List (List UInt8)) (w : World) : Prop where
  ex : ∃ D : DataW Unit, w.ownsMap Tryz.prog 9 (plainElem Tryz.prog 3) mb tb.length D ∧ (∀ s, Maps.has D (.string s) = decide (s ∈ tb)) ∧ (∀ (i : Nat) (s : List UInt8), tb[i]? = some s → ∀ z, D.atKey (.string s) z = .lit (.int .i64 (i : Int))) ∧ Maps.size D = tb.length
  nodup : tb.Nodup
theorem Tbl.lt {mb : Nat} {tb : List (List UInt8)} {w : World} (h : Tbl mb tb w) : mb < w.heap.size := by
  obtain ⟨D, h1, _⟩ := h.ex
  exact h1.lt
theorem Tbl.kept {mb : Nat} {tb : List (List UInt8)} {w w' : World} {row : Option Nat} (h : Tbl mb tb w) (hg : w.grownBy w' row) (hne : some mb ≠ row) : Tbl mb tb w' := by
  obtain ⟨D, h1, h2⟩ := h.ex
  exact ⟨⟨D, h1.kept hg hne, h2⟩, h.nodup⟩
/-- the table with one text more -/
theorem Tbl.put {mb : Nat} {tb : List (List UInt8)} {w w' : World} {s : List UInt8} {D : DataW Unit} (hn : tb.Nodup) (ho : w.ownsMap Tryz.prog 9 (plainElem Tryz.prog 3) mb tb.length D) (h1 : ∀ s, Maps.has D (.string s) = decide (s ∈ tb)) (h2 : ∀ (i : Nat) (s : List UInt8), tb[i]? = some s → ∀ z, D.atKey (.string s) z = .lit (.int .i64 (i : Int))) (h3 : Maps.size D = tb.length)
    (hs : s ∉ tb) (ho' : w'.ownsMap Tryz.prog 9 (plainElem Tryz.prog 3) mb (tb.length + 1) (D.put (.string s) (.lit (.int .i64 (tb.length : Int))))) : Tbl mb (tb ++ [s]) w' := by
  have hk : WideAt.IsKeyLit (.string s) := trivial
  have ht : Maps.Tidy D := ho.tidy keyed
  refine ⟨⟨_, by simpa using ho', ?_, ?_, ?_⟩, ?_⟩
  · intro r
    by_cases e : r = s
    · subst e; rw [Maps.has_put_same ht.isMap hk]; simp
    · rw [Maps.has_put_other (by simpa using e), h1]; simp [e]
  · intro i r hr z
    by_cases hi : i < tb.length
    · rw [List.getElem?_append_left hi] at hr
      have hne : r ≠ s := fun e => hs (e ▸ List.mem_of_getElem? hr)
      rw [Maps.atKey_put_other (by simpa using hne)]
      exact h2 i r hr z
    · rw [List.getElem?_append_right (by omega)] at hr
      have hi0 : i - tb.length = 0 := by
        by_cases h : i - tb.length = 0
        · exact h
        · rw [List.getElem?_eq_none (by simp; omega)] at hr; simp at hr
      rw [hi0] at hr
      simp only [List.getElem?_cons_zero, Option.some.injEq] at hr
      subst hr
      rw [Maps.atKey_put_same ht.isMap hk, show i = tb.length by omega]
  · rw [Maps.size_put ht, h1, if_neg (by simpa using hs), h3]; simp
  · rw [List.nodup_append]
    refine ⟨hn, by simp, ?_⟩
    intro a ha b hb
    simp only [List.mem_singleton] at hb
    subst hb
    intro e
    exact hs (e ▸ ha)
/-- number: the place of a text in the table, to which it is added if it isn't there -/
def Numbered (mb : Nat) (tb : List (List UInt8)) (s : List UInt8) (w : World) (e : Ending) (w' : World) : Prop :=
  ∃ (i : Nat) (more : List (List UInt8)), e = .returned (.int .i64 (i : Int)) ∧ Tbl mb (tb ++ more) w' ∧ (tb ++ more)[i]? = some s ∧ more.length ≤ 1 ∧ w.grownBy w' (some mb)
set_option maxHeartbeats 2000000 in
set_option maxRecDepth 100000 in
theorem number_any (mb : Nat) (tb : List (List UInt8)) (s : List UInt8) (w : World) (h : Tbl mb tb w) (hl : tb.length < 1000000) (hs : s.length ≤ maxLen) :
    Calls Tryz.prog 99 #[.agg #[.map (some mb)], .string ⟨s.toArray⟩] w (Numbered mb tb s w) := by
  obtain ⟨D, ho, h1, h2, h3⟩ := h.ex
  have hn := h.nodup
  obtain ⟨w1, hw1⟩ : ∃ w1, w1 = w.alloc (.cells #[.map (some mb)] 108) := ⟨_, rfl⟩
  have ho1 : w1.ownsMap Tryz.prog 9 (plainElem Tryz.prog 3) mb tb.length D := by rw [hw1]; exact ho.alloc _
  have zero : (zeroValue 3).run Tryz.prog w1 = .ok (.int .i64 0) w1 := by kernel_rfl
  obtain ⟨v, ps, hrun, hv⟩ := ho1.look_ok keyed Tryz.underlying106 zero (plainElem_int Tryz.underlying3 (by decide)) (keyStr s hs)
  obtain ⟨c, rfl, hc, _⟩ := plainElem_int_inv Tryz.underlying3 hv
  rw [h1] at hrun
  have HO1 := hide ho1
  have HG1 : Hid (w.grownBy w1 (some mb)) := by show World.grownBy _ _ _; rw [hw1]; exact World.grownBy_alloc _ _ _
  have HH := hide h
  have H1 := hide h1
  have H2 := hide h2
  have H3 := hide h3
  have HN := hide hn
  by_cases hin : s ∈ tb
  · rw [decide_eq_true hin] at hrun
    obtain ⟨i, hi, hsi⟩ := List.getElem_of_mem hin
    have hat := h2 i s (by rw [List.getElem?_eq_getElem hi, hsi]) (.lit (.int .i64 0))
    have hci : c = (i : Int) := by
      simp only [Prod.mk.injEq] at hc
      rw [hat] at hc
      simpa using hc.1.symm
    subst hci
    have HFIN : Hid (Numbered mb tb s w (.returned (.int .i64 (i : Int))) w1) := ⟨i, [], rfl, by rw [List.append_nil]; exact HH.out.kept (row := none) (by rw [hw1]; exact World.grownBy_alloc _ _ _) (by simp), by rw [List.append_nil, List.getElem?_eq_getElem hi, hsi], by simp, HG1.out⟩
    rw [hw1] at hrun HFIN
    clear ho ho1 h1 h2 h3 hn h hv hc hat hi hsi hin hw1 zero
    go_enter Tryz.func99, Tryz.ntmps99
    go_wp2_with fail
    go_ret
    exact HFIN.out
  · rw [decide_eq_false hin] at hrun
    have hc0 : c = 0 := by
      simp only [Prod.mk.injEq] at hc
      rw [Maps.atKey_of_not_has (by rw [h1]; exact decide_eq_false hin)] at hc
      simpa using hc.1.symm
    subst hc0
    have HIN := hide hin
    have hkey := keyStr s hs
    rw [hw1] at hrun ho1
    have HW1 := hide hw1
    rw [hw1] at HG1
    clear ho h1 h2 hn h hv hc hin hw1 zero HO1
    go_enter Tryz.func99, Tryz.ntmps99
    go_wp2_with (first | (at_len; refine wpList_len_own _ rfl _ 106 rfl 9 3 Tryz.underlying106 _ mb tb.length D rfl ho1 ?_; rw [h3]) | (at_mapUpdate; refine wpList_mapUpdate_own _ rfl _ _ _ 106 rfl 9 3 keyed Tryz.underlying106 _ mb tb.length D rfl ho1 (by unfold maxLen; omega) _ _ _ rfl rfl hkey _ [] (plainElem_int Tryz.underlying3 (WalkArith.wf_i64 (by omega))) ?_; intro w2 ho2 hg2))
    go_ret
    have hput := Tbl.put HN.out ho1 H1.out H2.out H3.out HIN.out ho2
    exact ⟨tb.length, [s], rfl, hput, by simp, by simp, HG1.out.trans hg2⟩
end
section
open Go.RowKit Go.Maps
open Go.Lib (decDigits)
/-- the table of powers that strconv.Itoa reads -/
def Pow (w : World) : Prop := Lib.TabIs Tryz.prog w "internal/strconv.uint64pow10" .u64 Lib.pow10Tab
theorem gPow : Tryz.prog.globalNamed "internal/strconv.uint64pow10" = some 3 := by kernel_rfl
theorem Pow.block {w w' : World} (h : Pow w) (hb : w'.heap[3]? = w.heap[3]?) : Pow w' := by
  unfold Pow Lib.TabIs World.var? at *
  rw [gPow] at *
  simp only [Option.bind_some] at *
  rw [hb]
  exact h
theorem Pow.lt {w : World} (h : Pow w) : 3 < w.heap.size := by
  have := Lib.TabIs.cell h gPow 0 (by decide)
  exact World.block_lt_of_cell? _ _ this
theorem dec_len (u : Nat) : (decDigits u).length ≤ u + 1 := by
  induction u using Nat.strongRecOn with
  | ind u ih =>
    by_cases h : u < 10
    · rw [decDigits, dif_pos h]; simp
    · rw [decDigits, dif_neg h]
      have := ih (u / 10) (by omega)
      simp only [List.length_append, List.length_singleton]
      omega
/-- the numbers in a row of what was made tidy -/
def RowN (w : World) (g o : Nat) (ns : List Nat) : Prop := ∀ (i m : Nat), ns[i]? = some m → ∃ tu yu x y z, w.cell? ⟨g, o + i * 3, none⟩ = some (.iface tu yu) ∧ w.cell? ⟨g, o + i * 3 + 1, none⟩ = some (.int .i64 (m : Int)) ∧ w.cell? ⟨g, o + i * 3 + 2, none⟩ = some (.slice x y z)
theorem cat_snoc (s : UInt8) (ns : List Nat) (k : Nat) (h : k < ns.length) : cat s (ns.take (k + 1)) = cat s (ns.take k) ++ ([s] ++ decDigits ns[k]) := by
  unfold cat
  rw [List.take_succ_eq_append_getElem h, List.map_append, List.flatten_append]
  simp
theorem cat_len (s : UInt8) (ns : List Nat) (h : ∀ m, m ∈ ns → m ≤ 1000000) : (cat s ns).length ≤ 1000002 * ns.length := by
  induction ns with
  | nil => simp [cat]
  | cons a r ih =>
    have h1 := ih fun m hm => h m (by simp [hm])
    have h2 := dec_len a
    have h3 := h a (by simp)
    rw [cat_cons]
    simp only [List.length_cons, List.length_append]
    omega
theorem below_grow (w : World) (k : Nat) (os : Array Obj) : Below w.heap.size w (Go.Sort.grow (w.drewN k) os) := by
  refine ⟨rfl, rfl, rfl, by simp [Go.Sort.grow], fun j hj => ?_⟩
  show (w.heap ++ os)[j]? = _
  rw [Array.getElem?_append_left hj]
theorem RowN.below {w w' : World} {g o : Nat} {ns : List Nat} {B : Nat} (h : RowN w g o ns) (hb : Below B w w') (hg : g < B) : RowN w' g o ns := by
  intro i m hi
  obtain ⟨tu, yu, x, y, z, h1, h2, h3⟩ := h i m hi
  exact ⟨tu, yu, x, y, z, (hb.cell (p := ⟨g, _, none⟩) hg).trans h1, (hb.cell (p := ⟨g, _, none⟩) hg).trans h2, (hb.cell (p := ⟨g, _, none⟩) hg).trans h3⟩
set_option maxHeartbeats 4000000 in
set_option maxRecDepth 100000 in
theorem numberOf_any (mb : Nat) (tb : List (List UInt8)) (s : UInt8) (g o cap : Nat) (ns : List Nat) (w : World) (h : Tbl mb tb w) (hl : tb.length < 1000000) (hp : Pow w) (hr : RowN w g o ns) (hn : ns.length ≤ cap) (hn2 : ns.length ≤ 1000000) (hm : ∀ m, m ∈ ns → m ≤ 1000000) (hg : g < w.heap.size) :
    Calls Tryz.prog 96 #[.agg #[.map (some mb)], .string ⟨#[s]⟩, .slice (some ⟨g, o, none⟩) ns.length cap] w (Numbered mb tb (cat s ns) w) := by
  have HT := hide h
  have HP := hide hp
  have HR := hide hr
  have HM := hide hm
  generalize hnn : ns.length = n at *
  have HN := hide hnn
  clear h hp hr hm hnn
  obtain ⟨w2, hw2⟩ : ∃ w2, w2 = (w.alloc (.cells #[.map (some mb)] 108)).alloc (.cells #[.pointer none, .slice none 0 0] 72) := ⟨_, rfl⟩
  have hs2 : w2.heap.size = w.heap.size + 1 + 1 := by rw [hw2]; simp
  have hb2 : Below w.heap.size w w2 := by rw [hw2]; exact ((Below.refl _ _).alloc (Nat.le_refl _) _).alloc (by simp) _
  have hB2 : Bld (w.heap.size + 1) (Lib.byteCells []) w2 := by
    have := Lib.fresh_isBuilder 72 5 (w.alloc (.cells #[.map (some mb)] 108))
    rw [World.size_alloc] at this
    rw [hw2]; exact this
  have hx2 : w2.cell? ⟨w.heap.size, 0, none⟩ = some (.map (some mb)) := by
    rw [hw2, World.cell?_alloc_lt _ _ ⟨w.heap.size, 0, none⟩ (by simp)]; simp
  have HB2 := hide hb2
  have HBL := hide hB2
  have HX2 := hide hx2
  have HW2 := hide hw2
  have HS2 := hide hs2
  clear hb2 hB2 hx2 hw2 hs2
  go_enter Tryz.func96, Tryz.ntmps96
  go_wp2_with fail
  rw [← HW2.out]
  go_loopw [12] (fun i wr => ∃ k : Nat, k ≤ n ∧ i = .int .i64 (k : Int) ∧ Hid (Bld (w.heap.size + 1) (Lib.byteCells (cat s (ns.take k))) wr) ∧ Hid (Kb (w.heap.size + 1) w2 wr)) (fun i _ => n - (intOf i).toNat)
  case atStart => exact ⟨0, Nat.zero_le _, rfl, HBL.out, Kb.refl _ _⟩
  case round =>
    obtain ⟨k, hk, rfl, HBr, HKr⟩ := hrel
    have hszr := HKr.out.1.size
    rw [HS2.out] at hszr
    have hlenr : (cat s (ns.take k)).length ≤ 1000002 * 1000000 := by
      have h1 := cat_len s (ns.take k) fun m hm => HM.out m (List.mem_of_mem_take hm)
      have h2 : (ns.take k).length ≤ 1000000 := by rw [List.length_take]; omega
      exact Nat.le_trans h1 (Nat.mul_le_mul_left _ h2)
    by_cases hlt : k < n
    · have hkl : k < ns.length := by rw [HN.out]; exact hlt
      obtain ⟨tu, yu, x, y, z, e1, e2, e3⟩ := (HR.out.below HB2.out hg) k ns[k] (List.getElem?_eq_getElem hkl)
      have e1' := (HKr.out.1.cell (p := ⟨g, o + k * 3, none⟩) (by show g < _; omega)).trans e1
      have e2' := (HKr.out.1.cell (p := ⟨g, o + k * 3 + 1, none⟩) (by show g < _; omega)).trans e2
      have e3' := (HKr.out.1.cell (p := ⟨g, o + k * 3 + 2, none⟩) (by show g < _; omega)).trans e3
      have HCS := hide (cat_snoc s ns k hkl)
      have hmk := HM.out ns[k] (List.getElem_mem hkl)
      clear e1 e2 e3
      generalize ns[k] = m at *
      have hba : Below wr.heap.size wr (wr.alloc (.cells #[.iface tu yu, .int .i64 (m : Int), .slice x y z] 111)) := (Below.refl _ _).alloc (Nat.le_refl _) _
      have HKa := hide (HKr.out.trans (Kb.of_below (b := w.heap.size + 1) hba (by omega)))
      have HC1 := hide (WriteString_any (w.heap.size + 1) _ ⟨#[s]⟩ _ (HBr.out.below hba) (by rw [Lib.byteCells_length]; show _ + 1 ≤ _; omega))
      have HNEW := hide (heap_alloc_new wr (.cells #[.iface tu yu, .int .i64 (m : Int), .slice x y z] 111))
      clear hba
      go_wp2_with fail
      refine HC1.out.mono ?_
      rintro e w3 ⟨rfl, hbl3, hk3⟩
      have hnew3 := hk3.cell HNEW.out (by omega) (by decide)
      have f1 : w3.cell? ⟨wr.heap.size, 1, none⟩ = some (.int .i64 (m : Int)) := by rw [Lib.cell_of_heap hnew3]; rfl
      have HK3 := hide (HKa.out.trans hk3)
      have HB3 := hide hbl3
      have hp3 : Pow w3 := (HP.out.block (HB2.out.block _ HP.out.lt)).block (HK3.out.1.block _ (by have := HP.out.lt; omega))
      have HIT := hide (Tryz.strconv_Itoa (m : Int) (by omega) (by omega) w3 hp3)
      have hit : Lib.itoa (m : Int) = decDigits m := Lib.itoa_nonneg m
      rw [hit] at HIT
      have hdl := dec_len m
      clear hbl3 hk3 hnew3 hp3 hit HC1
      generalize hdd : decDigits m = dd at *
      have HDD := hide hdd
      clear hdd
      go_wp2_with fail
      refine HIT.out.mono ?_
      rintro e w4 ⟨rfl, kk, os, hw4⟩
      have hb4 : Below w3.heap.size w3 w4 := by rw [hw4]; exact below_grow _ _ _
      have hlt3 := HB3.out.lt
      have HK4 := hide (HK3.out.trans (Kb.of_below (b := w.heap.size + 1) hb4 (by omega)))
      have HC2 := hide (WriteString_any (w.heap.size + 1) _ ⟨dd.toArray⟩ w4 (HB3.out.below hb4) (by rw [List.length_append, Lib.byteCells_length, Lib.strCells_length]; show _ + 1 + dd.toArray.size ≤ _; rw [List.size_toArray]; omega))
      clear hb4 hw4 HIT
      go_wp2_with fail
      refine HC2.out.mono ?_
      rintro e w5 ⟨rfl, hbl5, hk5⟩
      have HK5 := hide (HK4.out.trans hk5)
      have HB5 : Hid (Bld (w.heap.size + 1) (Lib.byteCells (cat s (ns.take (k + 1)))) w5) := by
        show Bld _ _ _
        rw [HCS.out, Lib.byteCells_append, Lib.byteCells_append, ← List.append_assoc]
        exact hbl5
      clear hbl5 hk5 HC2
      go_wp2_with fail
      go_roundw
      case rel => exact ⟨k + 1, by omega, by go_num, HB5.out, HK5.out⟩
      case measure => simp [intOf]; omega
    · have hkn : k = n := by omega
      subst hkn
      have htk : ns.take k = ns := List.take_of_length_le (by rw [HN.out]; exact Nat.le_refl _)
      rw [htk] at HBr hlenr
      have hlast : Below (w.heap.size + 1) w2 wr.drew := ⟨HKr.out.1.os, HKr.out.1.tape, HKr.out.1.output, HKr.out.1.size, HKr.out.1.block⟩
      have cx : wr.cell? ⟨w.heap.size, 0, none⟩ = some (.map (some mb)) := (HKr.out.1.cell (p := ⟨w.heap.size, 0, none⟩) (by simp)).trans HX2.out
      have HST := hide (Tryz.Builder_String_any (w.heap.size + 1) (w.heap.size + 1) (cat s ns) wr.drew HBr.out (by show _ ≤ wr.heap.size; omega))
      have HGO : Hid (∀ w6, Below (w.heap.size + 1) wr.drew w6 → w6.cell? ⟨w.heap.size, 0, none⟩ = some (.map (some mb)) ∧ w.grownBy w6 (some mb) ∧ Tbl mb tb w6) := by
        intro w6 h6
        have hbw : Below w.heap.size w w6 := HB2.out.trans ((hlast.trans h6).mono (by omega))
        exact ⟨(h6.cell (p := ⟨w.heap.size, 0, none⟩) (by simp)).trans cx, ⟨hbw.os, hbw.tape, hbw.output, hbw.size, fun k hk _ => hbw.block k hk⟩, HT.out.kept (row := none) ⟨hbw.os, hbw.tape, hbw.output, hbw.size, fun k hk _ => hbw.block k hk⟩ (by simp)⟩
      have HSZ : Hid ((cat s ns).length ≤ maxLen) := by show _ ≤ _; unfold maxLen; omega
      clear hlast
      go_wp2_with fail
      go_region_with (first | (go_at_call 26; refine HST.out.mono ?_; rintro e w6 ⟨rfl, hb6⟩; have c6 := (HGO.out w6 hb6).1) | (go_at_call 99; refine (number_any mb tb (cat s ns) _ (HGO.out _ hb6).2.2 hl HSZ.out).mono ?_; rintro e w7 ⟨iN, more, rfl, hq1, hq2, hq3, hq4⟩))
      all_goals go_wp2_with fail
      all_goals go_ret
      all_goals exact ⟨iN, more, rfl, hq1, hq2, hq3, (HGO.out _ hb6).2.1.trans hq4⟩
end
end
end Go.Proofs.YtgoabhclnicepaaGreatDoor
