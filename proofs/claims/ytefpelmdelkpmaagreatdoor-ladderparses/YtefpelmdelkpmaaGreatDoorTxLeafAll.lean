/-
  A text cut at one byte, as the library cuts it: plain. The walks of strings.Builder's copyCheck, WriteByte and WriteString, at a builder of the call's own; what else is there stands as it stood. The walks of the leaves' Text, of isAnd, isOr, isList, and of Text itself (its deferred closure finds nothing to recover).
-/
import Derived.Test.YtefpelmdelkpmaaGreatDoorRtBoundAll
import Derived.Lib.SplitLaws
import Derived.Test.YtefpelmdelkpmaaGreatDoorLdRepAll
import Derived.Test.YtefpelmdelkpmaaGreatDoorShelf
import Derived.Lib.Builder
import Derived.Lib.AppendStr
import Derived.Lib.UnsafeStr
import Derived.Lib.OthersKept
import Derived.Laws.Externs
import Derived.Test.YtefpelmdelkpmaaGreatDoorRdListAll
import Derived.Test.YtefpelmdelkpmaaGreatDoorKeStrsAll
import Derived.Defers
import Derived.Recover
namespace Go.Proofs.YtefpelmdelkpmaaGreatDoor
section
namespace Ld
theorem splitK_one (c : UInt8) : ∀ (s : List UInt8) (k : Nat), s.count c = k → Lib.splitK [c] 0 k s = split c s
  | [], k, h => by
    have : k = 0 := by simpa using h.symm
    subst this
    rfl
  | b :: l, k, h => by
    by_cases hb : b = c
    · subst hb
      rw [List.count_cons_self] at h
      subst h
      have hix : Lib.index (b :: l) [b] = 0 := by rw [Lib.index]; simp [List.isPrefixOf]
      rw [Lib.splitK, hix, if_neg (by decide)]
      show [] :: Lib.splitK [b] 0 (l.count b) l = _
      rw [splitK_one b l _ rfl, split, if_pos rfl]
    · have hcn : (b :: l).count c = l.count c := List.count_cons_of_ne (by simpa using hb)
      rw [hcn] at h
      have ih := splitK_one c l k h
      have hp : ([c] : List UInt8).isPrefixOf (b :: l) = false := by simp [List.isPrefixOf, Ne.symm hb]
      have hix : Lib.index (b :: l) [c] = if Lib.index l [c] == -1 then -1 else Lib.index l [c] + 1 := by rw [Lib.index, hp]; simp
      rw [split, if_neg hb, ← ih]
      cases k with
      | zero => rfl
      | succ k =>
        by_cases hm : Lib.index l [c] = -1
        · rw [Lib.splitK, hix, if_pos (beq_iff_eq.2 hm), if_pos (by decide), Lib.splitK, if_pos (beq_iff_eq.2 hm)]
        · have hge := Lib.index_ge l [c]
          obtain ⟨j, hj⟩ : ∃ j : Nat, Lib.index l [c] = j := ⟨(Lib.index l [c]).toNat, by omega⟩
          have hne : ¬ ((j : Int) == -1) = true := fun e => by have := beq_iff_eq.1 e; omega
          have hne2 : ¬ ((j : Int) + 1 == -1) = true := fun e => by have := beq_iff_eq.1 e; omega
          rw [Lib.splitK, hix, hj, if_neg hne, if_neg hne2, Lib.splitK, hj, if_neg hne]
          have e1 : ((j : Int) + 1).toNat = j + 1 := by omega
          rw [e1, Int.toNat_natCast]
          rfl
theorem splitB_one (c : UInt8) (s : ByteArray) : (Lib.splitB ⟨#[c]⟩ 0 (Lib.countB s ⟨#[c]⟩) s).map (·.data.toList) = split c s.data.toList := by
  rw [Lib.splitB_data]
  refine splitK_one c s.data.toList _ ?_
  rw [← Lib.count_one]
end Ld
end
section
open Go.RowKit
/-- a builder in block b that holds these bytes (as cells) -/
def Bld (b : Nat) (bs : List Value) (w : World) : Prop := Lib.IsBuilder 88 5 b b bs w
/-- all below b stands; of what lies above it all but b and the rows of bytes -/
def Kb (b : Nat) (w w' : World) : Prop := Below b w w' ∧ Lib.OthersKept 5 (some b) w w'
namespace Kb
theorem refl (b : Nat) (w : World) : Kb b w w := ⟨Below.refl _ _, Lib.OthersKept.refl _ _ _⟩
theorem trans {b : Nat} {x y z : World} (h : Kb b x y) (k : Kb b y z) : Kb b x z := ⟨h.1.trans k.1, h.2.trans k.2⟩
theorem drewN {b : Nat} {a w : World} (n : Nat) (h : Kb b a w) : Kb b a (w.drewN n) := ⟨⟨h.1.os, h.1.tape, h.1.output, h.1.size, h.1.block⟩, h.2⟩
theorem alloc {b : Nat} {a w : World} (h : Kb b a w) (hb : b ≤ w.heap.size) (o : Obj) : Kb b a (w.alloc o) := ⟨h.1.alloc hb o, h.2.alloc o⟩
theorem setCell {b : Nat} {a w : World} (h : Kb b a w) (p : Addr) (hp : p.block = b) (v : Value) : Kb b a (w.setCell p v) := ⟨h.1.setCell (by omega) v, h.2.setCell p hp v⟩
theorem grown {b : Nat} {a w w' : World} {row : Option Nat} (h : Kb b a w) (hg : w.grownBy w' row) (hb : b ≤ w.heap.size) (hr : ∀ k, row = some k → b ≤ k) (hrow : ∀ g, row = some g → ∃ c fz, w.heap[g]? = some (.cells c 5 fz)) : Kb b a w' :=
  ⟨h.1.grown hg hb hr, h.2.grown hg hrow⟩
theorem of_below {b : Nat} {w w' : World} (h : Below w.heap.size w w') (hb : b ≤ w.heap.size) : Kb b w w' :=
  ⟨h.mono hb, fun k o hk _ _ => by rw [h.block k (Array.getElem?_eq_some_iff.1 hk).1]; exact hk⟩
/-- a cell of a block that is no row of bytes -/
theorem cell {b : Nat} {w w' : World} (h : Kb b w w') {g : Nat} {c : Array Value} {t : TypeId} {fz : Nat × Nat} (hg : w.heap[g]? = some (.cells c t fz)) (hb : g ≠ b) (ht : t ≠ 5) : w'.heap[g]? = some (.cells c t fz) :=
  h.2 g _ hg (fun e => hb (Option.some.inj e)) (fun c' fz' e => ht (by injection e))
end Kb
theorem ownsRow_kind {w : World} {B : Nat} {e : TypeId} {v : Value} {n : Nat} {xs : List Value} (h : w.ownsRow B e 1 v n xs) : ∀ g, v.ownBlock = some g → ∃ c fz, w.heap[g]? = some (.cells c e fz) := by
  intro g hg
  rcases h.2 with ⟨hv, _⟩ | ⟨g', cap, cur, hv, _, hcur, _⟩
  · rw [hv] at hg; cases hg
  · rw [hv] at hg
    simp only [Value.ownBlock, Option.some.injEq] at hg
    subst hg
    exact ⟨cur, (0, 0), hcur⟩
/-- a builder in a world that has kept all that was there -/
theorem Bld.below {b : Nat} {bs : List Value} {w w' : World} (h : Bld b bs w) (hb : Below w.heap.size w w') : Bld b bs w' := by
  have key : ∀ p, Lib.BuilderAt 88 5 b b p bs w → Lib.BuilderAt 88 5 b b p bs w' := by
    rintro p ⟨h1, v, h2, h3, h4⟩
    have hlt : b < w.heap.size := (Array.getElem?_eq_some_iff.1 h2).1
    exact ⟨h1, v, by rw [hb.block b hlt]; exact h2, h3.kept (row := none) ⟨hb.os, hb.tape, hb.output, hb.size, fun k hk _ => hb.block k hk⟩ (by cases v.ownBlock <;> simp), h4⟩
  rcases h with h | h
  · exact .inl (key _ h)
  · exact .inr (key _ h)
theorem Bld.lt {b : Nat} {bs : List Value} {w : World} (h : Bld b bs w) : b < w.heap.size := by
  rcases h with h | h <;> exact h.lt
theorem Bld.drewN {b : Nat} {bs : List Value} {w : World} (n : Nat) (h : Bld b bs w) : Bld b bs (w.drewN n) := h
theorem Tryz.infoByte : (Tryz.prog.info? 5).map (fun i => (i.zero, i.size, i.bytes)) = some (some (.int .u8 0), 1, 1) := by kernel_rfl
theorem Tryz.sizeBuilder : (Tryz.prog.info? 88).map (·.size) = some 2 := by kernel_rfl
theorem Tryz.liesBuilder : liesAt Tryz.prog Tryz.prog.depth 88 (2 / Tryz.prog.cellsOf 88) 0 88 1 = true := by kernel_rfl
set_option maxHeartbeats 1000000 in
theorem copyCheck_any (b : Nat) (bs : List Value) (w : World) (h : Bld b bs w) :
    Calls Tryz.prog 94 #[.pointer (some ⟨b, 0, none⟩)] w fun e w' => e = .returned (.tuple #[]) ∧ Lib.BuilderAt 88 5 b b (.pointer (some ⟨b, 0, none⟩)) bs w' ∧ Kb b w w' := by
  obtain ⟨j, hj, hjs⟩ := Option.map_eq_some_iff.1 Tryz.sizeBuilder
  rcases h with h | h
  · have H := hide h
    have h0 := h.cell0
    have hsh := h.shape
    have hfz := h.frozen0
    have hx : (callFunc 128 #[.pointer (some ⟨b, 0, none⟩)]).run Tryz.prog w = .ok (.value (.pointer (some ⟨b, 0, none⟩))) w := by
      rw [run_callFunc_extern Tryz.func128 (by kernel_rfl) (by kernel_rfl) (by kernel_rfl) (e := Extern.AbiNoEscape.same) (by kernel_rfl), Lib.run_noEscape]
      rfl
    have hu := Lib.run_to_unsafe (P := Tryz.prog) w ⟨b, 0, none⟩ Tryz.underlying85 Tryz.underlying188 hj (by rw [hjs]; decide) hsh (Nat.zero_lt_succ 1)
    have hf := Lib.run_from_unsafe (P := Tryz.prog) w ⟨b, 0, none⟩ Tryz.underlying188 Tryz.underlying85 hj hsh Tryz.liesBuilder
    clear h hsh
    go_enter Tryz.func94, Tryz.ntmps94
    go_wp2
    go_end0
    exact ⟨rfl, H.out.used _, Kb.setCell (b := b) (Kb.refl b w) ⟨b, 0, none⟩ rfl _⟩
  · have H := hide h
    have h0 := h.cell0
    have hn := Lib.run_neq_ptr_same (P := Tryz.prog) w ⟨b, 0, none⟩ Tryz.underlying85 hj
    clear h
    go_enter Tryz.func94, Tryz.ntmps94
    go_wp2
    go_end0
    exact ⟨rfl, H.out, Kb.refl _ _⟩
theorem cell_heap {w : World} {b : Nat} {cs : Array Value} {T : TypeId} {fr : Nat × Nat} (hb : w.heap[b]? = some (.cells cs T fr)) (j : Nat) (u : Value) (hu : cs[j]? = some u) : w.cell? ⟨b, j, none⟩ = some u := by rw [Lib.cell_of_heap hb, hu]
set_option maxHeartbeats 1000000 in
theorem WriteByte_any (b : Nat) (bs : List Value) (c : Int) (w : World) (h : Bld b bs w) (hlen : bs.length ≤ 140737488355327) :
    Calls Tryz.prog 226 #[.pointer (some ⟨b, 0, none⟩), .int .u8 c] w fun e w' => e = .returned .nilIface ∧ Bld b (bs ++ [.int .u8 c]) w' ∧ Kb b w w' := by
  obtain ⟨i0, hi0, hz0, hz1, hz2⟩ := info_parts Tryz.infoByte
  have HC := hide (copyCheck_any b bs w h)
  have HLT := hide h.lt
  clear h
  go_enter Tryz.func226, Tryz.ntmps226
  go_wp2_with fail
  refine HC.out.mono ?_
  rintro e w1 ⟨rfl, h1, hk1⟩
  obtain ⟨hB, v, hbk, hown, hne⟩ := h1
  have HBK := hide hbk
  have HK := hide hk1
  have HNE := hide hne
  have hsz := hk1.1.size
  have hlt := HLT.out
  have c0 := cell_heap hbk 0 _ rfl
  have c1 := cell_heap hbk 1 _ rfl
  have HOWN := hide hown
  have HOWN2 := hide (hown.alloc (.cells #[.int .u8 c] 5))
  clear hbk hown hk1 hne hB HC
  go_wp2_with (at_builtin; refine wpList_append_own _ rfl _ _ 86 rfl b 5 i0 (.int .u8 0) 1 1 Tryz.underlying86 hi0 hz0 hz1 hz2 rfl (by decide) _ bs.length bs rfl HOWN2.out ⟨w1.heap.size, 0, none⟩ 1 1 [.int .u8 c] rfl rfl (cell_one_new _ _ _) ?c2 ?c3 ?c4 ?c5 ?_)
  case c2 => intro z hz; simp at hz; subst hz; rfl
  case c3 => unfold maxLen; omega
  case c4 => omega
  case c5 => simp; omega
  intro v' w2 hown' hgrow _
  have hb2 : w2.heap[b]? = some (.cells #[.pointer (some ⟨b, 0, none⟩), v] 88 (0, 0)) := by
    rw [hgrow.block b (by simp; omega) (fun e => HNE.out e.symm), Below.heap_alloc w1 _ b (by omega)]
    exact HBK.out
  have d0 := cell_heap hb2 0 _ rfl
  have d1 := cell_heap hb2 1 _ rfl
  have f1 : w2.frozen? ⟨b, 1, none⟩ = false := Lib.frozen_of_heap hb2 1
  have HK2 : Hid (Kb b w w2) := (HK.out.alloc (by omega) _).grown hgrow (by simp; omega) (fun k hk => (HOWN.out.lt k hk).1) (fun g hg => by
    obtain ⟨c, fz, hc⟩ := ownsRow_kind HOWN.out g hg
    exact ⟨c, fz, by rw [Below.heap_alloc w1 _ g (HOWN.out.lt g hg).2]; exact hc⟩)
  have HP : Hid (∀ p : Addr, p = ⟨b, 1, none⟩ → Lib.BuilderAt 88 5 b b (.pointer (some ⟨b, 0, none⟩)) (bs ++ [.int .u8 c]) (w2.setCell p v')) := fun p hp => by
    subst hp
    exact Lib.BuilderAt.put (Nat.le_refl _) hb2 (bs' := bs ++ [.int .u8 c]) (by simpa using hown') (by decide)
  obtain ⟨g, cap, hv'⟩ : ∃ g cap, v' = .slice (some ⟨g, 0, none⟩) (bs.length + 1) cap := by
    rcases hown'.2 with ⟨_, h0⟩ | ⟨g, cap, cur, hv, _⟩
    · omega
    · exact ⟨g, cap, hv⟩
  rw [hv'] at HP
  rw [hv']
  clear hown' hgrow hb2 hv' HOWN HOWN2 HBK HNE c0 c1
  go_wp2_with fail
  go_ret
  exact ⟨rfl, .inr (HP.out _ rfl), Kb.setCell HK2.out ⟨b, 1, none⟩ rfl _⟩
set_option maxHeartbeats 1000000 in
theorem WriteString_any (b : Nat) (bs : List Value) (s : ByteArray) (w : World) (h : Bld b bs w) (hlen : bs.length + s.size ≤ 140737488355328) :
    Calls Tryz.prog 62 #[.pointer (some ⟨b, 0, none⟩), .string s] w fun e w' => e = .returned (.tuple #[.int .i64 s.size, .nilIface]) ∧ Bld b (bs ++ Lib.strCells s) w' ∧ Kb b w w' := by
  obtain ⟨i0, hi0, hz0, hz1, hz2⟩ := info_parts Tryz.infoByte
  have HC := hide (copyCheck_any b bs w h)
  have HLT := hide h.lt
  clear h
  go_enter Tryz.func62, Tryz.ntmps62
  go_wp2_with fail
  refine HC.out.mono ?_
  rintro e w1 ⟨rfl, h1, hk1⟩
  obtain ⟨hB, v, hbk, hown, hne⟩ := h1
  have HBK := hide hbk
  have HK := hide hk1
  have HNE := hide hne
  have hsz := hk1.1.size
  have hlt := HLT.out
  have c0 := cell_heap hbk 0 _ rfl
  have c1 := cell_heap hbk 1 _ rfl
  have HOWN := hide hown
  clear hbk hown hk1 hne hB HC
  go_wp2_with (at_builtin; refine Lib.wpList_append_own_string _ rfl _ _ 86 9 rfl b 5 i0 Tryz.underlying86 Tryz.underlying9 hi0 hz0 hz1 hz2 _ bs.length bs rfl HOWN.out s rfl ?c3 ?c4 ?c5 ?_)
  case c3 => unfold maxLen; omega
  case c4 => omega
  case c5 => omega
  intro v' w2 hown' hgrow _
  have hb2 : w2.heap[b]? = some (.cells #[.pointer (some ⟨b, 0, none⟩), v] 88 (0, 0)) := by
    rw [hgrow.block b (by omega) (fun e => HNE.out e.symm)]
    exact HBK.out
  have d0 := cell_heap hb2 0 _ rfl
  have d1 := cell_heap hb2 1 _ rfl
  have f1 : w2.frozen? ⟨b, 1, none⟩ = false := Lib.frozen_of_heap hb2 1
  have HK2 : Hid (Kb b w w2) := HK.out.grown hgrow (by omega) (fun k hk => (HOWN.out.lt k hk).1) (ownsRow_kind HOWN.out)
  have HP : Hid (∀ p : Addr, p = ⟨b, 1, none⟩ → Lib.BuilderAt 88 5 b b (.pointer (some ⟨b, 0, none⟩)) (bs ++ Lib.strCells s) (w2.setCell p v')) := fun p hp => by
    subst hp
    exact Lib.BuilderAt.put (Nat.le_refl _) hb2 (bs' := bs ++ Lib.strCells s) (by simpa [Lib.strCells_length] using hown') (by decide)
  obtain ⟨ao, n', cap, hv'⟩ : ∃ ao n' cap, v' = .slice ao n' cap := by
    rcases hown'.2 with ⟨hv, _⟩ | ⟨g, cap, cur, hv, _⟩
    · exact ⟨_, _, _, hv⟩
    · exact ⟨_, _, _, hv⟩
  rw [hv'] at HP
  rw [hv']
  clear hown' hgrow hb2 hv' HOWN HBK HNE c0 c1
  go_wp2_with fail
  go_ret2
  exact ⟨rfl, .inr (HP.out _ rfl), Kb.setCell HK2.out ⟨b, 1, none⟩ rfl _⟩
end
section
open Go.RowKit
theorem Const_Text (c : Bool) (w : World) : Calls Tryz.prog 243 #[.bool c] w fun e w' => e = .returned (.string ⟨#[if c then 49 else 48]⟩) ∧ w' = w := by
  cases c
  · go_enter Tryz.func243, Tryz.ntmps243
    go_wp2
    go_ret
    exact ⟨rfl, rfl⟩
  · go_enter Tryz.func243, Tryz.ntmps243
    go_wp2
    go_ret
    exact ⟨rfl, rfl⟩
theorem Bit_Text (s : ByteArray) (w : World) : Calls Tryz.prog 232 #[.string s] w fun e w' => e = .returned (.string s) ∧ w' = w := by
  go_enter Tryz.func232, Tryz.ntmps232
  go_wp2
  go_ret
  exact ⟨rfl, rfl⟩
theorem cons_bytes (c : UInt8) (l : List UInt8) : (⟨#[c]⟩ ++ ⟨l.toArray⟩ : ByteArray) = ⟨(c :: l).toArray⟩ := by
  apply ByteArray.ext
  simp [ByteArray.data_append]
theorem Rise_Text (l : List UInt8) (hl : l.length ≤ 8) (w : World) : Calls Tryz.prog 233 #[.string ⟨l.toArray⟩] w fun e w' => e = .returned (.string ⟨(94 :: l).toArray⟩) ∧ w' = w := by
  go_enter Tryz.func233, Tryz.ntmps233
  go_wp2
  go_ret
  exact ⟨ret_str (cons_bytes _ _), rfl⟩
theorem Fall_Text (l : List UInt8) (hl : l.length ≤ 8) (w : World) : Calls Tryz.prog 234 #[.string ⟨l.toArray⟩] w fun e w' => e = .returned (.string ⟨(126 :: l).toArray⟩) ∧ w' = w := by
  go_enter Tryz.func234, Tryz.ntmps234
  go_wp2
  go_ret
  exact ⟨ret_str (cons_bytes _ _), rfl⟩
/-- the deferred closure of Text, where nothing panics -/
theorem Text_idle (p : Addr) (w : World) :
    CallsD Tryz.prog 96 #[.pointer (some p)] .returning w fun e u' w' => e = .returned (.tuple #[]) ∧ u' = .returning ∧ w' = w := by
  refine callsD_of_wpS Tryz.func96 rfl fun c₀ cs hu => ?_
  apply wpS_seq
  apply wpS_region
  simp [wpOpsS, go_sem, recoverD, hu, Tryz.ntmps96, Exit.thenS]
  refine wpS_cond (t := false) (by simp [Act.eval, Array.replicate]) ?_
  simp only [Bool.false_eq_true, if_false]
  refine wpS_of_wp (wp_skip ?_)
  cases c₀
  simp_all [bodyPostS, results, Tryz.results96]
set_option maxHeartbeats 1000000 in
set_option maxRecDepth 100000 in
/-- Text is what the type's own method says -/
theorem Text_of (T M : Nat) (y : Value) (t : ByteArray) (w : World) (hm : ∀ w : World, (method 412 T y "Text").run Tryz.prog w = .ok (M, y) w) (hent : ∀ (args : Array Value) (w : World), (callFunc M args).run Tryz.prog w = .ok (.enter M args) w)
    (hc : ∀ w2 : World, Below w.heap.size w w2 → Calls Tryz.prog M #[y] w2 fun e w' => e = .returned (.string t) ∧ Below w2.heap.size w2 w') :
    Calls Tryz.prog 65 #[.iface T y] w fun e w' => e = .returned (.string t) ∧ Below w.heap.size w w' := by
  have hmf : ∀ (fn : Fn) (first cap : Array Value) (w : World), (Instr.makeFunc fn first cap).run Tryz.prog w = .ok (.func fn first cap) w := fun _ _ _ _ => rfl
  have HC := hide hc
  clear hc
  go_enter_defers Tryz.func65, Tryz.ntmps65
  go_wp2_with fail
  refine (HC.out _ ((Below.refl _ _).alloc (Nat.le_refl _) _)).mono ?_
  rintro e w1 ⟨rfl, hb⟩
  have hsz : w.heap.size < w1.heap.size := by have := hb.size; simp at this; omega
  have hc0 : w1.cell? ⟨w.heap.size, 0, none⟩ = some (.string ⟨#[]⟩) := by rw [hb.cell (by simp)]; simp
  have hf0 : w1.frozen? ⟨w.heap.size, 0, none⟩ = false := by rw [hb.frozen (by simp)]; simp [go_sem]
  have HB : Hid (Below w.heap.size w w1) := ((Below.refl _ w).alloc (Nat.le_refl _) _).trans (hb.mono (by simp))
  clear hb HC
  go_wp2_with fail
  refine leaves_cons (f := 96) (args := #[.pointer (some ⟨w.heap.size, 0, none⟩)]) (by simp) (by simp [go_sem]) ?_
  refine (Text_idle ⟨w.heap.size, 0, none⟩ _).mono ?_
  rintro e u' w'' ⟨rfl, rfl, rfl⟩
  have hc2 : (w1.setCell ⟨w.heap.size, 0, none⟩ (.string t)).cell? ⟨w.heap.size, 0, none⟩ = some (.string t) := World.cell?_setCell_same w1 _ _ hc0
  have HX := HB.out.setCell (p := ⟨w.heap.size, 0, none⟩) (Nat.le_refl _) (.string t)
  simp [Leaves, settle, results, Tryz.results65, go_sem, hc2]
  exact HX
theorem entered_Const : Entered 243 := fun _ _ => by kernel_rfl
theorem entered_Bit : Entered 232 := fun _ _ => by kernel_rfl
theorem entered_Rise : Entered 233 := fun _ _ => by kernel_rfl
theorem entered_Fall : Entered 234 := fun _ _ => by kernel_rfl
/-- a leaf's text -/
theorem Text_leaf (ok : Nat → Prop) (x : Ex) (v : Value) (w : World) (h : IsEx ok w x v) (hk : x.kind ≤ 4) :
    Calls Tryz.prog 65 #[v] w fun e w' => e = .returned (.string ⟨x.text.toArray⟩) ∧ Below w.heap.size w w' := by
  obtain ⟨k, nm, l⟩ := x
  match k, h, hk with
  | 0, h, _ =>
    simp only [IsEx] at h
    obtain ⟨_, _, rfl⟩ := h
    refine Text_of _ 243 _ _ w (fun _ => by kernel_rfl) entered_Const (fun w2 _ => (Const_Text false w2).mono ?_)
    rintro e w' ⟨rfl, rfl⟩
    exact ⟨by simp [Ex.text], Below.refl _ _⟩
  | 1, h, _ =>
    simp only [IsEx] at h
    obtain ⟨_, _, rfl⟩ := h
    refine Text_of _ 243 _ _ w (fun _ => by kernel_rfl) entered_Const (fun w2 _ => (Const_Text true w2).mono ?_)
    rintro e w' ⟨rfl, rfl⟩
    exact ⟨by simp [Ex.text], Below.refl _ _⟩
  | 2, h, _ =>
    simp only [IsEx] at h
    obtain ⟨_, _, rfl⟩ := h
    refine Text_of _ 232 _ _ w (fun _ => by kernel_rfl) entered_Bit (fun w2 _ => (Bit_Text _ w2).mono ?_)
    rintro e w' ⟨rfl, rfl⟩
    exact ⟨by simp [Ex.text], Below.refl _ _⟩
  | 3, h, _ =>
    simp only [IsEx] at h
    obtain ⟨_, hl, rfl⟩ := h
    refine Text_of _ 233 _ _ w (fun _ => by kernel_rfl) entered_Rise (fun w2 _ => (Rise_Text _ hl w2).mono ?_)
    rintro e w' ⟨rfl, rfl⟩
    exact ⟨by simp [Ex.text], Below.refl _ _⟩
  | 4, h, _ =>
    simp only [IsEx] at h
    obtain ⟨_, hl, rfl⟩ := h
    refine Text_of _ 234 _ _ w (fun _ => by kernel_rfl) entered_Fall (fun w2 _ => (Fall_Text _ hl w2).mono ?_)
    rintro e w' ⟨rfl, rfl⟩
    exact ⟨by simp [Ex.text], Below.refl _ _⟩
/-- is an expression's value an And? -/
theorem isAnd_any (ok : Nat → Prop) (x : Ex) (v : Value) (w0 w : World) (h : IsEx ok w0 x v) : Calls Tryz.prog 231 #[v] w fun e w' => e = .returned (.bool (x.kind == 6)) ∧ w' = w := by
  obtain ⟨k, nm, l⟩ := x
  match k, h with
  | 0, h =>
    simp only [IsEx] at h
    obtain ⟨_, _, rfl⟩ := h
    go_enter Tryz.func231, Tryz.ntmps231
    go_wp2
    go_ret
    exact ⟨rfl, rfl⟩
  | 1, h =>
    simp only [IsEx] at h
    obtain ⟨_, _, rfl⟩ := h
    go_enter Tryz.func231, Tryz.ntmps231
    go_wp2
    go_ret
    exact ⟨rfl, rfl⟩
  | 2, h =>
    simp only [IsEx] at h
    obtain ⟨_, _, rfl⟩ := h
    go_enter Tryz.func231, Tryz.ntmps231
    go_wp2
    go_ret
    exact ⟨rfl, rfl⟩
  | 3, h =>
    simp only [IsEx] at h
    obtain ⟨_, _, rfl⟩ := h
    go_enter Tryz.func231, Tryz.ntmps231
    go_wp2
    go_ret
    exact ⟨rfl, rfl⟩
  | 4, h =>
    simp only [IsEx] at h
    obtain ⟨_, _, rfl⟩ := h
    go_enter Tryz.func231, Tryz.ntmps231
    go_wp2
    go_ret
    exact ⟨rfl, rfl⟩
  | 5, h =>
    simp only [IsEx] at h
    obtain ⟨_, _, u, rfl, _⟩ := h
    go_enter Tryz.func231, Tryz.ntmps231
    go_wp2
    go_ret
    exact ⟨rfl, rfl⟩
  | 6, h =>
    simp only [IsEx] at h
    obtain ⟨_, _, _, g, cap, rfl, _⟩ := h
    go_enter Tryz.func231, Tryz.ntmps231
    go_wp2
    go_ret
    exact ⟨rfl, rfl⟩
  | 7, h =>
    simp only [IsEx] at h
    obtain ⟨_, _, _, g, cap, rfl, _⟩ := h
    go_enter Tryz.func231, Tryz.ntmps231
    go_wp2
    go_ret
    exact ⟨rfl, rfl⟩
  | n + 8, h => simp only [IsEx] at h
theorem isOr_any (ok : Nat → Prop) (x : Ex) (v : Value) (w0 w : World) (h : IsEx ok w0 x v) : Calls Tryz.prog 230 #[v] w fun e w' => e = .returned (.bool (x.kind == 7)) ∧ w' = w := by
  obtain ⟨k, nm, l⟩ := x
  match k, h with
  | 0, h =>
    simp only [IsEx] at h
    obtain ⟨_, _, rfl⟩ := h
    go_enter Tryz.func230, Tryz.ntmps230
    go_wp2
    go_ret
    exact ⟨rfl, rfl⟩
  | 1, h =>
    simp only [IsEx] at h
    obtain ⟨_, _, rfl⟩ := h
    go_enter Tryz.func230, Tryz.ntmps230
    go_wp2
    go_ret
    exact ⟨rfl, rfl⟩
  | 2, h =>
    simp only [IsEx] at h
    obtain ⟨_, _, rfl⟩ := h
    go_enter Tryz.func230, Tryz.ntmps230
    go_wp2
    go_ret
    exact ⟨rfl, rfl⟩
  | 3, h =>
    simp only [IsEx] at h
    obtain ⟨_, _, rfl⟩ := h
    go_enter Tryz.func230, Tryz.ntmps230
    go_wp2
    go_ret
    exact ⟨rfl, rfl⟩
  | 4, h =>
    simp only [IsEx] at h
    obtain ⟨_, _, rfl⟩ := h
    go_enter Tryz.func230, Tryz.ntmps230
    go_wp2
    go_ret
    exact ⟨rfl, rfl⟩
  | 5, h =>
    simp only [IsEx] at h
    obtain ⟨_, _, u, rfl, _⟩ := h
    go_enter Tryz.func230, Tryz.ntmps230
    go_wp2
    go_ret
    exact ⟨rfl, rfl⟩
  | 6, h =>
    simp only [IsEx] at h
    obtain ⟨_, _, _, g, cap, rfl, _⟩ := h
    go_enter Tryz.func230, Tryz.ntmps230
    go_wp2
    go_ret
    exact ⟨rfl, rfl⟩
  | 7, h =>
    simp only [IsEx] at h
    obtain ⟨_, _, _, g, cap, rfl, _⟩ := h
    go_enter Tryz.func230, Tryz.ntmps230
    go_wp2
    go_ret
    exact ⟨rfl, rfl⟩
  | n + 8, h => simp only [IsEx] at h
theorem isList_any (ok : Nat → Prop) (x : Ex) (v : Value) (w0 w : World) (h : IsEx ok w0 x v) : Calls Tryz.prog 228 #[v] w fun e w' => e = .returned (.bool (decide (6 ≤ x.kind))) ∧ w' = w := by
  have H1 := hide (fun w => isAnd_any ok x v w0 w h)
  have H2 := hide (fun w => isOr_any ok x v w0 w h)
  have H7 := hide (IsEx.le7 x v h)
  clear h
  generalize x.kind = k at *
  cases hk : (k == 6) with
  | true =>
    rw [hk] at H1
    have e1 : k = 6 := by simpa using hk
    clear hk
    go_enter Tryz.func228, Tryz.ntmps228
    go_wp2_with (first | (go_at_call 231; refine (H1.out _).mono ?_; rintro e w' ⟨rfl, rfl⟩) | (go_at_call 230; refine (H2.out _).mono ?_; rintro e w' ⟨rfl, rfl⟩))
    go_ret
    exact ⟨ret_bool (by rw [e1]; rfl), rfl⟩
  | false =>
    rw [hk] at H1
    have e1 : ¬ k = 6 := by simpa using hk
    clear hk
    go_enter Tryz.func228, Tryz.ntmps228
    go_wp2_with (first | (go_at_call 231; refine (H1.out _).mono ?_; rintro e w' ⟨rfl, rfl⟩) | (go_at_call 230; refine (H2.out _).mono ?_; rintro e w' ⟨rfl, rfl⟩))
    go_ret
    refine ⟨ret_bool ?_, rfl⟩
    have h7 := H7.out
    by_cases e2 : k = 7
    · rw [e2]; rfl
    · have : ¬ 6 ≤ k := by omega
      simp [e2, this]
end
end Go.Proofs.YtefpelmdelkpmaaGreatDoor
