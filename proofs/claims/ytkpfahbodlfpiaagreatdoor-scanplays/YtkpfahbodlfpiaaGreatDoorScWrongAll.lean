/-
  A block of two cells, read. Rows in memory that are filled cell by cell, and what 'make' lays; the walks of package machine's toBools, fromBools and told. What stands while the document's scans are played: its state in a block of its own. The walks of package scan's Step and Play where they refuse.
-/
import Derived.Test.YtkpfahbodlfpiaaGreatDoorRows
import Derived.WalkKit
import Derived.Lib.Builder
import Derived.Test.YtkpfahbodlfpiaaGreatDoorLwInputsAll
import Derived.Laws.MakeOwn
import Derived.Test.YtkpfahbodlfpiaaGreatDoorRfStep
import Derived.Test.YtkpfahbodlfpiaaGreatDoorRgBaseAll
import Derived.Test.YtkpfahbodlfpiaaGreatDoorRfTells
import Derived.Test.YtkpfahbodlfpiaaGreatDoorScPlayAll
namespace Go.Proofs.YtkpfahbodlfpiaaGreatDoor
section
open Go.RowKit
theorem two_cells {W : World} {b : Nat} {x y : Value} {t : TypeId} (h : W.heap[b]? = some (.cells #[x, y] t (0, 0))) : W.cell? ⟨b, 0, none⟩ = some x ∧ W.cell? ⟨b, 1, none⟩ = some y ∧ W.frozen? ⟨b, 0, none⟩ = false ∧ W.frozen? ⟨b, 1, none⟩ = false :=
  ⟨by rw [Lib.cell_of_heap h]; rfl, by rw [Lib.cell_of_heap h]; rfl, Lib.frozen_of_heap h 0, Lib.frozen_of_heap h 1⟩
end
section
open Go.RowKit
/-- block g is this row -/
def RowIs (W : World) (g : Nat) (t : TypeId) (l : List Value) : Prop := W.heap[g]? = some (.cells ⟨l⟩ t (0, 0))
theorem RowIs.lt {W : World} {g : Nat} {t : TypeId} {l : List Value} (h : RowIs W g t l) : g < W.heap.size := (Array.getElem?_eq_some_iff.1 h).1
theorem RowIs.below {W W' : World} {g : Nat} {t : TypeId} {l : List Value} (h : RowIs W g t l) (hb : Below W.heap.size W W') : RowIs W' g t l := (hb.block _ h.lt).trans h
theorem RowIs.belowN {n : Nat} {W W' : World} {g : Nat} {t : TypeId} {l : List Value} (h : RowIs W g t l) (hb : Below n W W') (hg : g < n) : RowIs W' g t l := (hb.block _ hg).trans h
theorem RowIs.cell {W : World} {g : Nat} {t : TypeId} {l : List Value} (h : RowIs W g t l) (i : Nat) (v : Value) (hi : l[i]? = some v) : W.cell? ⟨g, i, none⟩ = some v := by
  rw [Lib.cell_of_heap h]; simpa using hi
theorem RowIs.frozen {W : World} {g : Nat} {t : TypeId} {l : List Value} (h : RowIs W g t l) (i : Nat) : W.frozen? ⟨g, i, none⟩ = false := Lib.frozen_of_heap h i
theorem RowIs.set {W : World} {g : Nat} {t : TypeId} {l : List Value} (h : RowIs W g t l) (i : Nat) (v : Value) : RowIs (W.setCell ⟨g, i, none⟩ v) g t (l.set i v) := by
  unfold RowIs at *
  simp [World.setCell, Array.getElem?_modify, h]
theorem RowIs.other {W : World} {g : Nat} {t : TypeId} {l : List Value} (h : RowIs W g t l) (b i : Nat) (v : Value) (hb : g ≠ b) : RowIs (W.setCell ⟨b, i, none⟩ v) g t l := (Below.heap_setCell _ _ _ _ (fun e => hb e)).trans h
theorem RowIs.new (W : World) (t : TypeId) (l : List Value) : RowIs (W.alloc (.cells ⟨l⟩ t)) W.heap.size t l := heap_alloc_new _ _
theorem RowIs.alloc {W : World} {g : Nat} {t : TypeId} {l : List Value} (h : RowIs W g t l) (o : Obj) : RowIs (W.alloc o) g t l := (Below.heap_alloc _ _ _ h.lt).trans h
theorem RowIs.drew {W : World} {g : Nat} {t : TypeId} {l : List Value} (h : RowIs W g t l) : RowIs W.drew g t l := h
/-- the next one of a row that is filled from the head -/
theorem fill_set {α : Type} (a : List α) (z v : α) (n : Nat) (h : a.length < n) : (a ++ List.replicate (n - a.length) z).set a.length v = (a ++ [v]) ++ List.replicate (n - (a ++ [v]).length) z := by
  obtain ⟨d, hd⟩ : ∃ d, n - a.length = d + 1 := ⟨n - a.length - 1, by omega⟩
  have e : n - (a ++ [v]).length = d := by simp; omega
  rw [e, hd, List.set_append_right _ _ (Nat.le_refl _), Nat.sub_self, List.replicate_succ, List.set_cons_zero]
  simp
theorem mcells_one (z : Value) (n : Nat) : madeCells #[z] (n * 1) = ⟨List.replicate n z⟩ := by
  apply Array.ext'
  simp only [madeCells, Nat.mul_one, Array.toList_map, Array.toList_range]
  apply List.ext_getElem
  · simp
  · intro i h1 h2
    simp [Nat.mod_one]
/-- 'make' of so many of one cell each -/
theorem make_one {t e : TypeId} {z : Value} {bytes : Nat} (hu : Tryz.prog.underlying t = some (.slice e)) (hinfo : (Tryz.prog.info? e).map (fun i => (i.zero, i.size, i.bytes)) = some (some z, 1, bytes)) (hz : z.cells = #[z]) (hb : bytes ≤ 1000) (n : Nat) (hn : n ≤ 1000000) (w : World) :
    (Instr.makeSlice t (.int .i64 (n : Int)) (.int .i64 (n : Int))).run Tryz.prog w = .ok (.slice (some ⟨w.heap.size, 0, none⟩) n n) (w.alloc (.cells ⟨List.replicate n z⟩ e)) := by
  obtain ⟨i0, hi0, hz0, hz1, hz2⟩ := info_parts hinfo
  have hbb : (i0.bytes : Int) * (n : Int) ≤ 281474976710656 := by
    rw [hz2]
    have : bytes * n ≤ 1000 * 1000000 := Nat.mul_le_mul hb hn
    have h2 : ((bytes * n : Nat) : Int) ≤ 1000 * 1000000 := by omega
    rw [Int.natCast_mul] at h2
    omega
  have h := run_makeSlice (P := Tryz.prog) w t e i0 z hu hi0 hz0 .i64 .i64 n n (by omega) (Int.le_refl _) (by rw [hz1]; omega) hbb (by omega)
  rw [hz, hz1, show ((n : Int)).toNat = n by omega, mcells_one] at h
  exact h
theorem makeBs (n : Nat) (hn : n ≤ 1000000) (w : World) : (Instr.makeSlice 47 (.int .i64 (n : Int)) (.int .i64 (n : Int))).run Tryz.prog w = .ok (.slice (some ⟨w.heap.size, 0, none⟩) n n) (w.alloc (.cells ⟨List.replicate n (.bool false)⟩ 4)) :=
  make_one Tryz.underlying47 Tryz.infoBool rfl (by decide) n hn w
theorem makeIs (n : Nat) (hn : n ≤ 1000000) (w : World) : (Instr.makeSlice 22 (.int .i64 (n : Int)) (.int .i64 (n : Int))).run Tryz.prog w = .ok (.slice (some ⟨w.heap.size, 0, none⟩) n n) (w.alloc (.cells ⟨List.replicate n (.int .i64 0)⟩ 3)) :=
  make_one Tryz.underlying22 Tryz.infoInt rfl (by decide) n hn w
set_option maxHeartbeats 4000000 in
set_option maxRecDepth 100000 in
theorem toBools_any (x : Int) (many : Nat) (w : World) (hm : many ≤ 60) :
    Calls Tryz.prog 46 #[.int .i64 x, .int .i64 (many : Int)] w fun e w' => ∃ g, e = .returned (slV g many) ∧ RowIs w' g 4 ((bitsTo x many).map boolV) ∧ w.heap.size ≤ g ∧ Below w.heap.size w w' := by
  have mk := fun w => makeBs many (by omega) w
  obtain ⟨cb, hcb⟩ : ∃ cb, cb = List.replicate many (Value.bool false) := ⟨_, rfl⟩
  obtain ⟨w1, hw1⟩ : ∃ w1, w1 = w.alloc (.cells ⟨cb⟩ 4) := ⟨_, rfl⟩
  have HR1 : Hid (RowIs w1 w.heap.size 4 (((bitsTo x 0).map boolV) ++ List.replicate (many - ((bitsTo x 0).map boolV).length) (.bool false))) := by
    show RowIs w1 w.heap.size 4 (List.replicate many (.bool false))
    rw [hw1, ← hcb]; exact RowIs.new _ _ _
  rw [← hcb] at mk
  clear hcb
  have HB1 : Hid (Below w.heap.size w w1) := by rw [hw1]; exact (Below.refl _ _).alloc (Nat.le_refl _) _
  go_enter Tryz.func46, Tryz.ntmps46
  go_wp2_with fail
  rw [← hw1]
  clear hw1
  go_loopw [10] (fun i wr => ∃ k : Nat, k ≤ many ∧ i = .int .i64 (k : Int) ∧ Hid (RowIs wr w.heap.size 4 (((bitsTo x k).map boolV) ++ List.replicate (many - ((bitsTo x k).map boolV).length) (.bool false))) ∧ Hid (Below w.heap.size w wr)) (fun i _ => many - (intOf i).toNat)
  case atStart => exact ⟨0, Nat.zero_le _, rfl, HR1.out, HB1.out⟩
  case round =>
    obtain ⟨k, hk, rfl, HR, HB⟩ := hrel
    have hlk : ((bitsTo x k).map boolV).length = k := by simp [bitsTo_len]
    by_cases hlt : k < many
    · have c0 : wr.cell? ⟨w.heap.size, k, none⟩ = some (.bool false) := HR.out.cell k _ (by rw [List.getElem?_append_right (by omega), List.getElem?_replicate, if_pos (by omega)])
      have f0 := HR.out.frozen k
      have HN : Hid (RowIs (wr.setCell ⟨w.heap.size, k, none⟩ (.bool (bitB x k))) w.heap.size 4 (((bitsTo x (k + 1)).map boolV) ++ List.replicate (many - ((bitsTo x (k + 1)).map boolV).length) (.bool false))) := by
        have h1 := HR.out.set k (.bool (bitB x k))
        have h2 := fill_set ((bitsTo x k).map boolV) (.bool false) (.bool (bitB x k)) many (by omega)
        rw [hlk] at h2
        rw [hlk, h2] at h1
        rw [bitsTo_succ, List.map_append]
        exact h1
      have HBN : Hid (Below w.heap.size w (wr.setCell ⟨w.heap.size, k, none⟩ (.bool (bitB x k)))) := HB.out.setCell (p := ⟨w.heap.size, k, none⟩) (Nat.le_refl _) _
      unfold bitB at HN HBN
      clear hlk
      go_wp2_with fail
      go_roundw
      case rel => exact ⟨k + 1, by omega, by go_num, HN.out, HBN.out⟩
      case measure => simp [intOf]; omega
    · have hkm : k = many := by omega
      subst hkm
      go_wp2_with fail
      go_ret
      refine ⟨w.heap.size, rfl, ?_, Nat.le_refl _, HB.out⟩
      have h1 := HR.out
      rw [hlk, Nat.sub_self, List.replicate_zero, List.append_nil] at h1
      exact h1
set_option linter.unusedSimpArgs false
set_option maxHeartbeats 4000000 in
set_option maxRecDepth 100000 in
theorem fromBools_any (l : List Bool) (g : Nat) (w : World) (hr : RowIs w g 4 (l.map boolV)) (hl : l.length ≤ 60) :
    Calls Tryz.prog 74 #[slV g l.length] w fun e w' => e = .returned (.int .i64 (Mc.val l : Int)) ∧ w' = w := by
  have HR := hide hr
  obtain ⟨n, hn⟩ : ∃ n, n = l.length := ⟨_, rfl⟩
  have HN := hide hn
  have hg := hr.lt
  rw [← hn] at hl ⊢
  clear hn hr
  unfold slV
  go_enter Tryz.func74, Tryz.ntmps74
  go_wp2_with fail
  go_loopw [3, 8] (fun m i wr => ∃ k : Nat, k ≤ n ∧ i = .int .i64 (k : Int) ∧ m = .int .i64 (Mc.val (l.take k) : Int) ∧ wr = w) (fun _ i _ => n - (intOf i).toNat)
  case atStart => exact ⟨0, Nat.zero_le _, rfl, rfl, rfl⟩
  case round =>
    obtain ⟨k, hk, rfl, rfl, rfl⟩ := hrel
    by_cases hlt : k < n
    · have hkl : k < l.length := by rw [← HN.out]; exact hlt
      have c0 : wr.cell? ⟨g, k, none⟩ = some (.bool l[k]) := HR.out.cell k _ (by rw [List.getElem?_map, List.getElem?_eq_getElem hkl]; rfl)
      have HT := hide (List.take_succ_eq_append_getElem hkl)
      have hlk : (l.take k).length = k := by simp; omega
      have hv := Mc.val_lt (l.take k)
      rw [hlk] at hv
      have HV := hide (Mc.val_snoc (l.take k) l[k])
      have HOR := hide (Mc.or_pow (Mc.val (l.take k)) k hv (by omega))
      have hp : (2 : Nat) ^ k ≤ 2 ^ 60 := Nat.pow_le_pow_right (by decide) (by omega)
      have HP : Hid (wrap64 ((2 : Int) ^ k) = ((2 ^ k : Nat) : Int)) := by
        show wrap64 _ = _
        unfold wrap64
        have e : ((2 : Int) ^ k) = ((2 ^ k : Nat) : Int) := by rw [Int.natCast_pow]; rfl
        rw [e]
        omega
      have HLK := hide hlk
      clear hlk
      generalize l[k] = b at *
      cases b with
      | true =>
        go_wp2_with fail
        go_roundw
        case rel => exact ⟨k + 1, by omega, by go_num, by rw [HP.out, HOR.out, HT.out, HV.out, if_pos rfl, HLK.out], trivial⟩
        case measure => simp [intOf]; omega
      | false =>
        go_wp2_with fail
        go_roundw
        case rel => exact ⟨k + 1, by omega, by go_num, by rw [HT.out, HV.out]; simp, trivial⟩
        case measure => simp [intOf]; omega
    · have hkn : k = n := by omega
      subst hkn
      go_wp2_with fail
      go_ret
      rw [List.take_of_length_le (by rw [← HN.out]; exact Nat.le_refl _)]
      exact ⟨rfl, rfl⟩
theorem told_any' (of : Int) (cnt is : Bool) (ct : Int) (w : World) :
    Calls Tryz.prog 76 #[.agg #[.int .i64 of, .bool cnt], .bool is, .int .i64 ct] w fun e w' => e = .returned (.int .i64 (if cnt then ct else if is && decide (1 < of) then 1 else 0)) ∧ w' = w.alloc (.cells #[.int .i64 of, .bool cnt] 145) := by
  by_cases h : 1 < of
  all_goals
    cases cnt <;> cases is
  all_goals
    go_enter Tryz.func76, Tryz.ntmps76
    go_wp2_with fail
    go_ret
    first | exact ⟨by simp [h], rfl⟩ | exact ⟨by simp, rfl⟩
end
section
namespace Rf
open Go.RowKit
/-- block b holds a state of the document's, made since W0 -/
def SV (b n : Nat) (W0 : World) (st : St) (W : World) : Prop := ∃ m1 m2, W.heap[b]? = some (.cells #[.map (some m1), .map (some m2)] 44 (0, 0)) ∧ StIs W (.agg #[.map (some m1), .map (some m2)]) n st ∧ Below b W0 W
theorem stored2 {W : World} {b : Nat} {x0 y0 : Value} {t : TypeId} (h : W.heap[b]? = some (.cells #[x0, y0] t (0, 0))) (x y : Value) :
    ((W.setCell ⟨b, 0, none⟩ x).setCell ⟨b, 1, none⟩ y).heap[b]? = some (.cells #[x, y] t (0, 0)) ∧ (∀ k, k ≠ b → ((W.setCell ⟨b, 0, none⟩ x).setCell ⟨b, 1, none⟩ y).heap[k]? = W.heap[k]?) ∧ Below b W ((W.setCell ⟨b, 0, none⟩ x).setCell ⟨b, 1, none⟩ y) :=
  ⟨by simp [World.setCell, Array.getElem?_modify, h], fun k hk => by
    have hne : ¬ b = k := fun e => hk e.symm
    simp [World.setCell, Array.getElem?_modify, hne], ((Below.refl b W).setCell (p := ⟨b, 0, none⟩) (Nat.le_refl _) _).setCell (p := ⟨b, 1, none⟩) (Nat.le_refl _) _⟩
theorem StIs.kept {W W' : World} {m1 m2 n : Nat} {st : St} (h : StIs W (.agg #[.map (some m1), .map (some m2)]) n st) (h1 : W'.heap[m1]? = W.heap[m1]?) (h2 : W'.heap[m2]? = W.heap[m2]?) : StIs W' (.agg #[.map (some m1), .map (some m2)]) n st := by
  obtain ⟨b1, b2, e, h3, h4, h5⟩ := h
  have e1 : b1 = m1 ∧ b2 = m2 := by
    simp only [Value.agg.injEq, List.toArray_eq_iff, List.cons.injEq, Value.map.injEq, Option.some.injEq, and_true] at e
    exact ⟨e.1.symm, e.2.symm⟩
  obtain ⟨rfl, rfl⟩ := e1
  exact ⟨b1, b2, rfl, h3.kept h1, h4.kept h2, h5⟩
/-- a new state is stored -/
theorem SV.put {b n : Nat} {W0 W : World} {st2 : St} {x0 y0 : Value} {m1 m2 : Nat} (hV : W.heap[b]? = some (.cells #[x0, y0] 44 (0, 0))) (h0 : Below b W0 W) (hs : StIs W (.agg #[.map (some m1), .map (some m2)]) n st2) :
    SV b n W0 st2 ((W.setCell ⟨b, 0, none⟩ (.map (some m1))).setCell ⟨b, 1, none⟩ (.map (some m2))) := by
  obtain ⟨q1, q2, q3⟩ := stored2 hV (.map (some m1)) (.map (some m2))
  refine ⟨m1, m2, q1, ?_, h0.trans q3⟩
  obtain ⟨b1, b2, e, h3, h4, h5⟩ := id hs
  have e1 : b1 = m1 ∧ b2 = m2 := by
    simp only [Value.agg.injEq, List.toArray_eq_iff, List.cons.injEq, Value.map.injEq, Option.some.injEq, and_true] at e
    exact ⟨e.1.symm, e.2.symm⟩
  obtain ⟨rfl, rfl⟩ := e1
  obtain ⟨es1, c1, o1⟩ := h3.obj
  obtain ⟨es2, c2, o2⟩ := h4.obj
  refine hs.kept (q2 _ (fun e => ?_)) (q2 _ (fun e => ?_))
  · subst e; rw [hV] at o1; cases o1
  · subst e; rw [hV] at o2; cases o2
theorem SV.below {b n : Nat} {W0 W W' : World} {st : St} (h : SV b n W0 st W) (hlt : b < W.heap.size) (hb : Below W.heap.size W W') : SV b n W0 st W' := by
  obtain ⟨m1, m2, h1, h2, h3⟩ := h
  exact ⟨m1, m2, (hb.block _ hlt).trans h1, h2.below hb, h3.trans (hb.mono (by omega))⟩
theorem SV.lt {b n : Nat} {W0 W : World} {st : St} (h : SV b n W0 st W) : b < W.heap.size := by
  obtain ⟨m1, m2, h1, _⟩ := h
  exact (Array.getElem?_eq_some_iff.1 h1).1
/-- at first -/
theorem SV.start {w : World} {m1 m2 : Nat} (h1 : w.ownsMap Tryz.prog 9 (plainElem Tryz.prog 4) m1 0 (.map [] : DataW Unit)) (h2 : w.ownsMap Tryz.prog 9 (plainElem Tryz.prog 3) m2 0 (.map [] : DataW Unit)) :
    SV w.heap.size 0 w start (w.alloc (.cells #[.map (some m1), .map (some m2)] 44)) := by
  have hb : Below w.heap.size w (w.alloc (.cells #[.map (some m1), .map (some m2)] 44)) := (Below.refl _ _).alloc (Nat.le_refl _) _
  exact ⟨m1, m2, heap_alloc_new _ _, ⟨m1, m2, rfl, ⟨.map [], om_below h1 hb, fun _ => rfl⟩, ⟨.map [], om_below h2 hb, fun _ => rfl⟩, fun s => by show _ ≤ (0 : Int) ∧ (0 : Int) ≤ _; omega⟩, hb⟩
theorem ints_of {q : Nat} {W : World} {u : Value} {b : List Int} (h : W.ownsRow q 3 1 u b.length (b.map iV)) (hl : ∀ c, c ∈ b → I64 c) : Ints W u b := by
  rcases h.2 with ⟨rfl, h0⟩ | ⟨g, cap, cur, rfl, _, hcur, hcap, _, _, htk⟩
  · exact .inl ⟨List.length_eq_zero_iff.1 h0, none, 0, rfl⟩
  · refine .inr ⟨g, 0, cap, rfl, hcap, fun i x hx => ?_⟩
    exact ⟨by rw [Nat.zero_add]; exact row_cell hcur htk (by rw [List.getElem?_map, hx]; rfl), hl x (List.mem_of_getElem? hx)⟩
theorem ints_st {W : World} {gi gc : Nat} {s : Sc.St} (h : StAt W gi gc s) (hl : ∀ c, c ∈ s.ct → I64 c) : Ints W (slV gc s.ct.length) s.ct := by
  by_cases h0 : s.ct = []
  · rw [h0]; exact .inl ⟨rfl, _, _, rfl⟩
  · refine .inr ⟨gc, 0, _, rfl, Nat.le_refl _, fun i x hx => ?_⟩
    obtain ⟨hi, hx2⟩ := List.getElem?_eq_some_iff.1 hx
    refine ⟨?_, hl x (List.mem_of_getElem? hx)⟩
    rw [Nat.zero_add]
    have := h.cellC i hi
    rw [this, List.getD_eq_getElem?_getD, List.getElem?_eq_getElem hi, hx2]
    rfl
/-- n cells alike -/
def cellsN (n : Nat) (v : Value) : Array Value := ⟨List.replicate n v⟩
theorem makeBN (n : Nat) (hn : n ≤ 1000000) (w : World) : (Instr.makeSlice 47 (.int .i64 (n : Int)) (.int .i64 (n : Int))).run Tryz.prog w = .ok (.slice (some ⟨w.heap.size, 0, none⟩) n n) (w.alloc (.cells (cellsN n (.bool false)) 4)) := makeBs n hn w
theorem makeIN (n : Nat) (hn : n ≤ 1000000) (w : World) : (Instr.makeSlice 22 (.int .i64 (n : Int)) (.int .i64 (n : Int))).run Tryz.prog w = .ok (.slice (some ⟨w.heap.size, 0, none⟩) n n) (w.alloc (.cells (cellsN n (.int .i64 0)) 3)) := makeIs n hn w
theorem makeBBN (n : Nat) (hn : n ≤ 1000000) (w : World) : (Instr.makeSlice 34 (.int .i64 (n : Int)) (.int .i64 (n : Int))).run Tryz.prog w = .ok (.slice (some ⟨w.heap.size, 0, none⟩) n n) (w.alloc (.cells (cellsN n (.slice none 0 0)) 47)) :=
  make_one Tryz.underlying34 Tryz.infoBools rfl (by decide) n hn w
theorem makeBB1001 (w : World) : (Instr.makeSlice 34 (.int .i64 1001) (.int .i64 1001)).run Tryz.prog w = .ok (.slice (some ⟨w.heap.size, 0, none⟩) 1001 1001) (w.alloc (.cells (cellsN 1001 (.slice none 0 0)) 47)) := makeBBN 1001 (by decide) w
/-- one row of inputs -/
theorem insAt_one {W : World} {g b k : Nat} (h1 : W.heap[g]? = some (.cells #[.slice (some ⟨b, 0, none⟩) k k] 47 (0, 0))) (h2 : W.heap[b]? = some (.cells (cellsN k (.bool false)) 4 (0, 0))) (hk : k ≤ 1000000) : InsAt W (.slice (some ⟨g, 0, none⟩) 1 1) [List.replicate k false] := by
  refine .inr ⟨g, 1, rfl, Nat.le_refl _, fun i l hl => ?_⟩
  cases i with
  | succ i => simp at hl
  | zero =>
    simp only [List.getElem?_cons_zero, Option.some.injEq] at hl
    subst hl
    refine ⟨.slice (some ⟨b, 0, none⟩) k k, by rw [Lib.cell_of_heap h1]; rfl, some ⟨b, 0, none⟩, k, by rw [List.length_replicate], by rw [List.length_replicate]; exact hk, fun j x hj => ⟨b, rfl, ?_⟩⟩
    have hjk : j < k := by have := (List.getElem?_eq_some_iff.1 hj).1; rwa [List.length_replicate] at this
    rw [List.getElem?_replicate, if_pos hjk] at hj
    rw [Lib.cell_of_heap h2]
    obtain rfl := Option.some.inj hj
    simp [cellsN, hjk]
theorem below_al (w : World) (o : Obj) : Below w.heap.size w (w.alloc o) := (Below.refl _ _).alloc (Nat.le_refl _) _
theorem lt_some {W : World} {k : Nat} {o : Obj} (h : W.heap[k]? = some o) : k < W.heap.size := (Array.getElem?_eq_some_iff.1 h).1
theorem at1 {w W : World} {o : Obj} (h : Below (w.alloc o).heap.size (w.alloc o) W) : W.heap[w.heap.size]? = some o := (h.block _ (by simp)).trans (heap_alloc_new _ _)
theorem at2 {w W : World} {o1 o2 : Obj} (h : Below ((w.alloc o1).alloc o2).heap.size ((w.alloc o1).alloc o2) W) : W.heap[w.heap.size]? = some o1 ∧ W.heap[w.heap.size + 1]? = some o2 := by
  have e := at1 h
  rw [World.size_alloc] at e
  exact ⟨at1 (then_ (below_al _ _) h), e⟩
theorem at3 {w W : World} {o1 o2 o3 : Obj} (h : Below (((w.alloc o1).alloc o2).alloc o3).heap.size (((w.alloc o1).alloc o2).alloc o3) W) : (W.heap[w.heap.size]? = some o1 ∧ W.heap[w.heap.size + 1]? = some o2) ∧ W.heap[w.heap.size + 1 + 1]? = some o3 := by
  have e := at1 h
  rw [World.size_alloc, World.size_alloc] at e
  exact ⟨at2 (then_ (below_al _ _) h), e⟩
theorem at4 {w W : World} {o1 o2 o3 o4 : Obj} (h : Below ((((w.alloc o1).alloc o2).alloc o3).alloc o4).heap.size ((((w.alloc o1).alloc o2).alloc o3).alloc o4) W) : ((W.heap[w.heap.size]? = some o1 ∧ W.heap[w.heap.size + 1]? = some o2) ∧ W.heap[w.heap.size + 1 + 1]? = some o3) ∧ W.heap[w.heap.size + 1 + 1 + 1]? = some o4 := by
  have e := at1 h
  rw [World.size_alloc, World.size_alloc, World.size_alloc] at e
  exact ⟨at3 (then_ (below_al _ _) h), e⟩
theorem un_drew {w W : World} (h : Below w.drew.heap.size w.drew W) : Below w.heap.size w W := then_ (b := w.drew) ⟨rfl, rfl, rfl, Nat.le_refl _, fun _ _ => rfl⟩ h
theorem at1d {w W : World} {o : Obj} (h : Below (w.alloc o).drew.heap.size (w.alloc o).drew W) : W.heap[w.heap.size]? = some o := at1 (un_drew h)
theorem at2d {w W : World} {o1 o2 : Obj} (h : Below ((w.alloc o1).alloc o2).drew.heap.size ((w.alloc o1).alloc o2).drew W) : W.heap[w.heap.size]? = some o1 ∧ W.heap[w.heap.size + 1]? = some o2 := at2 (un_drew h)
theorem at3d {w W : World} {o1 o2 o3 : Obj} (h : Below (((w.alloc o1).alloc o2).alloc o3).drew.heap.size (((w.alloc o1).alloc o2).alloc o3).drew W) : (W.heap[w.heap.size]? = some o1 ∧ W.heap[w.heap.size + 1]? = some o2) ∧ W.heap[w.heap.size + 1 + 1]? = some o3 := at3 (un_drew h)
theorem at4d {w W : World} {o1 o2 o3 o4 : Obj} (h : Below ((((w.alloc o1).alloc o2).alloc o3).alloc o4).drew.heap.size ((((w.alloc o1).alloc o2).alloc o3).alloc o4).drew W) : ((W.heap[w.heap.size]? = some o1 ∧ W.heap[w.heap.size + 1]? = some o2) ∧ W.heap[w.heap.size + 1 + 1]? = some o3) ∧ W.heap[w.heap.size + 1 + 1 + 1]? = some o4 := at4 (un_drew h)
theorem bools_st {W : World} {gi gc : Nat} {s : Sc.St} (h : StAt W gi gc s) (hl : s.is.length ≤ 1000000) : Bools W (slV gi s.is.length) s.is := ⟨some ⟨gi, 0, none⟩, s.is.length, rfl, hl, fun i b hb => ⟨gi, rfl, by
  obtain ⟨hi, hb2⟩ := List.getElem?_eq_some_iff.1 hb
  rw [h.cellI i hi, List.getD_eq_getElem?_getD, List.getElem?_eq_getElem hi, hb2]
  rfl⟩⟩
theorem isV_of (p : Ld.Prg) (hck : Ld.check p = none) (s : Sc.St) (hl : s.is.length = p.names.length) : isV (of p.names s) p.names = s.is.map boolV := by
  have h := tells_is p hck s.is hl
  have e : s.is.map boolV = (p.names.map (fun n => Sc.told p.names s.is n.name)).map boolV := by rw [h]
  rw [e, List.map_map]
  rfl
theorem ctV_of (p : Ld.Prg) (hck : Ld.check p = none) (s : Sc.St) (hl : s.ct.length = p.names.length) : ctV (of p.names s) p.names = s.ct.map iV := by
  have h := tells_ct p hck s.ct hl
  have e : s.ct.map iV = (p.names.map (fun n => toldC p.names s.ct n.name)).map iV := by rw [h]
  rw [e, List.map_map]
  rfl
end Rf
end
section
open Go.RowKit
theorem set2_cells {W : World} {b : Nat} {x0 y0 : Value} {t : TypeId} (h : W.heap[b]? = some (.cells #[x0, y0] t (0, 0))) (x y : Value) : ((W.setCell ⟨b, 0, none⟩ x).setCell ⟨b, 1, none⟩ y).cell? ⟨b, 0, none⟩ = some x ∧ ((W.setCell ⟨b, 0, none⟩ x).setCell ⟨b, 1, none⟩ y).cell? ⟨b, 1, none⟩ = some y := by
  have h1 : ((W.setCell ⟨b, 0, none⟩ x).setCell ⟨b, 1, none⟩ y).heap[b]? = some (.cells #[x, y] t (0, 0)) := by simp [World.setCell, Array.getElem?_modify, h]
  exact ⟨(two_cells h1).1, (two_cells h1).2.1⟩
set_option maxHeartbeats 4000000 in
set_option maxRecDepth 100000 in
theorem step_wrong (p : Ld.Prg) (v : Value) (ia sa sb : Option Addr) (il ic li ci lc cc : Nat) (w : World) (h : IsPrg w p v) (hbad : il ≠ (Ld.kindL p.names 1).length ∨ (il = (Ld.kindL p.names 1).length ∧ li ≠ p.names.length)) :
    Calls Tryz.prog 32 #[v, .agg #[.slice sa li ci, .slice sb lc cc], .slice ia il ic] w fun e w' => e = .returned (.tuple #[.agg #[.slice none 0 0, .slice none 0 0], .iface 58 (.int .i64 2)]) ∧ Below w.heap.size w w' := by
  have HPR := hide h
  obtain ⟨nv, rv, rfl, hn, hr⟩ := h
  have HNA := hide hn
  obtain ⟨na, nc, rfl, _⟩ := hn.slice
  obtain ⟨ra, rc, rfl, _⟩ := hr.slice
  obtain ⟨n, hnn⟩ : ∃ n, n = p.names.length := ⟨_, rfl⟩
  obtain ⟨m, hmm⟩ : ∃ m, m = p.rungs.length := ⟨_, rfl⟩
  rw [← hnn] at HPR HNA hbad ⊢
  rw [← hmm] at HPR ⊢
  obtain ⟨q, hqq⟩ : ∃ q, q = (Ld.kindL p.names 1).length := ⟨_, rfl⟩
  have HQ := hide hqq
  rw [← hqq] at hbad
  clear hn hr hnn hmm hqq
  obtain ⟨wA, hwA⟩ : ∃ wA, wA = ((w.alloc (.cells #[.slice na n nc, .slice ra m rc] 26)).alloc (.cells #[.slice sa li ci, .slice sb lc cc] 52)).alloc (.cells #[.slice none 0 0, .slice none 0 0] 52) := ⟨_, rfl⟩
  have hbA : Below w.heap.size w wA := by rw [hwA]; exact below_alloc3 _ _ _ _
  obtain ⟨b0, b1, b2⟩ := cells3 w (.cells #[.slice na n nc, .slice ra m rc] 26) (.cells #[.slice sa li ci, .slice sb lc cc] 52) (.cells #[.slice none 0 0, .slice none 0 0] 52)
  rw [← hwA] at b0 b1 b2
  have hsA : wA.heap.size = w.heap.size + 1 + 1 + 1 := by rw [hwA]; simp
  have HBX : Hid (∀ (W : World), (∀ k, k < wA.heap.size → W.heap[k]? = wA.heap[k]?) → (W.cell? ⟨w.heap.size, 0, none⟩ = some (.slice na n nc) ∧ W.cell? ⟨w.heap.size, 1, none⟩ = some (.slice ra m rc)) ∧ (W.cell? ⟨w.heap.size + 1, 0, none⟩ = some (.slice sa li ci) ∧ W.cell? ⟨w.heap.size + 1, 1, none⟩ = some (.slice sb lc cc)) ∧ W.heap[w.heap.size + 1 + 1]? = some (.cells #[.slice none 0 0, .slice none 0 0] 52 (0, 0))) := by
    intro W hW
    have e0 := (hW (w.heap.size) (by omega)).trans b0
    have e1 := (hW (w.heap.size + 1) (by omega)).trans b1
    have e2 := (hW (w.heap.size + 1 + 1) (by omega)).trans b2
    exact ⟨⟨by rw [Lib.cell_of_heap e0]; rfl, by rw [Lib.cell_of_heap e0]; rfl⟩, ⟨by rw [Lib.cell_of_heap e1]; rfl, by rw [Lib.cell_of_heap e1]; rfl⟩, e2⟩
  have HKI := hide (Kind_any p.names (.slice na n nc) (.slice ra m rc) 1 wA (HNA.out.below hbA) ⟨_, _, _, rfl⟩)
  rw [← HQ.out] at HKI
  rw [hwA] at HKI
  have HWA := hide hwA
  have HBA := hide hbA
  clear hwA hbA b0 b1 b2
  go_enter Tryz.func32, Tryz.ntmps32
  go_wp2_with fail
  refine HKI.out.mono ?_
  rintro e w1 ⟨kv, rfl, hown, hb1⟩
  rw [← HWA.out] at hown hb1
  obtain ⟨ka, kc, rfl⟩ := own_slice hown
  have HB1 := hide hb1
  obtain ⟨⟨c0, c1⟩, ⟨c2, c3⟩, hZ⟩ := HBX.out w1 (fun k hk => hb1.block k hk)
  have hb1w : Below w.heap.size w w1 := HBA.out.trans (hb1.mono HBA.out.size)
  have HW1 := hide hb1w
  obtain ⟨z0, z1, z2, z3⟩ := two_cells hZ
  have HS2 := hide (fun x y => set2_cells hZ x y)
  have hz1 := hb1.size
  clear hown hb1 HKI hb1w hZ
  rcases hbad with hb | ⟨rfl, hb⟩
  · have e1 : ((il : Int) != (q : Int)) = true := by simp; omega
    have e2 : ¬ (il : Int) = (q : Int) := by omega
    go_wp2_with fail
    refine bodyPost_ret_by (v := .tuple #[.agg #[.slice none 0 0, .slice none 0 0], .iface 58 (.int .i64 2)]) ?_ rfl ?_
    · obtain ⟨y0, y1⟩ := HS2.out (.slice none 0 0) (.slice none 0 0)
      simp [results, Tryz.results32, go_sem, y0, y1]
    · exact ⟨rfl, (HW1.out.setCell (p := ⟨w.heap.size + 1 + 1, 0, none⟩) (by show w.heap.size ≤ w.heap.size + 1 + 1; omega) _).setCell (p := ⟨w.heap.size + 1 + 1, 1, none⟩) (by show w.heap.size ≤ w.heap.size + 1 + 1; omega) _⟩
  · have e1 : ((li : Int) != (n : Int)) = true := by simp; omega
    have e2 : ¬ (li : Int) = (n : Int) := by omega
    go_wp2_with fail
    refine bodyPost_ret_by (v := .tuple #[.agg #[.slice none 0 0, .slice none 0 0], .iface 58 (.int .i64 2)]) ?_ rfl ?_
    · obtain ⟨y0, y1⟩ := HS2.out (.slice none 0 0) (.slice none 0 0)
      simp [results, Tryz.results32, go_sem, y0, y1]
    · exact ⟨rfl, (HW1.out.setCell (p := ⟨w.heap.size + 1 + 1, 0, none⟩) (by show w.heap.size ≤ w.heap.size + 1 + 1; omega) _).setCell (p := ⟨w.heap.size + 1 + 1, 1, none⟩) (by show w.heap.size ≤ w.heap.size + 1 + 1; omega) _⟩
theorem beq_nilE (t : TypeId) (x : Value) (w : World) (h : t = 58) : (binOp BinOp.neq 38 (.iface t x) .nilIface).run Tryz.prog w = .ok (.bool true) w := by subst h; kernel_rfl
set_option maxHeartbeats 4000000 in
set_option maxRecDepth 100000 in
theorem Step_wrong (p : Ld.Prg) (v : Value) (ia sa sb : Option Addr) (il ic li ci lc cc : Nat) (w : World) (h : IsPrg w p v) (hck : Ld.check p = none) (hbad : il ≠ (Ld.kindL p.names 1).length ∨ (il = (Ld.kindL p.names 1).length ∧ li ≠ p.names.length)) :
    Calls Tryz.prog 15 #[v, .agg #[.slice sa li ci, .slice sb lc cc], .slice ia il ic] w fun e w' => ∃ u, e = .returned (.tuple #[u, .iface 58 (.int .i64 2)]) ∧ (∃ a n c b m d, u = .agg #[.slice a n c, .slice b m d]) ∧ Below w.heap.size w w' := by
  have HPR := hide h
  obtain ⟨nv, rv, rfl, hn, hr⟩ := h
  obtain ⟨na, nc, rfl, _⟩ := hn.slice
  obtain ⟨ra, rc, rfl, _⟩ := hr.slice
  obtain ⟨n, hnn⟩ : ∃ n, n = p.names.length := ⟨_, rfl⟩
  obtain ⟨m, hmm⟩ : ∃ m, m = p.rungs.length := ⟨_, rfl⟩
  obtain ⟨wA, hwA⟩ : ∃ wA, wA = ((w.alloc (.cells #[.slice na n nc, .slice ra m rc] 26)).alloc (.cells #[.slice sa li ci, .slice sb lc cc] 52)).alloc (.cells #[.slice none 0 0, .slice none 0 0] 52) := ⟨_, rfl⟩
  have hbA : Below w.heap.size w wA := by rw [hwA]; exact below_alloc3 _ _ _ _
  obtain ⟨b0, b1, b2⟩ := cells3 w (.cells #[.slice na n nc, .slice ra m rc] 26) (.cells #[.slice sa li ci, .slice sb lc cc] 52) (.cells #[.slice none 0 0, .slice none 0 0] 52)
  rw [← hwA] at b0 b1 b2
  have hsA : wA.heap.size = w.heap.size + 1 + 1 + 1 := by rw [hwA]; simp
  have HBX : Hid (∀ (W : World), (∀ k, k < wA.heap.size → W.heap[k]? = wA.heap[k]?) → (W.cell? ⟨w.heap.size, 0, none⟩ = some (.slice na n nc) ∧ W.cell? ⟨w.heap.size, 1, none⟩ = some (.slice ra m rc)) ∧ (W.cell? ⟨w.heap.size + 1, 0, none⟩ = some (.slice sa li ci) ∧ W.cell? ⟨w.heap.size + 1, 1, none⟩ = some (.slice sb lc cc)) ∧ W.heap[w.heap.size + 1 + 1]? = some (.cells #[.slice none 0 0, .slice none 0 0] 52 (0, 0))) := by
    intro W hW
    have e0 := (hW (w.heap.size) (by omega)).trans b0
    have e1 := (hW (w.heap.size + 1) (by omega)).trans b1
    have e2 := (hW (w.heap.size + 1 + 1) (by omega)).trans b2
    exact ⟨⟨by rw [Lib.cell_of_heap e0]; rfl, by rw [Lib.cell_of_heap e0]; rfl⟩, ⟨by rw [Lib.cell_of_heap e1]; rfl, by rw [Lib.cell_of_heap e1]; rfl⟩, e2⟩
  have HSW : Hid (∀ W, Below wA.heap.size wA W → Calls Tryz.prog 32 #[.agg #[.slice na n nc, .slice ra m rc], .agg #[.slice sa li ci, .slice sb lc cc], .slice ia il ic] W fun e w' => e = .returned (.tuple #[.agg #[.slice none 0 0, .slice none 0 0], .iface 58 (.int .i64 2)]) ∧ Below W.heap.size W w') := fun W hW => by
    rw [hnn, hmm]
    exact step_wrong p _ ia sa sb il ic li ci lc cc W ((HPR.out.below hbA).below hW) hbad
  have HKC := hide (Check_any p _ wA (HPR.out.below hbA))
  rw [hck, ← hnn, ← hmm, hwA] at HKC
  rw [← hnn, ← hmm]
  have HWA := hide hwA
  have HBA := hide hbA
  clear hwA hbA b0 b1 b2 hn hr hnn hmm hbad hck
  go_enter Tryz.func15, Tryz.ntmps15
  go_wp2_with fail
  refine HKC.out.mono ?_
  rintro e w1 ⟨er, rfl, her, hb1⟩
  obtain rfl : er = .nilIface := her
  rw [← HWA.out] at hb1
  have HB1 := hide hb1
  obtain ⟨⟨c0, c1⟩, ⟨c2, c3⟩, _⟩ := HBX.out w1 (fun k hk => hb1.block k hk)
  have HS1 := hide (HSW.out w1 hb1)
  clear hb1 HKC HSW
  go_wp2_with fail
  refine HS1.out.mono ?_
  rintro e w2 ⟨rfl, hb2⟩
  have hb12 : Below wA.heap.size wA w2 := HB1.out.trans (hb2.mono HB1.out.size)
  obtain ⟨_, _, hZ⟩ := HBX.out w2 (fun k hk => hb12.block k hk)
  obtain ⟨z0, z1, z2, z3⟩ := two_cells hZ
  have HS2 := hide (fun x y => set2_cells hZ x y)
  have HB2 : Hid (Below w.heap.size w w2) := HBA.out.trans (hb12.mono HBA.out.size)
  clear hb2 hb12 hZ HS1
  go_wp2_with fail
  refine bodyPost_ret_by (v := .tuple #[.agg #[.slice none 0 0, .slice none 0 0], .iface 58 (.int .i64 2)]) ?_ rfl ?_
  · obtain ⟨y0, y1⟩ := HS2.out (.slice none 0 0) (.slice none 0 0)
    simp [results, Tryz.results15, go_sem, y0, y1]
  · exact ⟨_, rfl, ⟨_, _, _, _, _, _, rfl⟩, (HB2.out.setCell (p := ⟨w.heap.size + 1 + 1, 0, none⟩) (by show w.heap.size ≤ w.heap.size + 1 + 1; omega) _).setCell (p := ⟨w.heap.size + 1 + 1, 1, none⟩) (by show w.heap.size ≤ w.heap.size + 1 + 1; omega) _⟩
set_option maxHeartbeats 4000000 in
set_option maxRecDepth 100000 in
theorem Play_many (v : Value) (a : Option Addr) (n c : Nat) (w : World) (hv : ∃ a n c b m d, v = .agg #[.slice a n c, .slice b m d]) (hn : 1000 < n) :
    Calls Tryz.prog 9 #[v, .slice a n c] w fun e w' => e = .returned (.tuple #[.slice none 0 0, .iface 58 (.int .i64 4)]) ∧ Below w.heap.size w w' := by
  obtain ⟨a1, n1, c1, a2, n2, c2, rfl⟩ := hv
  have hni : (1000 : Int) < (n : Int) := by omega
  go_enter Tryz.func9, Tryz.ntmps9
  go_wp2_with fail
  refine bodyPost_ret (results_tmp2 rfl _ _ _) rfl ⟨rfl, ?_⟩
  exact (Below.refl _ _).alloc (Nat.le_refl _) _
set_option maxHeartbeats 4000000 in
set_option maxRecDepth 100000 in
theorem Play_wrong (p : Ld.Prg) (v iv : Value) (l : List Bool) (w : World) (h : IsPrg w p v) (hck : Ld.check p = none) (hin : InsAt w iv [l]) (hl : l.length ≠ (Ld.kindL p.names 1).length) :
    Calls Tryz.prog 9 #[v, iv] w fun e w' => e = .returned (.tuple #[.slice none 0 0, .iface 58 (.int .i64 2)]) ∧ Below w.heap.size w w' := by
  have HPR := hide h
  have HIN := hide hin
  have HLN := hide hl
  have h12 := (Ld.check_names p hck).1
  obtain ⟨nv, rv, rfl, hn, hr⟩ := h
  obtain ⟨na, nc, rfl, _⟩ := hn.slice
  obtain ⟨ra, rc, rfl, _⟩ := hr.slice
  obtain ⟨ia, ic, rfl⟩ := hin.slice
  obtain ⟨n, hnn⟩ : ∃ n, n = p.names.length := ⟨_, rfl⟩
  obtain ⟨m, hmm⟩ : ∃ m, m = p.rungs.length := ⟨_, rfl⟩
  have HN := hide hnn
  have HM := hide hmm
  rw [← hnn] at HPR h12 ⊢
  rw [← hmm] at HPR ⊢
  clear hn hr hnn hmm hin hl
  obtain ⟨wA, hwA⟩ : ∃ wA, wA = w.alloc (.cells #[.slice na n nc, .slice ra m rc] 26) := ⟨_, rfl⟩
  have hbA : Below w.heap.size w wA := by rw [hwA]; exact (Below.refl _ _).alloc (Nat.le_refl _) _
  have hsA : wA.heap.size = w.heap.size + 1 := by rw [hwA]; simp
  have hA : wA.heap[w.heap.size]? = some (.cells #[.slice na n nc, .slice ra m rc] 26 (0, 0)) := by rw [hwA]; exact heap_alloc_new _ _
  have HBX : Hid (∀ (W : World), Below (w.heap.size + 1) wA W → W.cell? ⟨w.heap.size, 0, none⟩ = some (.slice na n nc) ∧ W.cell? ⟨w.heap.size, 1, none⟩ = some (.slice ra m rc) ∧ Below w.heap.size w W) := by
    intro W hW
    have e0 := (hW.block w.heap.size (by omega)).trans hA
    exact ⟨by rw [Lib.cell_of_heap e0]; rfl, by rw [Lib.cell_of_heap e0]; rfl, hbA.trans (hW.mono (by omega))⟩
  have HKC := hide (Check_any p _ wA (by rw [← HN.out, ← HM.out] at *; exact HPR.out.below hbA))
  rw [hck, hwA] at HKC
  have HWA := hide hwA
  have HBA := hide hbA
  clear hwA hbA hA hck
  go_enter Tryz.func9, Tryz.ntmps9
  go_wp2_with fail
  refine HKC.out.mono ?_
  rintro e w1 ⟨er, rfl, her, hb1⟩
  obtain rfl : er = .nilIface := her
  rw [← HWA.out] at hb1
  have HB1 := hide hb1
  obtain ⟨c0, c1, hw1⟩ := HBX.out w1 (hsA ▸ hb1)
  have HST := hide (Start_any p _ w1 (HPR.out.below hw1) (by rw [← HN.out]; exact h12))
  have HW1 := hide hw1
  clear hb1 HKC hw1
  go_wp2_with fail
  refine HST.out.mono ?_
  rintro e w2 ⟨gi, gc, rfl, hst, hgi, hgc, hb2⟩
  have hln : (Sc.start p).is.length = n := by rw [HN.out]; simp [Sc.start]
  rw [hln]
  unfold stV
  obtain ⟨w3, hw3⟩ : ∃ w3, w3 = w2.alloc (.cells #[.slice (some ⟨gi, 0, none⟩) n n, .slice (some ⟨gc, 0, none⟩) n n] 52) := ⟨_, rfl⟩
  have HW3 := hide hw3
  have hs3 : w3.heap.size = w2.heap.size + 1 := by rw [hw3]; simp
  have hb23 : Below w2.heap.size w2 w3 := by rw [hw3]; exact (Below.refl _ _).alloc (Nat.le_refl _) _
  have hb13 : Below w1.heap.size w1 w3 := hb2.trans (hb23.mono hb2.size)
  have hb3 : Below wA.heap.size wA w3 := HB1.out.trans (hb13.mono HB1.out.size)
  obtain ⟨d0, d1, hw3w⟩ := HBX.out w3 (hsA ▸ hb3)
  have hV : w3.heap[w2.heap.size]? = some (.cells #[.slice (some ⟨gi, 0, none⟩) n n, .slice (some ⟨gc, 0, none⟩) n n] 52 (0, 0)) := by rw [hw3]; exact heap_alloc_new _ _
  obtain ⟨v0, v1, v2, v3⟩ := two_cells hV
  obtain ⟨g, u, hga, hic, hcu, hbu⟩ : ∃ g u, ia = some ⟨g, 0, none⟩ ∧ 1 ≤ ic ∧ w3.cell? ⟨g, 0, none⟩ = some u ∧ Bools w3 u l := by
    rcases HIN.out.below hw3w with ⟨h0, _⟩ | ⟨g, cap, h1, h2, h3⟩
    · cases h0
    · simp only [Value.slice.injEq] at h1
      obtain ⟨u, h4, h5⟩ := h3 0 l rfl
      exact ⟨g, u, h1.1, by rw [h1.2.2]; exact h2, h4, h5⟩
  subst hga
  obtain ⟨ua, uc, rfl, _, _⟩ := hbu
  have HSW : Hid (Calls Tryz.prog 32 #[.agg #[.slice na n nc, .slice ra m rc], .agg #[.slice (some ⟨gi, 0, none⟩) n n, .slice (some ⟨gc, 0, none⟩) n n], .slice ua l.length uc] w3 fun e w' => e = .returned (.tuple #[.agg #[.slice none 0 0, .slice none 0 0], .iface 58 (.int .i64 2)]) ∧ Below w3.heap.size w3 w') := step_wrong p _ ua _ _ l.length uc n n n n w3 (HPR.out.below hw3w) (.inl HLN.out)
  have HB3 := hide hw3w
  have hz12 : w.heap.size ≤ w2.heap.size := by have := hb2.size; have := HB1.out.size; omega
  clear hb2 hst hb23 hb13 hb3 hV HST hw3w HIN
  go_wp2_with fail
  rw [← HW3.out]
  clear hw3 HW3
  go_loopw [25] (fun i wr => i = .int .i64 0 ∧ Hid (wr = w3)) (fun _ _ => 0)
  case atStart => exact ⟨rfl, rfl⟩
  case round =>
    obtain ⟨rfl, HR⟩ := hrel
    obtain rfl := HR.out
    go_wp2_with fail
    refine HSW.out.mono ?_
    rintro e w4 ⟨rfl, hb4⟩
    have k0 := (hb4.cell (World.block_lt_of_cell? _ _ v0)).trans v0
    have k1 := (hb4.cell (World.block_lt_of_cell? _ _ v1)).trans v1
    have k2 := (hb4.frozen (World.block_lt_of_cell? _ _ v0)).trans v2
    have k3 := (hb4.frozen (World.block_lt_of_cell? _ _ v1)).trans v3
    have HB4 := hide (HB3.out.trans (hb4.mono HB3.out.size))
    clear hb4 HSW v0 v1 v2 v3
    go_wp2_with fail
    refine bodyPost_ret (results_tmp2 rfl _ _ _) rfl ⟨rfl, ?_⟩
    exact (HB4.out.setCell (p := ⟨w2.heap.size, 0, none⟩) hz12 _).setCell (p := ⟨w2.heap.size, 1, none⟩) hz12 _
end
end Go.Proofs.YtkpfahbodlfpiaaGreatDoor
