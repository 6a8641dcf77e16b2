/-
  What was read is a program; the walks of package ladder's lines and inText. What the walks of the document's own reader (package signalcabinref) go by: its cells in memory, expressions as it lays them; its skip, next and fail. The walks of strings.ContainsRune over the signs that end words, at each byte.
-/
import Derived.Test.YtefpelmdelkpmaaGreatDoorLdTakeR
import Derived.Test.YtefpelmdelkpmaaGreatDoorLdLines
import Derived.Test.YtefpelmdelkpmaaGreatDoorLdRepAll
import Derived.Test.YtefpelmdelkpmaaGreatDoorShelf
import Derived.WalkMore
namespace Go.Proofs.YtefpelmdelkpmaaGreatDoor
section
open Go.RowKit
theorem flat3 {α : Type} (f : α → List Value) (hf : ∀ a, (f a).length = 3) : ∀ (l : List α) (i : Nat) (a : α), l[i]? = some a → ∀ j, j < 3 → (l.flatMap f)[i * 3 + j]? = (f a)[j]?
  | [], i, a, h, _, _ => by simp at h
  | b :: r, 0, a, h, j, hj => by
    simp only [List.getElem?_cons_zero, Option.some.injEq] at h
    subst h
    rw [List.flatMap_cons, List.getElem?_append_left (by rw [hf]; omega)]
    congr 1
    omega
  | b :: r, i + 1, a, h, j, hj => by
    simp only [List.getElem?_cons_succ] at h
    have ih := flat3 f hf r i a h j hj
    rw [List.flatMap_cons, List.getElem?_append_right (by rw [hf]; omega), hf]
    have : (i + 1) * 3 + j - 3 = i * 3 + j := by omega
    rw [this]; exact ih
/-- a cell of a row -/
theorem row_cell {W : World} {g : Nat} {cur : Array Value} {t : TypeId} {fz : Nat × Nat} (h : W.heap[g]? = some (.cells cur t fz)) {m : Nat} {xs : List Value} (htk : cur.toList.take m = xs) {k : Nat} {u : Value} (hk : xs[k]? = some u) : W.cell? ⟨g, k, none⟩ = some u := by
  rw [← htk] at hk
  have hkm : k < m := by
    by_cases h : k < m
    · exact h
    · rw [List.getElem?_eq_none (by rw [List.length_take]; omega)] at hk; cases hk
  rw [List.getElem?_take_of_lt hkm] at hk
  rw [Lib.cell_of_heap h, ← Array.getElem?_toList]; exact hk
theorem RdX.prg {b q : Nat} {w0 : World} {r : Ld.Rdg} {nv rv sv : Value} {vs : List Value} {W : World} (h : RdX b q w0 r nv rv sv vs W) (hn : r.names.length ≤ 1000000) (hr : r.rungs.length ≤ 1000000) : IsPrg W ⟨r.names, r.rungs⟩ (.agg #[nv, rv]) := by
  refine ⟨nv, rv, rfl, ?_, ?_⟩
  · rcases h.on.2 with ⟨rfl, h0⟩ | ⟨g, cap, cur, rfl, _, hcur, hcap, _, _, htk⟩
    · exact .inl ⟨List.length_eq_zero_iff.1 h0, _, _, rfl⟩
    · refine .inr ⟨g, cap, rfl, hcap, hn, ?_⟩
      intro i n hi
      have hc := fun j hj => flat3 nmCells (fun _ => rfl) r.names i n hi j hj
      have hb := h.bn n (List.mem_of_getElem? hi)
      exact ⟨row_cell hcur htk (hc 0 (by omega)), row_cell hcur htk (hc 1 (by omega)), row_cell hcur htk (hc 2 (by omega)), by unfold maxLen; omega, hb.2⟩
  · rcases h.org.2 with ⟨rfl, h0⟩ | ⟨g, cap, cur, rfl, _, hcur, hcap, _, _, htk⟩
    · exact .inl ⟨List.length_eq_zero_iff.1 h0, _, _, rfl⟩
    · refine .inr ⟨g, cap, rfl, hcap, hr, ?_⟩
      intro i gr hi
      have hil : i < r.rungs.length := (List.getElem?_eq_some_iff.1 hi).1
      have hvi : vs[i]? = some (vs[i]'(by rw [h.len]; exact hil)) := List.getElem?_eq_getElem _
      generalize vs[i]'(by rw [h.len]; exact hil) = v at hvi
      have hz : (r.rungs.zip vs)[i]? = some (gr, v) := by rw [List.getElem?_zip_eq_some]; exact ⟨hi, hvi⟩
      have hc := fun j hj => flat3 rgCells (fun _ => rfl) (r.rungs.zip vs) i (gr, v) hz j hj
      have hb := h.br gr (List.mem_of_getElem? hi)
      obtain ⟨x, l, e1, e2, e3⟩ := h.ex i gr v hi hvi
      have hbd := Ex.parse_bnd l x e2
      refine ⟨v, row_cell hcur htk (hc 0 (by omega)), row_cell hcur htk (hc 1 (by omega)), row_cell hcur htk (hc 2 (by omega)), by unfold maxLen; omega, hb.2, ?_⟩
      rw [e1]
      exact ⟨IsEx.stay (fun _ _ _ _ hc => hc) (fun _ _ => trivial) x v e3, by omega, by omega⟩
theorem RdX.parsed {b q : Nat} {w0 : World} {r : Ld.Rdg} {nv rv sv : Value} {vs : List Value} {W : World} (h : RdX b q w0 r nv rv sv vs W) : ∀ g, g ∈ r.rungs → ∀ x, g.cond = some x → ∃ l, Ex.parse l = .inr x := by
  intro g hg x hx
  obtain ⟨i, hi, rfl⟩ := List.getElem_of_mem hg
  obtain ⟨y, l, e1, e2, _⟩ := h.ex i _ (vs[i]'(by rw [h.len]; exact hi)) (List.getElem?_eq_getElem hi) (List.getElem?_eq_getElem _)
  rw [hx] at e1
  cases e1
  exact ⟨l, e2⟩
namespace Ld
theorem takeN_len (r r' : Rdg) (st : Nat) (line : List UInt8) (h : takeN r st line = .inr r') : r'.names.length + r'.rungs.length = r.names.length + r.rungs.length + 1 ∧ r'.starts = r.starts := by
  unfold takeN at h
  split at h
  · cases h
  · split at h
    · cases h; simp; omega
    · cases h
theorem takeR_len (r r' : Rdg) (st : Nat) (hd t : List UInt8) (h : takeR r st hd t = .inr r') : r'.names.length + r'.rungs.length = r.names.length + r.rungs.length + 1 ∧ r'.starts = r.starts := by
  unfold takeR at h
  split at h
  · cases h
  · split at h
    · cases h
    · cases h; simp; omega
theorem take_len (r r' : Rdg) (st : Nat) (line : List UInt8) (h : take r st line = .inr r') : r'.names.length + r'.rungs.length = r.names.length + r.rungs.length + 1 ∧ r'.starts.length = r.starts.length + 1 := by
  rw [take_is] at h
  split at h
  · have := takeN_len _ _ _ _ h
    exact ⟨this.1, by rw [this.2]; simp⟩
  · have := takeR_len _ _ _ _ _ h
    exact ⟨this.1, by rw [this.2]; simp⟩
theorem takes_snoc (p : Nat × List UInt8) : ∀ (l : List (Nat × List UInt8)) (r : Rdg), takes r (l ++ [p]) = match takes r l with
    | .inl e => .inl e
    | .inr r' => take r' p.1 p.2
  | [], r => by
    simp only [List.nil_append, takes]
    cases take r p.1 p.2 <;> rfl
  | a :: t, r => by
    rw [List.cons_append, takes, takes]
    cases take r a.1 a.2 with
    | inl e => rfl
    | inr r' => exact takes_snoc p t r'
theorem takes_app (b : List (Nat × List UInt8)) : ∀ (l : List (Nat × List UInt8)) (r : Rdg) (e : Nat × Nat), takes r l = .inl e → takes r (l ++ b) = .inl e
  | [], r, e, h => by simp [takes] at h
  | a :: t, r, e, h => by
    rw [takes] at h
    rw [List.cons_append, takes]
    cases ht : take r a.1 a.2 with
    | inl q => rw [ht] at h; exact h
    | inr r' => rw [ht] at h; exact takes_app b t r' e h
theorem check_place (p : Prg) (e i : Nat) (h : check p = some (e, some i)) : i < p.names.length + p.rungs.length := by
  unfold check at h
  split at h
  · cases h
  · split at h
    · rename_i q hq
      simp only [Option.some.injEq, Prod.mk.injEq] at h
      have := bad_lt _ _ _ _ hq
      omega
    · split at h
      · rename_i q hq
        simp only [Option.some.injEq, Prod.mk.injEq] at h
        have := bad_lt _ _ _ _ hq
        omega
      · cases h
end Ld
theorem lines_any (s : List UInt8) (w : World) : Calls Tryz.prog 47 #[.string ⟨s.toArray⟩] w fun e w' => e = .returned (.func (.func 75) #[] #[.pointer (some ⟨w.heap.size, 0, none⟩)]) ∧ w' = w.alloc (.cells #[.string ⟨s.toArray⟩] 9) := by
  have hmf : ∀ (fn : Fn) (first cap : Array Value) (w : World), (Instr.makeFunc fn first cap).run Tryz.prog w = .ok (.func fn first cap) w := fun _ _ _ _ => rfl
  go_enter Tryz.func47, Tryz.ntmps47
  go_wp2_with fail
  go_ret
  exact ⟨rfl, rfl⟩
set_option maxHeartbeats 2000000 in
set_option maxRecDepth 100000 in
theorem inText_any (b q : Nat) (w0 : World) (r : Ld.Rdg) (v : Value) (er : Nat) (pl : Option Nat) (W : World) (h : Rdm b q w0 r W) (hv : ErrIs W v (some (er, pl))) (hp : ∀ i, pl = some i → i < r.starts.length) (_hl : r.starts.length ≤ 1000000) :
    Calls Tryz.prog 49 #[.pointer (some ⟨b, 0, none⟩), v] W fun e W' => ∃ u, e = .returned u ∧ ErrIs W' u (some (er, pl.map fun i => r.starts.getD i 0)) ∧ Below W.heap.size W W' := by
  cases pl with
  | none =>
    obtain rfl : v = .iface 47 (.int .i64 (er : Int)) := hv
    have sE := ErAs.atE
    clear h
    go_enter Tryz.func49, Tryz.ntmps49
    go_wp2_with fail
    go_ret
    exact ⟨_, rfl, rfl, Below.refl _ _⟩
  | some i =>
    obtain ⟨a, rfl, h0, h1⟩ := hv
    have hi := hp i rfl
    obtain ⟨nv, rv, sv, vs, hx⟩ := h
    have b2 : W.cell? ⟨b, 2, none⟩ = some sv := by rw [Lib.cell_of_heap hx.blk]; rfl
    have sA := ErAs.atA
    have halt : a < W.heap.size := World.block_lt_of_cell? _ _ h0
    have hblt := hx.lt
    rcases hx.os.2 with ⟨_, h00⟩ | ⟨g, cap, cur, rfl, _, hcur, hcap, _, _, htk⟩
    · omega
    have hsi : W.cell? ⟨g, i, none⟩ = some (.int .i64 ((r.starts.getD i 0 : Nat) : Int)) := by
      refine row_cell hcur htk ?_
      rw [List.getElem?_map, List.getElem?_eq_getElem hi]
      simp [intV, List.getD_eq_getElem?_getD, List.getElem?_eq_getElem hi]
    have hglt : g < W.heap.size := World.block_lt_of_cell? _ _ hsi
    obtain ⟨stv, hstv⟩ : ∃ stv, stv = r.starts.getD i 0 := ⟨_, rfl⟩
    rw [← hstv] at hsi
    have HSTV := hide hstv
    clear hstv
    generalize r.starts.length = n at *
    clear hx hcur htk hp
    go_enter Tryz.func49, Tryz.ntmps49
    go_wp2_with fail
    go_region_held3 (fun W => W.cell? ⟨a, 0, none⟩ = some (.int .i64 (er : Int)) ∧ W.cell? ⟨a, 1, none⟩ = some (.int .i64 (i : Int)) ∧ W.cell? ⟨b, 2, none⟩ = some (.slice (some ⟨g, 0, none⟩) n cap) ∧ W.cell? ⟨g, i, none⟩ = some (.int .i64 (stv : Int))) (go_keep) (fail)
    all_goals go_wp2_with fail
    all_goals go_ret
    all_goals
      refine ⟨_, rfl, ?_, ⟨rfl, rfl, rfl, by simp, fun k hk => Below.heap_alloc _ _ _ hk⟩⟩
      show ErrIs _ _ (some (er, some (r.starts.getD i 0)))
      rw [← HSTV.out]
      exact ⟨W.heap.size, rfl, by simp [go_sem], by simp [go_sem]⟩
end
section
open Go.RowKit
/-- The document's reader lies in block b: its text, where it is, its fault. -/
structure Rp (b : Nat) (s : ByteArray) (i : Nat) (err pl : Int) (w : World) : Prop where
  c0 : w.cell? ⟨b, 0, none⟩ = some (.string s)
  c1 : w.cell? ⟨b, 1, none⟩ = some (.int .i64 (i : Int))
  c2 : w.cell? ⟨b, 2, none⟩ = some (.int .i64 err)
  c3 : w.cell? ⟨b, 3, none⟩ = some (.int .i64 pl)
  f1 : w.frozen? ⟨b, 1, none⟩ = false
  f2 : w.frozen? ⟨b, 2, none⟩ = false
  f3 : w.frozen? ⟨b, 3, none⟩ = false
namespace Rp
variable {b : Nat} {s : ByteArray} {i : Nat} {err pl : Int} {w w' : World}
theorem lt (h : Rp b s i err pl w) : b < w.heap.size := World.block_lt_of_cell? _ _ h.c0
theorem drew (h : Rp b s i err pl w) : Rp b s i err pl w.drew := ⟨h.c0, h.c1, h.c2, h.c3, h.f1, h.f2, h.f3⟩
theorem drewN (n : Nat) (h : Rp b s i err pl w) : Rp b s i err pl (w.drewN n) := ⟨h.c0, h.c1, h.c2, h.c3, h.f1, h.f2, h.f3⟩
theorem of_block (h : Rp b s i err pl w) (e : w'.heap[b]? = w.heap[b]?) : Rp b s i err pl w' :=
  ⟨(World.cell?_of_block (w := w) e).trans h.c0, (World.cell?_of_block (w := w) e).trans h.c1, (World.cell?_of_block (w := w) e).trans h.c2, (World.cell?_of_block (w := w) e).trans h.c3, (World.frozen?_of_block (w := w) e).trans h.f1, (World.frozen?_of_block (w := w) e).trans h.f2, (World.frozen?_of_block (w := w) e).trans h.f3⟩
theorem below (h : Rp b s i err pl w) (hb : Below w.heap.size w w') : Rp b s i err pl w' := h.of_block (hb.block b h.lt)
theorem alloc (h : Rp b s i err pl w) (o : Obj) : Rp b s i err pl (w.alloc o) := h.below ((Below.refl _ _).alloc (Nat.le_refl _) o)
theorem grown {row : Option Nat} (h : Rp b s i err pl w) (hg : w.grownBy w' row) (hb : some b ≠ row) : Rp b s i err pl w' := h.of_block (hg.block b h.lt hb)
theorem set1 (h : Rp b s i err pl w) (j : Nat) : Rp b s j err pl (w.setCell ⟨b, 1, none⟩ (.int .i64 (j : Int))) :=
  ⟨(World.cell?_setCell_other w _ _ _ (by simp)).trans h.c0, World.cell?_setCell_same w _ _ h.c1, (World.cell?_setCell_other w _ _ _ (by simp)).trans h.c2, (World.cell?_setCell_other w _ _ _ (by simp)).trans h.c3, by simp [h.f1], by simp [h.f2], by simp [h.f3]⟩
theorem set2 (h : Rp b s i err pl w) (e : Int) : Rp b s i e pl (w.setCell ⟨b, 2, none⟩ (.int .i64 e)) :=
  ⟨(World.cell?_setCell_other w _ _ _ (by simp)).trans h.c0, (World.cell?_setCell_other w _ _ _ (by simp)).trans h.c1, World.cell?_setCell_same w _ _ h.c2, (World.cell?_setCell_other w _ _ _ (by simp)).trans h.c3, by simp [h.f1], by simp [h.f2], by simp [h.f3]⟩
theorem set3 (h : Rp b s i err pl w) (e : Int) : Rp b s i err e (w.setCell ⟨b, 3, none⟩ (.int .i64 e)) :=
  ⟨(World.cell?_setCell_other w _ _ _ (by simp)).trans h.c0, (World.cell?_setCell_other w _ _ _ (by simp)).trans h.c1, (World.cell?_setCell_other w _ _ _ (by simp)).trans h.c2, World.cell?_setCell_same w _ _ h.c3, by simp [h.f1], by simp [h.f2], by simp [h.f3]⟩
end Rp
set_option maxHeartbeats 1000000 in
set_option maxRecDepth 100000 in
theorem rskip_any (b : Nat) (s : ByteArray) (i : Nat) (err pl : Int) (w : World) (h : Rp b s i err pl w) (hi : i ≤ s.size) (hs : s.size ≤ 2000) :
    Calls Tryz.prog 84 #[.pointer (some ⟨b, 0, none⟩)] w fun e w' =>
      e = .returned (.tuple #[]) ∧ Rp b s (Ex.skip s.data.toList i) err pl w' ∧ Keep b w w' := by
  have HL : Hid (s.data.toList.length = s.size) := by show _ = _; simp
  go_enter Tryz.func84, Tryz.ntmps84
  go_wp2
  go_loopg [] (s.size - i) (fun n wr => ∃ j : Nat, j ≤ s.size ∧ n = s.size - j ∧ Rp b s j err pl wr ∧ Keep b w wr ∧ Ex.skip s.data.toList j = Ex.skip s.data.toList i)
  case atStart => exact ⟨i, hi, rfl, h, Keep.refl _ _, rfl⟩
  case round =>
    obtain ⟨j, hj, hn, hr, hk, hsk⟩ := hrel
    have HN := hide hn
    have HR := hide hr
    have HK := hide hk
    have HS := hide hsk
    obtain ⟨c0, c1, c2, c3, f1, f2, f3⟩ := hr
    clear hn hk hsk h
    by_cases hlt : j < s.size
    · have hlt' : (j : Int) < (s.size : Int) := by omega
      cases hb : ((s[j].toNat : Int) == 32) with
      | true =>
        have HX : Hid (Ex.skip s.data.toList (j + 1) = Ex.skip s.data.toList i) := by
          show _ = _
          rw [← Ex.skip_blank s.data.toList j (by rw [HL.out]; exact hlt) (blank_at s j hlt hb)]; exact HS.out
        go_wp2_with fail
        go_quiet (fail)
        go_wp2
        go_roundg (s.size - (j + 1))
        case measure => rw [HN.out]; omega
        case rel => exact ⟨j + 1, by omega, rfl, ((HR.out.drewN _).set1 (j + 1)), (HK.out.drewN _).setCell rfl _, HX.out⟩
      | false =>
        have HX : Hid (Ex.skip s.data.toList i = j) := by
          show _ = _
          rw [← HS.out]; exact Ex.skip_stop s.data.toList j (by rw [HL.out]; exact hlt) (not_blank_at s j hlt hb)
        go_wp2_with fail
        go_quiet (fail)
        go_wp2
        go_end0
        refine ⟨rfl, ?_, ?_⟩
        · rw [HX.out]; exact HR.out.drewN _
        · exact HK.out.drewN _
    · have hlt' : decide ((j : Int) < (s.size : Int)) = false := decide_eq_false (by omega)
      have HX : Hid (Ex.skip s.data.toList i = j) := by
        show _ = _
        rw [← HS.out]; exact Ex.skip_end s.data.toList j (by rw [HL.out]; omega)
      go_wp2_with fail
      go_quiet (fail)
      go_wp2
      go_end0
      refine ⟨rfl, ?_, ?_⟩
      · rw [HX.out]; exact HR.out.drewN _
      · exact HK.out.drewN _
/-- the sign's first byte, 0 behind the end -/
def rsg (l : List UInt8) (i : Nat) : Nat := if i < l.length then (l.getD i 0).toNat else 0
theorem rsg_at (s : ByteArray) (i : Nat) (h : i < s.size) : rsg s.data.toList i = s[i].toNat := by
  unfold rsg
  have e : s.data.toList.length = s.size := by simp
  rw [if_pos (by rw [e]; exact h), getD_byte s i h]
theorem rsg_end (s : ByteArray) (i : Nat) (h : ¬ i < s.size) : rsg s.data.toList i = 0 := by
  unfold rsg
  have e : s.data.toList.length = s.size := by simp
  rw [if_neg (by rw [e]; exact h)]
/-- of signs that are neither 0 nor blanks both say the same -/
theorem rsg_iff (l : List UInt8) (i c : Nat) (h0 : c ≠ 0) (h32 : c ≠ 32) : rsg l i = c ↔ Ex.sg l i = c := by
  unfold rsg Ex.sg
  by_cases h : i < l.length
  · rw [if_pos h, if_pos h]
  · rw [if_neg h, if_neg h]; omega
set_option maxRecDepth 100000 in
theorem rnext_any (b : Nat) (s : ByteArray) (i : Nat) (err pl : Int) (w : World) (h : Rp b s i err pl w) (hi : i ≤ s.size) (hs : s.size ≤ 2000) :
    Calls Tryz.prog 51 #[.pointer (some ⟨b, 0, none⟩)] w fun e w' =>
      e = .returned (.int .u8 (rsg s.data.toList (Ex.skip s.data.toList i))) ∧ Rp b s (Ex.skip s.data.toList i) err pl w' ∧ Keep b w w' := by
  have HL : Hid (s.data.toList.length = s.size) := by show _ = _; simp
  have HS := hide (rskip_any b s i err pl w h hi hs)
  have hle := Ex.skip_le s.data.toList i (by rw [HL.out]; exact hi)
  rw [HL.out] at hle
  clear h
  generalize Ex.skip s.data.toList i = j at *
  go_enter Tryz.func51, Tryz.ntmps51
  go_wp2_with fail
  refine HS.out.mono ?_
  rintro e w1 ⟨rfl, hr, hk⟩
  have HR := hide hr
  have HK := hide hk
  obtain ⟨c0, c1, c2, c3, f1, f2, f3⟩ := hr
  clear hk HS
  by_cases hlt : j < s.size
  · have hlt' : (j : Int) < (s.size : Int) := by omega
    have HX := hide (rsg_at s j hlt)
    go_wp2_with fail
    go_quiet (fail)
    go_wp2
    go_quiet (fail)
    go_wp2
    go_ret
    exact ⟨ret_u8 (by rw [HX.out]), (HR.out.drewN _).drewN _, (HK.out.drewN _).drewN _⟩
  · have hlt' : decide ((j : Int) < (s.size : Int)) = false := decide_eq_false (by omega)
    have HX := hide (rsg_end s j hlt)
    go_wp2_with fail
    go_quiet (fail)
    go_wp2
    go_ret
    exact ⟨ret_u8 (by rw [HX.out]; rfl), HR.out.drewN _, HK.out.drewN _⟩
set_option maxRecDepth 100000 in
theorem rfail_any (b : Nat) (s : ByteArray) (i : Nat) (pl n : Int) (w : World) (h : Rp b s i 0 pl w) (hi : i ≤ s.size) (hs : s.size ≤ 2000) :
    Calls Tryz.prog 52 #[.pointer (some ⟨b, 0, none⟩), .int .i64 n] w fun e w' =>
      e = .returned (.pointer none) ∧ Rp b s (Ex.skip s.data.toList i) n (Ex.skip s.data.toList i : Nat) w' ∧ Keep b w w' := by
  have HS := hide (rskip_any b s i 0 pl w h hi hs)
  clear h
  generalize Ex.skip s.data.toList i = j at *
  go_enter Tryz.func52, Tryz.ntmps52
  go_wp2_with fail
  refine HS.out.mono ?_
  rintro e w1 ⟨rfl, hr, hk⟩
  have HR := hide hr
  have HK := hide hk
  obtain ⟨c0, c1, c2, c3, f1, f2, f3⟩ := hr
  clear hk HS
  go_wp2_with fail
  go_ret
  exact ⟨rfl, (HR.out.set2 n).set3 _, (HK.out.setCell rfl _).setCell rfl _⟩
def endSigns : ByteArray := ⟨#[32, 38, 124, 33, 94, 126, 40, 41, 61]⟩
theorem endSigns1 : (endSigns[1]'(by decide)).toNat = 38 := by decide
theorem encode_high : ∀ c : Fin 128, (Utf8.encode ((128 + c.val : Nat) : Int)).size = 2 ∧ 128 ≤ ((Utf8.encode ((128 + c.val : Nat) : Int)).get! 1).toNat ∧ Lib.indexByte (endSigns.extract 2 9).data.toList ((Utf8.encode ((128 + c.val : Nat) : Int)).get! 1) = -1 := by decide +kernel
set_option maxHeartbeats 2000000 in
set_option maxRecDepth 100000 in
theorem indexRune_walk (s rs : ByteArray) (c yn : Nat) (h1 : 128 ≤ c) (h2 : c < 256) (hsz : s.size = 9) (hs1 : (s[1]'(by omega)).toNat = 38) (hen : Utf8.encode (c : Int) = rs) (hrs : rs.size = 2) (hrs1 : (rs[1]'(by omega)).toNat = yn) (hy : 128 ≤ yn)
    (hx : Lib.indexByte (s.extract 2 9).data.toList (yn : Int).toNat.toUInt8 = -1) (w : World) :
    Calls Tryz.prog 184 #[.string s, .int .i32 (c : Int)] w fun e w' => e = .returned (.int .i64 (-1)) ∧ ∃ n, w' = w.drewN n := by
  have hv : Lib.validRune (c : Int) = true := by unfold Lib.validRune; simp; omega
  have e1 : ¬ (c : Int) < 128 := by omega
  have e2 : ((c : Int) == 65533) = false := beq_eq_false_iff_ne.2 (by omega)
  have e3 : ((38 : Int) != (yn : Int)) = true := by simp; omega
  have hw2 : IntKind.i64.wrap 2 = 2 := by decide
  clear hy
  go_enter Tryz.func184, Tryz.ntmps184
  go_wp2_with fail
  refine (Tryz.utf8_ValidRune (c : Int) w).mono ?_
  rintro e w1 ⟨rfl, rfl⟩
  rw [hv]
  go_wp2_with fail
  go_step3
  go_wp2_with fail
  go_loop [9] (fun i => i = .int .i64 1) (fun _ => 0)
  case atStart => exact rfl
  case round =>
    obtain rfl := hrel
    go_wp2_with fail
    go_step3
    go_wp2_with fail
    go_quiet (fail)
    go_wp2_with fail
    go_quiet ((go_at_call 45; refine (Tryz.strings_IndexByte _ _ _).mono ?_; rintro e w'' ⟨rfl, rfl⟩; exact ⟨rfl, _, rfl⟩))
    rw [hx]
    go_wp2_with fail
    rw [Exit.noGoto_ret]
    go_wp2_with fail
    first | rw [Exit.noGoto_ret] | skip
    go_ret
    exact ⟨rfl, _, rfl⟩
theorem indexRune_high (c : Nat) (h1 : 128 ≤ c) (h2 : c < 256) (w : World) :
    Calls Tryz.prog 184 #[.string ⟨#[32, 38, 124, 33, 94, 126, 40, 41, 61]⟩, .int .i32 (c : Int)] w fun e w' => e = .returned (.int .i64 (-1)) ∧ ∃ n, w' = w.drewN n := by
  have hen := encode_high ⟨c - 128, by omega⟩
  rw [show (128 + (⟨c - 128, by omega⟩ : Fin 128).val) = c from by show 128 + (c - 128) = c; omega] at hen
  obtain ⟨rs, hrs⟩ : ∃ rs, Utf8.encode (c : Int) = rs := ⟨_, rfl⟩
  rw [hrs] at hen
  obtain ⟨e1, e2, e3⟩ := hen
  have hg : rs.get! 1 = rs[1]'(by omega) := getElem!_pos rs.data 1 (by show 1 < rs.size; omega)
  rw [hg] at e2 e3
  refine indexRune_walk endSigns rs c _ h1 h2 (by decide) endSigns1 hrs e1 rfl e2 ?_ w
  generalize rs[1]'(by omega) = y at *
  have : ((y.toNat : Int).toNat.toUInt8) = y := by simp
  rw [this]
  exact e3
set_option maxHeartbeats 1000000 in
set_option maxRecDepth 100000 in
theorem containsRune_any (c : Nat) (hc : c < 256) (w : World) :
    Calls Tryz.prog 147 #[.string ⟨#[32, 38, 124, 33, 94, 126, 40, 41, 61]⟩, .int .i32 (c : Int)] w fun e w' => e = .returned (.bool (Ex.ends c)) ∧ ∃ n, w' = w.drewN n := by
  by_cases h1 : c < 128
  · refine (Tryz.strings_ContainsRune_ascii _ (c : Int) w (by omega) (by omega)).mono ?_
    rintro e w' ⟨rfl, rfl⟩
    exact ⟨ret_bool (ends_index c hc), 0, rfl⟩
  · have hx : Ex.ends c = false := by
      have : ∀ c : Fin 128, Ex.ends (128 + c.val) = false := by decide +kernel
      have := this ⟨c - 128, by omega⟩
      rwa [show (128 + (⟨c - 128, by omega⟩ : Fin 128).val) = c from by show 128 + (c - 128) = c; omega] at this
    rw [hx]
    have HX := hide (indexRune_high c (by omega) hc w)
    clear hx h1 hc
    generalize (⟨#[32, 38, 124, 33, 94, 126, 40, 41, 61]⟩ : ByteArray) = s at *
    go_enter Tryz.func147, Tryz.ntmps147
    go_wp2_with fail
    refine HX.out.mono ?_
    rintro e w1 ⟨rfl, n, rfl⟩
    go_wp2_with fail
    go_ret
    exact ⟨rfl, n, rfl⟩
end
end Go.Proofs.YtefpelmdelkpmaaGreatDoor
