/-
  Plain mathematics: bits of numbers, lists of bools as numbers. Slices of numbers, and rows of rows of bools, in memory. Rows in memory that are filled cell by cell, and what 'make' lays; the walks of package machine's toBools, fromBools and told.
-/
import Derived.Test.YtjlkjhmmbaljiaaGreatDoorMcMathAll
import Derived.Laws.Bits64b
import Derived.Laws.BitsLemmas
import Derived.Laws.MakeOwn
namespace Go.Proofs.YtjlkjhmmbaljiaaGreatDoor
section
def bitB (x : Int) (k : Nat) : Bool := bits BinOp.and .i64 (x / 2 ^ k) 1 == 1
def bitsTo (x : Int) (k : Nat) : List Bool := (List.range k).map (bitB x)
theorem bitsTo_len (x : Int) (k : Nat) : (bitsTo x k).length = k := by simp [bitsTo]
theorem bitsTo_succ (x : Int) (k : Nat) : bitsTo x (k + 1) = bitsTo x k ++ [bitB x k] := by simp [bitsTo, List.range_succ]
namespace Mc
theorem bits_one (a : Int) : bits BinOp.and .i64 a 1 = a % 2 := by
  show IntKind.i64.wrap ((BitVec.ofInt 64 a &&& BitVec.ofInt 64 1).toNat : Int) = _
  have h1 : (BitVec.ofInt 64 1).toNat = 1 := by decide
  rw [BitVec.toNat_and, h1, Nat.and_one_is_mod, BitVec.toNat_ofInt]
  have h2 : (((a % ((2 ^ 64 : Nat) : Int)).toNat % 2 : Nat) : Int) = a % 2 := by
    have : (0 : Int) ≤ a % ((2 ^ 64 : Nat) : Int) := Int.emod_nonneg _ (by decide)
    omega
  rw [h2, IntKind.wrap_i64]
  have h3 := Int.emod_nonneg a (show (2 : Int) ≠ 0 by decide)
  have h4 := Int.emod_lt_of_pos a (show (0 : Int) < 2 by decide)
  omega
theorem bitB_eq (x : Int) (k : Nat) : bitB x k = decide (x / 2 ^ k % 2 = 1) := by
  unfold bitB
  rw [bits_one]
  rfl
theorem bitB_mod (x : Int) (q k : Nat) (hk : k < q) : bitB (x % 2 ^ q) k = bitB x k := by
  rw [bitB_eq, bitB_eq]
  have h : x % 2 ^ q / 2 ^ k % 2 = x / 2 ^ k % 2 := by
    obtain ⟨d, rfl⟩ : ∃ d, q = k + 1 + d := ⟨q - (k + 1), by omega⟩
    have e : (2 : Int) ^ (k + 1 + d) = 2 ^ k * (2 * 2 ^ d) := by rw [Int.pow_add, Int.pow_succ, Int.mul_assoc]
    rw [e]
    have hp : (0 : Int) < 2 ^ k := Int.pow_pos (by decide)
    have hx := Int.emod_add_mul_ediv x (2 ^ k * (2 * 2 ^ d))
    generalize x / (2 ^ k * (2 * 2 ^ d)) = c at hx
    generalize x % (2 ^ k * (2 * 2 ^ d)) = r at hx ⊢
    rw [← hx, show r + 2 ^ k * (2 * 2 ^ d) * c = r + 2 ^ k * (2 * (2 ^ d * c)) by rw [Int.mul_assoc, Int.mul_assoc], Int.add_mul_ediv_left _ _ (by omega)]
    omega
  rw [h]
theorem bitsTo_mod (x : Int) (q : Nat) : bitsTo (x % 2 ^ q) q = bitsTo x q := by
  unfold bitsTo
  apply List.map_congr_left
  intro k hk
  exact bitB_mod x q k (List.mem_range.1 hk)
/-- bools as a number: bit k is the k-th -/
def val : List Bool → Nat
  | [] => 0
  | b :: r => (if b then 1 else 0) + 2 * val r
theorem val_lt : ∀ l : List Bool, val l < 2 ^ l.length
  | [] => by simp [val]
  | b :: r => by
    have := val_lt r
    simp only [val, List.length_cons, Nat.pow_succ]
    split <;> omega
theorem val_snoc : ∀ (l : List Bool) (b : Bool), val (l ++ [b]) = val l + (if b then 2 ^ l.length else 0)
  | [], b => by simp [val]
  | a :: r, b => by
    rw [List.cons_append, val, val, val_snoc r b, List.length_cons, Nat.pow_succ]
    split <;> split <;> omega
theorem val_bit : ∀ (l : List Bool) (k : Nat), bitB (val l : Int) k = l.getD k false
  | [], k => by rw [bitB_eq]; simp [val]
  | b :: r, 0 => by
    rw [bitB_eq]
    cases b <;> simp [val] <;> omega
  | b :: r, k + 1 => by
    have ih := val_bit r k
    rw [bitB_eq] at ih ⊢
    have e : ((val (b :: r) : Nat) : Int) / 2 ^ (k + 1) = (val r : Int) / 2 ^ k := by
      rw [Int.pow_succ, Int.mul_comm, ← Int.ediv_ediv_of_nonneg (by decide)]
      congr 1
      cases b <;> simp [val] <;> omega
    rw [e]
    simpa using ih
theorem val_back (l : List Bool) : bitsTo (val l) l.length = l := by
  apply ext_getD (by rw [bitsTo_len])
  intro k hk
  rw [bitsTo_len] at hk
  rw [← val_bit l k]
  simp [bitsTo, hk]
theorem or_pow (v k : Nat) (hv : v < 2 ^ k) (hk : k < 62) : bits BinOp.or .i64 (v : Int) (2 ^ k : Nat) = ((v + 2 ^ k : Nat) : Int) := by
  have hp : 2 ^ k ≤ 2 ^ 61 := Nat.pow_le_pow_right (by decide) (by omega)
  have h1 : (BitVec.ofInt 64 (v : Int)).toNat = v := by
    rw [BitVec.ofInt_natCast, BitVec.toNat_ofNat]; exact Nat.mod_eq_of_lt (by omega)
  have h2 : (BitVec.ofInt 64 ((2 ^ k : Nat) : Int)).toNat = 2 ^ k := by
    rw [BitVec.ofInt_natCast, BitVec.toNat_ofNat]; exact Nat.mod_eq_of_lt (by omega)
  show IntKind.i64.wrap ((BitVec.ofInt 64 (v : Int) ||| BitVec.ofInt 64 ((2 ^ k : Nat) : Int)).toNat : Int) = _
  have h3 : v ||| 2 ^ k = v + 2 ^ k := by
    have := Nat.two_pow_add_eq_or_of_lt hv 1
    rw [Nat.mul_one] at this
    rw [Nat.or_comm, ← this, Nat.add_comm]
  rw [BitVec.toNat_or, h1, h2, h3, IntKind.wrap_i64]
  omega
end Mc
end
section
open Go.RowKit
theorem Tryz.infoBool : (Tryz.prog.info? 4).map (fun i => (i.zero, i.size, i.bytes)) = some (some (.bool false), 1, 1) := by kernel_rfl
theorem Tryz.infoBools : (Tryz.prog.info? 67).map (fun i => (i.zero, i.size, i.bytes)) = some (some (.slice none 0 0), 1, 24) := by kernel_rfl
/-- rows of bools in a row of slices, all from block q on -/
structure InsR (q : Nat) (W : World) (o : Value) (us : List Value) (bs : List (List Bool)) : Prop where
  len : us.length = bs.length
  own : W.ownsRow q 67 1 o bs.length us
  at_ : ∀ (j : Nat) (u : Value) (b : List Bool), us[j]? = some u → bs[j]? = some b → W.ownsRow q 4 1 u b.length (b.map boolV)
theorem InsR.nil (q : Nat) (W : World) : InsR q W (.slice none 0 0) [] [] := ⟨rfl, World.ownsRow_nil _ _ _ _, fun j u b h => by simp at h⟩
theorem InsR.below {q : Nat} {W W' : World} {o : Value} {us : List Value} {bs : List (List Bool)} (h : InsR q W o us bs) (hb : Below W.heap.size W W') : InsR q W' o us bs :=
  ⟨h.len, own_below h.own hb, fun j u b h1 h2 => own_below (h.at_ j u b h1 h2) hb⟩
theorem bools_of {q : Nat} {W : World} {u : Value} {b : List Bool} (h : W.ownsRow q 4 1 u b.length (b.map boolV)) (hl : b.length ≤ 1000000) : Bools W u b := by
  rcases h.2 with ⟨rfl, h0⟩ | ⟨g, cap, cur, rfl, _, hcur, hcap, _, _, htk⟩
  · exact ⟨none, 0, by rw [h0], hl, fun i b hb => by rw [List.length_eq_zero_iff.1 h0] at hb; simp at hb⟩
  · exact ⟨_, _, rfl, hl, fun i x hx => ⟨g, rfl, row_cell hcur htk (by rw [List.getElem?_map, hx]; rfl)⟩⟩
theorem InsR.insAt {q : Nat} {W : World} {o : Value} {us : List Value} {bs : List (List Bool)} (h : InsR q W o us bs) (hl : ∀ b, b ∈ bs → b.length ≤ 1000000) : InsAt W o bs := by
  rcases h.own.2 with ⟨rfl, h0⟩ | ⟨g, cap, cur, rfl, _, hcur, hcap, _, _, htk⟩
  · exact .inl ⟨List.length_eq_zero_iff.1 h0, _, _, rfl⟩
  · refine .inr ⟨g, cap, rfl, hcap, fun i b hb => ?_⟩
    have hil : i < us.length := by rw [h.len]; exact (List.getElem?_eq_some_iff.1 hb).1
    exact ⟨us[i], row_cell hcur htk (List.getElem?_eq_getElem hil), bools_of (h.at_ i _ b (List.getElem?_eq_getElem hil) hb) (hl b (List.mem_of_getElem? hb))⟩
theorem InsR.put {q : Nat} {W W' : World} {o o' u : Value} {us : List Value} {bs : List (List Bool)} {b : List Bool} (h : InsR q W o us bs) (hu : W.ownsRow q 4 1 u b.length (b.map boolV)) (ob : Obj) (hown : W'.ownsRow q 67 1 o' (bs.length + 1) (us ++ [u])) (hg : (W.alloc ob).grownBy W' o.ownBlock) :
    InsR q W' o' (us ++ [u]) (bs ++ [b]) := by
  have hk : ∀ (u : Value) (b : List Bool), W.ownsRow q 4 1 u b.length (b.map boolV) → W'.ownsRow q 4 1 u b.length (b.map boolV) := fun u b hu =>
    (hu.alloc ob).kept hg (own_apart hu h.own (by decide))
  refine ⟨by simp [h.len], by simpa using hown, ?_⟩
  intro j x y hj hy
  by_cases hjl : j < bs.length
  · rw [List.getElem?_append_left (by rw [h.len]; exact hjl)] at hj
    rw [List.getElem?_append_left hjl] at hy
    exact hk _ _ (h.at_ j x y hj hy)
  · have hj2 : j < (bs ++ [b]).length := (List.getElem?_eq_some_iff.1 hy).1
    have : j = bs.length := by simp at hj2; omega
    subst this
    rw [List.getElem?_append_right (by rw [h.len]; exact Nat.le_refl _), h.len] at hj
    rw [List.getElem?_append_right (Nat.le_refl _)] at hy
    simp only [Nat.sub_self, List.getElem?_cons_zero, Option.some.injEq] at hj hy
    subst hj; subst hy
    exact hk _ _ hu
end
section
open Go.RowKit
/-- block g is this row -/
def RowIs (W : World) (g : Nat) (t : TypeId) (l : List Value) : Prop := W.heap[g]? = some (.cells ⟨l⟩ t (0, 0))
theorem RowIs.lt {W : World} {g : Nat} {t : TypeId} {l : List Value} (h : RowIs W g t l) : g < W.heap.size := (Array.getElem?_eq_some_iff.1 h).1
theorem RowIs.below {W W' : World} {g : Nat} {t : TypeId} {l : List Value} (h : RowIs W g t l) (hb : Below W.heap.size W W') : RowIs W' g t l := (hb.block _ h.lt).trans h
theorem RowIs.belowN {n : Nat} {W W' : World} {g : Nat} {t : TypeId} {l : List Value} (h : RowIs W g t l) (hb : Below n W W') (hg : g < n) : RowIs W' g t l := (hb.block _ hg).trans h
theorem RowIs.cell {W : World} {g : Nat} {t : TypeId} {l : List Value} (h : RowIs W g t l) (i : Nat) (v : Value) (hi : l[i]? = some v) : W.cell? ⟨g, i, none⟩ = some v := by
  rw [Lib.cell_of_heap h]; simpa using hi
theorem RowIs.frozen {W : World} {g : Nat} {t : TypeId} {l : List Value} (h : RowIs W g t l) (i : Nat) : W.frozen? ⟨g, i, none⟩ = false := Lib.frozen_of_heap h i
theorem RowIs.set {W : World} {g : Nat} {t : TypeId} {l : List Value} (h : RowIs W g t l) (i : Nat) (v : Value) : RowIs (W.setCell ⟨g, i, none⟩ v) g t (l.set i v) := by
  unfold RowIs at *
  simp [World.setCell, Array.getElem?_modify, h]
theorem RowIs.other {W : World} {g : Nat} {t : TypeId} {l : List Value} (h : RowIs W g t l) (b i : Nat) (v : Value) (hb : g ≠ b) : RowIs (W.setCell ⟨b, i, none⟩ v) g t l := (Below.heap_setCell _ _ _ _ (fun e => hb e)).trans h
theorem RowIs.new (W : World) (t : TypeId) (l : List Value) : RowIs (W.alloc (.cells ⟨l⟩ t)) W.heap.size t l := heap_alloc_new _ _
theorem RowIs.alloc {W : World} {g : Nat} {t : TypeId} {l : List Value} (h : RowIs W g t l) (o : Obj) : RowIs (W.alloc o) g t l := (Below.heap_alloc _ _ _ h.lt).trans h
theorem RowIs.drew {W : World} {g : Nat} {t : TypeId} {l : List Value} (h : RowIs W g t l) : RowIs W.drew g t l := h
/-- the next one of a row that is filled from the head -/
theorem fill_set {α : Type} (a : List α) (z v : α) (n : Nat) (h : a.length < n) : (a ++ List.replicate (n - a.length) z).set a.length v = (a ++ [v]) ++ List.replicate (n - (a ++ [v]).length) z := by
  obtain ⟨d, hd⟩ : ∃ d, n - a.length = d + 1 := ⟨n - a.length - 1, by omega⟩
  have e : n - (a ++ [v]).length = d := by simp; omega
  rw [e, hd, List.set_append_right _ _ (Nat.le_refl _), Nat.sub_self, List.replicate_succ, List.set_cons_zero]
  simp
theorem mcells_one (z : Value) (n : Nat) : madeCells #[z] (n * 1) = ⟨List.replicate n z⟩ := by
  apply Array.ext'
  simp only [madeCells, Nat.mul_one, Array.toList_map, Array.toList_range]
  apply List.ext_getElem
  · simp
  · intro i h1 h2
    simp [Nat.mod_one]
/-- 'make' of so many of one cell each -/
theorem make_one {t e : TypeId} {z : Value} {bytes : Nat} (hu : Tryz.prog.underlying t = some (.slice e)) (hinfo : (Tryz.prog.info? e).map (fun i => (i.zero, i.size, i.bytes)) = some (some z, 1, bytes)) (hz : z.cells = #[z]) (hb : bytes ≤ 1000) (n : Nat) (hn : n ≤ 1000000) (w : World) :
    (Instr.makeSlice t (.int .i64 (n : Int)) (.int .i64 (n : Int))).run Tryz.prog w = .ok (.slice (some ⟨w.heap.size, 0, none⟩) n n) (w.alloc (.cells ⟨List.replicate n z⟩ e)) := by
  obtain ⟨i0, hi0, hz0, hz1, hz2⟩ := info_parts hinfo
  have hbb : (i0.bytes : Int) * (n : Int) ≤ 281474976710656 := by
    rw [hz2]
    have : bytes * n ≤ 1000 * 1000000 := Nat.mul_le_mul hb hn
    have h2 : ((bytes * n : Nat) : Int) ≤ 1000 * 1000000 := by omega
    rw [Int.natCast_mul] at h2
    omega
  have h := run_makeSlice (P := Tryz.prog) w t e i0 z hu hi0 hz0 .i64 .i64 n n (by omega) (Int.le_refl _) (by rw [hz1]; omega) hbb (by omega)
  rw [hz, hz1, show ((n : Int)).toNat = n by omega, mcells_one] at h
  exact h
theorem makeBs (n : Nat) (hn : n ≤ 1000000) (w : World) : (Instr.makeSlice 67 (.int .i64 (n : Int)) (.int .i64 (n : Int))).run Tryz.prog w = .ok (.slice (some ⟨w.heap.size, 0, none⟩) n n) (w.alloc (.cells ⟨List.replicate n (.bool false)⟩ 4)) :=
  make_one Tryz.underlying67 Tryz.infoBool rfl (by decide) n hn w
theorem makeIs (n : Nat) (hn : n ≤ 1000000) (w : World) : (Instr.makeSlice 33 (.int .i64 (n : Int)) (.int .i64 (n : Int))).run Tryz.prog w = .ok (.slice (some ⟨w.heap.size, 0, none⟩) n n) (w.alloc (.cells ⟨List.replicate n (.int .i64 0)⟩ 3)) :=
  make_one Tryz.underlying33 Tryz.infoInt rfl (by decide) n hn w
set_option maxHeartbeats 4000000 in
set_option maxRecDepth 100000 in
theorem toBools_any (x : Int) (many : Nat) (w : World) (hm : many ≤ 60) :
    Calls Tryz.prog 74 #[.int .i64 x, .int .i64 (many : Int)] w fun e w' => ∃ g, e = .returned (slV g many) ∧ RowIs w' g 4 ((bitsTo x many).map boolV) ∧ w.heap.size ≤ g ∧ Below w.heap.size w w' := by
  have mk := fun w => makeBs many (by omega) w
  obtain ⟨cb, hcb⟩ : ∃ cb, cb = List.replicate many (Value.bool false) := ⟨_, rfl⟩
  obtain ⟨w1, hw1⟩ : ∃ w1, w1 = w.alloc (.cells ⟨cb⟩ 4) := ⟨_, rfl⟩
  have HR1 : Hid (RowIs w1 w.heap.size 4 (((bitsTo x 0).map boolV) ++ List.replicate (many - ((bitsTo x 0).map boolV).length) (.bool false))) := by
    show RowIs w1 w.heap.size 4 (List.replicate many (.bool false))
    rw [hw1, ← hcb]; exact RowIs.new _ _ _
  rw [← hcb] at mk
  clear hcb
  have HB1 : Hid (Below w.heap.size w w1) := by rw [hw1]; exact (Below.refl _ _).alloc (Nat.le_refl _) _
  go_enter Tryz.func74, Tryz.ntmps74
  go_wp2_with fail
  rw [← hw1]
  clear hw1
  go_loopw [10] (fun i wr => ∃ k : Nat, k ≤ many ∧ i = .int .i64 (k : Int) ∧ Hid (RowIs wr w.heap.size 4 (((bitsTo x k).map boolV) ++ List.replicate (many - ((bitsTo x k).map boolV).length) (.bool false))) ∧ Hid (Below w.heap.size w wr)) (fun i _ => many - (intOf i).toNat)
  case atStart => exact ⟨0, Nat.zero_le _, rfl, HR1.out, HB1.out⟩
  case round =>
    obtain ⟨k, hk, rfl, HR, HB⟩ := hrel
    have hlk : ((bitsTo x k).map boolV).length = k := by simp [bitsTo_len]
    by_cases hlt : k < many
    · have c0 : wr.cell? ⟨w.heap.size, k, none⟩ = some (.bool false) := HR.out.cell k _ (by rw [List.getElem?_append_right (by omega), List.getElem?_replicate, if_pos (by omega)])
      have f0 := HR.out.frozen k
      have HN : Hid (RowIs (wr.setCell ⟨w.heap.size, k, none⟩ (.bool (bitB x k))) w.heap.size 4 (((bitsTo x (k + 1)).map boolV) ++ List.replicate (many - ((bitsTo x (k + 1)).map boolV).length) (.bool false))) := by
        have h1 := HR.out.set k (.bool (bitB x k))
        have h2 := fill_set ((bitsTo x k).map boolV) (.bool false) (.bool (bitB x k)) many (by omega)
        rw [hlk] at h2
        rw [hlk, h2] at h1
        rw [bitsTo_succ, List.map_append]
        exact h1
      have HBN : Hid (Below w.heap.size w (wr.setCell ⟨w.heap.size, k, none⟩ (.bool (bitB x k)))) := HB.out.setCell (p := ⟨w.heap.size, k, none⟩) (Nat.le_refl _) _
      unfold bitB at HN HBN
      clear hlk
      go_wp2_with fail
      go_roundw
      case rel => exact ⟨k + 1, by omega, by go_num, HN.out, HBN.out⟩
      case measure => simp [intOf]; omega
    · have hkm : k = many := by omega
      subst hkm
      go_wp2_with fail
      go_ret
      refine ⟨w.heap.size, rfl, ?_, Nat.le_refl _, HB.out⟩
      have h1 := HR.out
      rw [hlk, Nat.sub_self, List.replicate_zero, List.append_nil] at h1
      exact h1
set_option linter.unusedSimpArgs false
set_option maxHeartbeats 4000000 in
set_option maxRecDepth 100000 in
theorem fromBools_any (l : List Bool) (g : Nat) (w : World) (hr : RowIs w g 4 (l.map boolV)) (hl : l.length ≤ 60) :
    Calls Tryz.prog 69 #[slV g l.length] w fun e w' => e = .returned (.int .i64 (Mc.val l : Int)) ∧ w' = w := by
  have HR := hide hr
  obtain ⟨n, hn⟩ : ∃ n, n = l.length := ⟨_, rfl⟩
  have HN := hide hn
  have hg := hr.lt
  rw [← hn] at hl ⊢
  clear hn hr
  unfold slV
  go_enter Tryz.func69, Tryz.ntmps69
  go_wp2_with fail
  go_loopw [3, 8] (fun m i wr => ∃ k : Nat, k ≤ n ∧ i = .int .i64 (k : Int) ∧ m = .int .i64 (Mc.val (l.take k) : Int) ∧ wr = w) (fun _ i _ => n - (intOf i).toNat)
  case atStart => exact ⟨0, Nat.zero_le _, rfl, rfl, rfl⟩
  case round =>
    obtain ⟨k, hk, rfl, rfl, rfl⟩ := hrel
    by_cases hlt : k < n
    · have hkl : k < l.length := by rw [← HN.out]; exact hlt
      have c0 : wr.cell? ⟨g, k, none⟩ = some (.bool l[k]) := HR.out.cell k _ (by rw [List.getElem?_map, List.getElem?_eq_getElem hkl]; rfl)
      have HT := hide (List.take_succ_eq_append_getElem hkl)
      have hlk : (l.take k).length = k := by simp; omega
      have hv := Mc.val_lt (l.take k)
      rw [hlk] at hv
      have HV := hide (Mc.val_snoc (l.take k) l[k])
      have HOR := hide (Mc.or_pow (Mc.val (l.take k)) k hv (by omega))
      have hp : (2 : Nat) ^ k ≤ 2 ^ 60 := Nat.pow_le_pow_right (by decide) (by omega)
      have HP : Hid (wrap64 ((2 : Int) ^ k) = ((2 ^ k : Nat) : Int)) := by
        show wrap64 _ = _
        unfold wrap64
        have e : ((2 : Int) ^ k) = ((2 ^ k : Nat) : Int) := by rw [Int.natCast_pow]; rfl
        rw [e]
        omega
      have HLK := hide hlk
      clear hlk
      generalize l[k] = b at *
      cases b with
      | true =>
        go_wp2_with fail
        go_roundw
        case rel => exact ⟨k + 1, by omega, by go_num, by rw [HP.out, HOR.out, HT.out, HV.out, if_pos rfl, HLK.out], trivial⟩
        case measure => simp [intOf]; omega
      | false =>
        go_wp2_with fail
        go_roundw
        case rel => exact ⟨k + 1, by omega, by go_num, by rw [HT.out, HV.out]; simp, trivial⟩
        case measure => simp [intOf]; omega
    · have hkn : k = n := by omega
      subst hkn
      go_wp2_with fail
      go_ret
      rw [List.take_of_length_le (by rw [← HN.out]; exact Nat.le_refl _)]
      exact ⟨rfl, rfl⟩
theorem told_any' (of : Int) (cnt is : Bool) (ct : Int) (w : World) :
    Calls Tryz.prog 97 #[.agg #[.int .i64 of, .bool cnt], .bool is, .int .i64 ct] w fun e w' => e = .returned (.int .i64 (if cnt then ct else if is && decide (1 < of) then 1 else 0)) ∧ w' = w.alloc (.cells #[.int .i64 of, .bool cnt] 149) := by
  by_cases h : 1 < of
  all_goals
    cases cnt <;> cases is
  all_goals
    go_enter Tryz.func97, Tryz.ntmps97
    go_wp2_with fail
    go_ret
    first | exact ⟨by simp [h], rfl⟩ | exact ⟨by simp, rfl⟩
end
end Go.Proofs.YtjlkjhmmbaljiaaGreatDoor
