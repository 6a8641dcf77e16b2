/-
  Rows of bools that are made and filled; bits of numbers of 64 bits; the walks of slices.Index over texts, and of the closures that package cover's saying makes.
-/
import Derived.Test.YtblfeahbpklgiaaGreatDoorCvMathAll
import Derived.Test.YtblfeahbpklgiaaGreatDoorScEval
import Derived.Laws.MakeOwn
import Derived.Deep.RegionHeld3
import Derived.Deep.LoopGhost
import Derived.Deep.RegionLaw
namespace Go.Proofs.YtblfeahbpklgiaaGreatDoor
namespace Cv
open Go.RowKit
/-- block g is this row -/
def RowIs (W : World) (g : Nat) (t : TypeId) (l : List Value) : Prop := W.heap[g]? = some (.cells ⟨l⟩ t (0, 0))
theorem RowIs.lt {W : World} {g : Nat} {t : TypeId} {l : List Value} (h : RowIs W g t l) : g < W.heap.size := (Array.getElem?_eq_some_iff.1 h).1
theorem RowIs.below {W W' : World} {g : Nat} {t : TypeId} {l : List Value} (h : RowIs W g t l) (hb : Below W.heap.size W W') : RowIs W' g t l := (hb.block _ h.lt).trans h
theorem RowIs.cell {W : World} {g : Nat} {t : TypeId} {l : List Value} (h : RowIs W g t l) (i : Nat) (v : Value) (hi : l[i]? = some v) : W.cell? ⟨g, i, none⟩ = some v := by
  rw [Lib.cell_of_heap h]; simpa using hi
theorem RowIs.frozen {W : World} {g : Nat} {t : TypeId} {l : List Value} (h : RowIs W g t l) (i : Nat) : W.frozen? ⟨g, i, none⟩ = false := Lib.frozen_of_heap h i
theorem RowIs.set {W : World} {g : Nat} {t : TypeId} {l : List Value} (h : RowIs W g t l) (i : Nat) (v : Value) : RowIs (W.setCell ⟨g, i, none⟩ v) g t (l.set i v) := by
  unfold RowIs at *
  simp [World.setCell, Array.getElem?_modify, h]
theorem RowIs.other {W : World} {g : Nat} {t : TypeId} {l : List Value} (h : RowIs W g t l) (b i : Nat) (v : Value) (hb : g ≠ b) : RowIs (W.setCell ⟨b, i, none⟩ v) g t l := (Below.heap_setCell _ _ _ _ (fun e => hb e)).trans h
theorem RowIs.new (W : World) (t : TypeId) (l : List Value) : RowIs (W.alloc (.cells ⟨l⟩ t)) W.heap.size t l := by
  show (W.heap.push _)[W.heap.size]? = _
  simp
theorem RowIs.alloc {W : World} {g : Nat} {t : TypeId} {l : List Value} (h : RowIs W g t l) (o : Obj) : RowIs (W.alloc o) g t l := (Below.heap_alloc _ _ _ h.lt).trans h
theorem fill_set {α : Type} (a : List α) (z v : α) (n : Nat) (h : a.length < n) : (a ++ List.replicate (n - a.length) z).set a.length v = (a ++ [v]) ++ List.replicate (n - (a ++ [v]).length) z := by
  obtain ⟨d, hd⟩ : ∃ d, n - a.length = d + 1 := ⟨n - a.length - 1, by omega⟩
  have e : n - (a ++ [v]).length = d := by simp; omega
  rw [e, hd, List.set_append_right _ _ (Nat.le_refl _), Nat.sub_self, List.replicate_succ, List.set_cons_zero]
  simp
theorem mcells_one (z : Value) (n : Nat) : madeCells #[z] (n * 1) = ⟨List.replicate n z⟩ := by
  apply Array.ext'
  simp only [madeCells, Nat.mul_one, Array.toList_map, Array.toList_range]
  apply List.ext_getElem
  · simp
  · intro i h1 h2
    simp [Nat.mod_one]
theorem infoB : (Tryz.prog.info? 4).map (fun i => (i.zero, i.size, i.bytes)) = some (some (.bool false), 1, 1) := by kernel_rfl
theorem makeBs (n : Nat) (hn : n ≤ 1000000) (w : World) : (Instr.makeSlice 73 (.int .i64 (n : Int)) (.int .i64 (n : Int))).run Tryz.prog w = .ok (.slice (some ⟨w.heap.size, 0, none⟩) n n) (w.alloc (.cells ⟨List.replicate n (.bool false)⟩ 4)) := by
  obtain ⟨i0, hi0, hz0, hz1, hz2⟩ := info_parts infoB
  have hbb : (i0.bytes : Int) * (n : Int) ≤ 281474976710656 := by
    rw [hz2]
    omega
  have h := run_makeSlice (P := Tryz.prog) w 73 4 i0 (.bool false) Tryz.underlying73 hi0 hz0 .i64 .i64 n n (by omega) (Int.le_refl _) (by rw [hz1]; omega) hbb (by omega)
  rw [show (Value.bool false).cells = #[.bool false] from rfl, hz1, show ((n : Int)).toNat = n by omega, mcells_one] at h
  exact h
theorem bits_one (k : IntKind) (hk : k = .i64 ∨ k = .u64) (a : Int) : bits BinOp.and k a 1 = a % 2 := by
  have h1 : (BitVec.ofInt 64 1).toNat = 1 := by decide
  have h2 : (((a % ((2 ^ 64 : Nat) : Int)).toNat % 2 : Nat) : Int) = a % 2 := by
    have : (0 : Int) ≤ a % ((2 ^ 64 : Nat) : Int) := Int.emod_nonneg _ (by decide)
    omega
  have h3 := Int.emod_nonneg a (show (2 : Int) ≠ 0 by decide)
  have h4 := Int.emod_lt_of_pos a (show (0 : Int) < 2 by decide)
  rcases hk with rfl | rfl
  · show IntKind.i64.wrap ((BitVec.ofInt 64 a &&& BitVec.ofInt 64 1).toNat : Int) = _
    rw [BitVec.toNat_and, h1, Nat.and_one_is_mod, BitVec.toNat_ofInt, h2, IntKind.wrap_i64]
    omega
  · show IntKind.u64.wrap ((BitVec.ofInt 64 a &&& BitVec.ofInt 64 1).toNat : Int) = _
    rw [BitVec.toNat_and, h1, Nat.and_one_is_mod, BitVec.toNat_ofInt, h2, IntKind.wrap_u64]
    omega
/-- a bit, as it is asked for -/
theorem bit_is (k : IntKind) (hk : k = .i64 ∨ k = .u64) (v i : Nat) : (bits BinOp.and k ((v : Int) / 2 ^ i) 1 == 1) = v.testBit i := by
  rw [bits_one k hk, Nat.testBit_eq_decide_div_mod_eq]
  have e : (v : Int) / 2 ^ i % 2 = ((v / 2 ^ i % 2 : Nat) : Int) := by simp
  rw [e]
  refine Bool.eq_iff_iff.2 ?_
  simp only [beq_iff_eq, decide_eq_true_eq]
  omega
set_option maxHeartbeats 2000000 in
set_option maxRecDepth 100000 in
theorem index_any (l : List (List UInt8)) (nm : List UInt8) (sv : Value) (w : World) (h : Strs w sv (l.map fun l => (⟨l.toArray⟩ : ByteArray))) :
    Calls Tryz.prog 34 #[sv, .string ⟨nm.toArray⟩] w fun e w' => e = .returned (.int .i64 (ix l nm)) ∧ w' = w := by
  rcases h with ⟨h0, a, cap, rfl⟩ | ⟨g, o, cap, rfl, hcap, hlen, hcell⟩
  · have HA : Hid (ix l nm = -1) := by
      have : l = [] := by simpa using h0
      subst this
      rfl
    clear h0
    go_enter Tryz.func34, Tryz.ntmps34
    go_wp2_with fail
    go_loop [8] (fun i => i = .int .i64 0) (fun _ => 0)
    case atStart => exact rfl
    case round =>
      obtain rfl := hrel
      go_wp2_with fail
      go_ret
      exact ⟨by rw [HA.out]; rfl, rfl⟩
  · have HC := hide hcell
    clear hcell
    rw [List.length_map] at hcap hlen ⊢
    obtain ⟨n, hn⟩ : ∃ n, n = l.length := ⟨_, rfl⟩
    have HN := hide hn
    rw [← hn] at hcap hlen ⊢
    clear hn
    go_enter Tryz.func34, Tryz.ntmps34
    go_wp2_with fail
    go_loop [8] (fun i => ∃ k : Nat, k ≤ n ∧ i = .int .i64 (k : Int) ∧ Hid ((l.take k).any (fun x => nm == x) = false)) (fun i => n - (intOf i).toNat)
    case atStart => exact ⟨0, Nat.zero_le _, rfl, rfl⟩
    case round =>
      obtain ⟨k, hk, rfl, HT⟩ := hrel
      by_cases hlt : k < n
      · have hkl : k < l.length := by rw [← HN.out]; exact hlt
        have c0 : w.cell? ⟨g, o + k, none⟩ = some (.string ⟨l[k].toArray⟩) := HC.out k _ (by rw [List.getElem?_map, List.getElem?_eq_getElem hkl]; rfl)
        have HSU : Hid ((l.take (k + 1)).any (fun x => nm == x) = (nm == l[k])) := by show _ = _; rw [List.take_succ_eq_append_getElem hkl, List.any_append, HT.out]; simp
        have HHIT := hide (ix_hit l nm k hkl HT.out)
        generalize l[k] = x at *
        cases hp : (nm == x) with
        | true =>
          have HA := hide (HHIT.out hp)
          have e : nm = x := by simpa using hp
          subst e
          clear hp HHIT HSU
          go_wp2_with fail
          go_ret
          exact ⟨by rw [HA.out]; rfl, rfl⟩
        | false =>
          rw [hp] at HSU
          have e : ¬ nm = x := by simpa using hp
          go_wp2_with fail
          go_round
          case rel => exact ⟨k + 1, by omega, by go_num, HSU.out⟩
          case measure => simp [intOf]; omega
      · have hkn : k = n := by omega
        have HA : Hid (ix l nm = -1) := ix_none l nm (by have := HT.out; rw [List.take_of_length_le (by rw [← HN.out]; omega)] at this; exact this)
        subst hkn
        go_wp2_with fail
        go_ret
        exact ⟨by rw [HA.out]; rfl, rfl⟩
set_option maxHeartbeats 2000000 in
set_option maxRecDepth 100000 in
theorem saying1_any (l : List (List UInt8)) (hl : l.length ≤ 60) (nm : List UInt8) (sv : Value) (p q v : Nat) (w : World) (h : Strs w sv (l.map fun l => (⟨l.toArray⟩ : ByteArray))) (hp : w.cell? ⟨p, 0, none⟩ = some sv) (hq : w.cell? ⟨q, 0, none⟩ = some (.int .i64 (v : Int))) :
    Calls Tryz.prog 33 #[.string ⟨nm.toArray⟩, .pointer (some ⟨p, 0, none⟩), .pointer (some ⟨q, 0, none⟩)] w fun e w' => e = .returned (.bool (tv l v nm)) ∧ w' = w := by
  have HI := hide (index_any l nm sv w h)
  have HT : Hid (tv l v nm = (decide (0 ≤ ix l nm) && v.testBit (ix l nm).toNat)) := rfl
  obtain ⟨a, n, c, hsv⟩ : ∃ a n cap, sv = .slice a n cap := by
    rcases h with ⟨_, a, cap, h⟩ | ⟨g, o, cap, h, _⟩
    · exact ⟨_, _, _, h⟩
    · exact ⟨_, _, _, h⟩
  subst hsv
  have h1 := ix_lt l nm
  have h2 := ix_ge l nm
  clear h
  generalize ix l nm = u at *
  by_cases hu : 0 ≤ u
  · obtain ⟨j, rfl⟩ : ∃ j : Nat, u = (j : Int) := ⟨u.toNat, by omega⟩
    have hj : j < 60 := by omega
    have HBIT := hide (bit_is .i64 (.inl rfl) v j)
    rw [Int.toNat_natCast] at HT
    clear h1 h2 hl hu
    generalize tv l v nm = T at *
    go_enter Tryz.func33, Tryz.ntmps33
    go_wp2_with fail
    refine HI.out.mono ?_
    rintro e w1 ⟨rfl, rfl⟩
    go_wp2_with fail
    go_ret
    exact ⟨ret_bool (by rw [HT.out, HBIT.out]; simp), rfl⟩
  · have HD : Hid (decide (0 ≤ u) = false) := by show _ = _; simpa using hu
    clear h1 h2 hl
    generalize tv l v nm = T at *
    go_enter Tryz.func33, Tryz.ntmps33
    go_wp2_with fail
    refine HI.out.mono ?_
    rintro e w1 ⟨rfl, rfl⟩
    go_wp2_with fail
    go_ret
    exact ⟨ret_bool (by rw [HT.out, HD.out]; rfl), rfl⟩
/-- a function that tells what is said of values below a bound: a look into a row -/
structure Says (w : World) (f : Value) (m : Nat) (s : Nat → Bool) (p g : Nat) : Prop where
  is : f = .func (.func 36) #[] #[.pointer (some ⟨p, 0, none⟩)]
  at_ : w.cell? ⟨p, 0, none⟩ = some (.slice (some ⟨g, 0, none⟩) m m)
  row : RowIs w g 4 ((tableTo s m).map Value.bool)
theorem Says.below {w w' : World} {f : Value} {m : Nat} {s : Nat → Bool} {p g : Nat} (h : Says w f m s p g) (hb : Below w.heap.size w w') : Says w' f m s p g :=
  ⟨h.is, (hb.cell (World.block_lt_of_cell? _ _ h.at_)).trans h.at_, h.row.below hb⟩
set_option maxHeartbeats 2000000 in
theorem saying2_any (m : Nat) (_hm : m ≤ 1000000) (s : Nat → Bool) (p g v : Nat) (hv : v < m) (w : World) (h1 : w.cell? ⟨p, 0, none⟩ = some (.slice (some ⟨g, 0, none⟩) m m)) (h2 : RowIs w g 4 ((tableTo s m).map Value.bool)) :
    Calls Tryz.prog 36 #[.int .u64 (v : Int), .pointer (some ⟨p, 0, none⟩)] w fun e w' => e = .returned (.bool (s v)) ∧ w' = w := by
  have c0 : w.cell? ⟨g, v, none⟩ = some (.bool (s v)) := h2.cell v _ (by simp [tableTo, hv])
  clear h2
  generalize s v = b at *
  go_enter Tryz.func36, Tryz.ntmps36
  go_wp2_with fail
  go_ret
  exact ⟨rfl, rfl⟩
end Cv
end Go.Proofs.YtblfeahbpklgiaaGreatDoor
