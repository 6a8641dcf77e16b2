/-
  Plain mathematics of tours: what one counts along a tour stays small. Plain mathematics: values of names as numbers (bit k is the k-th name); the least pair in which one name alone decides. Rows of bools that are made and filled; bits of numbers of 64 bits; the walks of slices.Index over texts, and of the closures that package cover's saying makes. The walks of package cover's saying and leastPair.
-/
import Derived.Test.YtglmpkpcbafgdaaGreatDoorTrMathAll
import Derived.Test.YtglmpkpcbafgdaaGreatDoorLdMathAll
import Derived.Test.YtglmpkpcbafgdaaGreatDoorNaEachAll
import Derived.Laws.Bits64b
import Derived.Laws.BitsLemmas
import Derived.Test.YtglmpkpcbafgdaaGreatDoorScStepAll
import Derived.Laws.MakeOwn
import Derived.Deep.RegionHeld3
import Derived.Deep.LoopGhost
import Derived.Deep.RegionLaw
import Derived.Deep.RegionWith
import Derived.Deep.DeepCutAuto
namespace Go.Proofs.YtglmpkpcbafgdaaGreatDoor
section
namespace Tr
structure Small (I S : Nat) (i : Nat) (c : Ct) : Prop where
  at_ : c.s < S
  lenB : c.B.length = S * I
  lenR : c.R.length = S
  ways : c.ways ≤ i
  states : c.states ≤ i + 1
theorem ct_small {next : Nat → List Nat} {I S : Nat} {far : Nat → Prop} (ho : Ok next I S far) (hS : 1 ≤ S) {l : List Nat} (hl : ∀ (j x : Nat), l[j]? = some x → x < I) : ∀ i, i ≤ l.length → Small I S i (ct next I S (l.take i))
  | 0, _ => ⟨hS, by simp [ct, first], by simp [ct, first], Nat.le_refl _, Nat.le_refl _⟩
  | i + 1, hi => by
    have ih := ct_small ho hS hl i (by omega)
    rw [List.take_succ_eq_append_getElem (by omega), ct_snoc]
    have hx : l[i] < I := hl i _ (List.getElem?_eq_getElem (by omega))
    obtain ⟨t1, _⟩ := ho.to ih.at_ hx
    refine ⟨t1, by show (List.set _ _ _).length = _; rw [List.length_set]; exact ih.lenB, by show (List.set _ _ _).length = _; rw [List.length_set]; exact ih.lenR, ?_, ?_⟩
    · have := ih.ways
      simp only [step]
      split <;> omega
    · have := ih.states
      simp only [step]
      split <;> omega
end Tr
end
section
namespace Cv
/-- which number a name has among some -/
def ix : List (List UInt8) → List UInt8 → Int
  | [], _ => -1
  | a :: r, nm => if nm == a then 0 else (if ix r nm = -1 then -1 else ix r nm + 1)
theorem ix_ge : ∀ (l : List (List UInt8)) (nm : List UInt8), -1 ≤ ix l nm
  | [], _ => by simp [ix]
  | a :: r, nm => by
    have := ix_ge r nm
    unfold ix
    split
    · omega
    · split <;> omega
theorem ix_none : ∀ (l : List (List UInt8)) (nm : List UInt8), l.any (fun x => nm == x) = false → ix l nm = -1
  | [], _, _ => rfl
  | a :: r, nm, h => by
    simp only [List.any_cons, Bool.or_eq_false_iff] at h
    unfold ix
    rw [h.1, ix_none r nm h.2]
    simp
theorem ix_hit : ∀ (l : List (List UInt8)) (nm : List UInt8) (k : Nat) (hk : k < l.length), (l.take k).any (fun x => nm == x) = false → (nm == l[k]) = true → ix l nm = (k : Int)
  | [], _, k, hk, _, _ => by simp at hk
  | a :: r, nm, 0, _, _, h => by
    unfold ix
    simp only [List.getElem_cons_zero] at h
    rw [h]
    rfl
  | a :: r, nm, k + 1, hk, h, h2 => by
    simp only [List.take_succ_cons, List.any_cons, Bool.or_eq_false_iff] at h
    simp only [List.getElem_cons_succ] at h2
    have ih := ix_hit r nm k (by simpa using hk) h.2 h2
    unfold ix
    rw [h.1, ih]
    simp
    try omega
theorem ix_lt : ∀ (l : List (List UInt8)) (nm : List UInt8), ix l nm < l.length
  | [], _ => by simp [ix]
  | a :: r, nm => by
    have := ix_lt r nm
    unfold ix
    simp only [List.length_cons]
    split
    · omega
    · split <;> omega
theorem ix_at : ∀ (l : List (List UInt8)) (nm : List UInt8), 0 ≤ ix l nm → l[(ix l nm).toNat]? = some nm
  | [], _, h => by simp [ix] at h
  | a :: r, nm, h => by
    unfold ix at h ⊢
    by_cases e : (nm == a) = true
    · rw [if_pos e]
      have : nm = a := by simpa using e
      simp [this]
    · rw [if_neg e] at h ⊢
      by_cases e2 : ix r nm = -1
      · rw [if_pos e2] at h; omega
      · rw [if_neg e2] at h ⊢
        have h3 := ix_ge r nm
        have ih := ix_at r nm (by omega)
        rw [show (ix r nm + 1).toNat = (ix r nm).toNat + 1 by omega, List.getElem?_cons_succ]
        exact ih
theorem ix_mem (l : List (List UInt8)) (nm : List UInt8) (h : nm ∈ l) : 0 ≤ ix l nm := by
  induction l with
  | nil => simp at h
  | cons a r ih =>
    unfold ix
    by_cases e : (nm == a) = true
    · rw [if_pos e]; omega
    · rw [if_neg e]
      have : nm ∈ r := by
        rcases List.mem_cons.1 h with rfl | h
        · simp at e
        · exact h
      have := ih this
      rw [if_neg (by omega)]
      omega
/-- a name is told by its bit -/
def tv (ns : List (List UInt8)) (v : Nat) (nm : List UInt8) : Bool := decide (0 ≤ ix ns nm) && v.testBit (ix ns nm).toNat
/-- what an expression says of values -/
def sayV (x : Ex) (ns : List (List UInt8)) (v : Nat) : Bool := x.eval (tv ns v) (tv ns v)
theorem tv_congr (ns : List (List UInt8)) (u v : Nat) (h : ∀ k, k < ns.length → u.testBit k = v.testBit k) : tv ns u = tv ns v := by
  funext nm
  unfold tv
  by_cases e : 0 ≤ ix ns nm
  · rw [h _ (by have := ix_lt ns nm; omega)]
  · simp [e]
theorem sayV_congr (x : Ex) (ns : List (List UInt8)) (u v : Nat) (h : ∀ k, k < ns.length → u.testBit k = v.testBit k) : sayV x ns u = sayV x ns v := by
  unfold sayV
  rw [tv_congr ns u v h]
/-- those names whose bits are set -/
def sel (ns : List (List UInt8)) (v : Nat) (k : Nat) : List (List UInt8) := (List.range k).filterMap fun i => if v.testBit i then ns[i]? else none
theorem sel_succ (ns : List (List UInt8)) (v k : Nat) (hk : k < ns.length) : sel ns v (k + 1) = sel ns v k ++ (if v.testBit k then [ns[k]] else []) := by
  unfold sel
  rw [List.range_succ, List.filterMap_append]
  congr 1
  cases h : v.testBit k <;> simp [h, hk]
theorem sel_le (ns : List (List UInt8)) (v k : Nat) : (sel ns v k).length ≤ k := by
  unfold sel
  exact Nat.le_trans (List.length_filterMap_le _ _) (by simp)
theorem nodup_ix (ns : List (List UInt8)) (hn : ns.Nodup) (i : Nat) (hi : i < ns.length) : ix ns ns[i] = (i : Int) := by
  have h0 := ix_mem ns ns[i] (List.getElem_mem hi)
  have h1 := ix_at ns ns[i] h0
  have h2 := ix_lt ns ns[i]
  have h3 : (ix ns ns[i]).toNat = i := by
    rw [List.getElem?_eq_getElem (by omega)] at h1
    exact (List.getElem_inj hn).1 (Option.some.inj h1)
  omega
theorem mem_sel (ns : List (List UInt8)) (hn : ns.Nodup) (v : Nat) (nm : List UInt8) : nm ∈ sel ns v ns.length ↔ tv ns v nm = true := by
  unfold sel tv
  rw [List.mem_filterMap]
  constructor
  · rintro ⟨i, hi, h⟩
    split at h
    · rename_i hb
      obtain ⟨hi2, rfl⟩ := List.getElem?_eq_some_iff.1 h
      rw [nodup_ix ns hn i hi2]
      simp [hb]
    · simp at h
  · intro h
    simp only [Bool.and_eq_true, decide_eq_true_eq] at h
    refine ⟨(ix ns nm).toNat, List.mem_range.2 (by have := ix_lt ns nm; omega), ?_⟩
    rw [if_pos h.2]
    exact ix_at ns nm h.1
/-- among the texts of those -/
theorem among_sel (ns : List (List UInt8)) (hn : ns.Nodup) (v : Nat) : amongB ((sel ns v ns.length).map fun l => (⟨l.toArray⟩ : ByteArray)) = tv ns v := by
  funext nm
  refine Bool.eq_iff_iff.2 ?_
  rw [← mem_sel ns hn v nm]
  unfold amongB
  rw [List.any_map, List.any_eq_true]
  constructor
  · rintro ⟨s, hs, h⟩
    simp only [Function.comp, beq_iff_eq] at h
    exact h ▸ hs
  · intro h
    exact ⟨nm, h, by simp⟩
/-- the first values at which a name alone decides -/
def hit (says : Nat → Bool) (k v : Nat) : Bool := !v.testBit k && (says v != says (v ||| 2 ^ k))
def least (says : Nat → Bool) (n k : Nat) : Option Nat := (List.range (2 ^ n)).find? (hit says k)
/-- a pair -/
structure Pr where
  name : List UInt8
  off : Nat
  k : Nat
/-- the pairs of the first names -/
def pairsTo (says : Nat → Bool) (ns : List (List UInt8)) (m : Nat) : List Pr := (List.range m).filterMap fun k => (least says ns.length k).bind fun v => ns[k]?.map fun nm => ⟨nm, v, k⟩
theorem pairsTo_succ (says : Nat → Bool) (ns : List (List UInt8)) (m : Nat) (hm : m < ns.length) : pairsTo says ns (m + 1) = pairsTo says ns m ++ (match least says ns.length m with | some v => [⟨ns[m], v, m⟩] | none => []) := by
  unfold pairsTo
  rw [List.range_succ, List.filterMap_append]
  congr 1
  cases h : least says ns.length m with
  | none => simp [h]
  | some v => simp [h, hm]
theorem pairsTo_le (says : Nat → Bool) (ns : List (List UInt8)) (m : Nat) : (pairsTo says ns m).length ≤ m := by
  unfold pairsTo
  exact Nat.le_trans (List.length_filterMap_le _ _) (by simp)
theorem least_some (says : Nat → Bool) (n k v : Nat) (h : least says n k = some v) : v < 2 ^ n ∧ hit says k v = true := by
  unfold least at h
  exact ⟨List.mem_range.1 (List.mem_of_find?_eq_some h), List.find?_some h⟩
theorem mem_pairs (says : Nat → Bool) (ns : List (List UInt8)) (m : Nat) (p : Pr) (h : p ∈ pairsTo says ns m) : p.k < m ∧ ns[p.k]? = some p.name ∧ least says ns.length p.k = some p.off := by
  unfold pairsTo at h
  rw [List.mem_filterMap] at h
  obtain ⟨k, hk, h⟩ := h
  cases hl : least says ns.length k with
  | none => rw [hl] at h; simp at h
  | some v =>
    rw [hl] at h
    cases hn : ns[k]? with
    | none => rw [hn] at h; simp at h
    | some nm =>
      rw [hn] at h
      simp at h
      subst h
      exact ⟨List.mem_range.1 hk, hn, hl⟩
/-- a name that has no pair never makes a difference -/
theorem none_same (x : Ex) (ns : List (List UInt8)) (k : Nat) (hk : k < ns.length) (h : least (sayV x ns) ns.length k = none) (u a b : Nat) (ha : ∀ i, i < 64 → a.testBit i = (u.testBit i && !decide (i = k))) (hb : ∀ i, i < 64 → b.testBit i = (u.testBit i || decide (i = k))) (hn : ns.length ≤ 8) : sayV x ns a = sayV x ns b := by
  unfold least at h
  rw [List.find?_eq_none] at h
  have h1 := h (a % 2 ^ ns.length) (List.mem_range.2 (Nat.mod_lt _ (Nat.two_pow_pos _)))
  unfold hit at h1
  have t0 : (a % 2 ^ ns.length).testBit k = false := by
    rw [Nat.testBit_mod_two_pow, ha k (by omega)]
    simp
  rw [t0] at h1
  simp only [Bool.not_false, Bool.true_and, bne_iff_ne, ne_eq, Decidable.not_not] at h1
  rw [sayV_congr x ns a (a % 2 ^ ns.length) (fun i hi => by rw [Nat.testBit_mod_two_pow]; simp [hi]), h1]
  refine sayV_congr x ns _ _ fun i hi => ?_
  rw [Nat.testBit_or, Nat.testBit_mod_two_pow, ha i (by omega), hb i (by omega), Nat.testBit_two_pow]
  by_cases e : i = k
  · simp [e]
  · have e2 : ¬ k = i := fun h => e h.symm
    simp [e, e2, hi]
/-- the values of which one asks so far: as a row of bools -/
def tableTo (says : Nat → Bool) (m : Nat) : List Bool := (List.range m).map says
end Cv
end
section
namespace Cv
open Go.RowKit
/-- block g is this row -/
def RowIs (W : World) (g : Nat) (t : TypeId) (l : List Value) : Prop := W.heap[g]? = some (.cells ⟨l⟩ t (0, 0))
theorem RowIs.lt {W : World} {g : Nat} {t : TypeId} {l : List Value} (h : RowIs W g t l) : g < W.heap.size := (Array.getElem?_eq_some_iff.1 h).1
theorem RowIs.below {W W' : World} {g : Nat} {t : TypeId} {l : List Value} (h : RowIs W g t l) (hb : Below W.heap.size W W') : RowIs W' g t l := (hb.block _ h.lt).trans h
theorem RowIs.cell {W : World} {g : Nat} {t : TypeId} {l : List Value} (h : RowIs W g t l) (i : Nat) (v : Value) (hi : l[i]? = some v) : W.cell? ⟨g, i, none⟩ = some v := by
  rw [Lib.cell_of_heap h]; simpa using hi
theorem RowIs.frozen {W : World} {g : Nat} {t : TypeId} {l : List Value} (h : RowIs W g t l) (i : Nat) : W.frozen? ⟨g, i, none⟩ = false := Lib.frozen_of_heap h i
theorem RowIs.set {W : World} {g : Nat} {t : TypeId} {l : List Value} (h : RowIs W g t l) (i : Nat) (v : Value) : RowIs (W.setCell ⟨g, i, none⟩ v) g t (l.set i v) := by
  unfold RowIs at *
  simp [World.setCell, Array.getElem?_modify, h]
theorem RowIs.other {W : World} {g : Nat} {t : TypeId} {l : List Value} (h : RowIs W g t l) (b i : Nat) (v : Value) (hb : g ≠ b) : RowIs (W.setCell ⟨b, i, none⟩ v) g t l := (Below.heap_setCell _ _ _ _ (fun e => hb e)).trans h
theorem RowIs.new (W : World) (t : TypeId) (l : List Value) : RowIs (W.alloc (.cells ⟨l⟩ t)) W.heap.size t l := by
  show (W.heap.push _)[W.heap.size]? = _
  simp
theorem RowIs.alloc {W : World} {g : Nat} {t : TypeId} {l : List Value} (h : RowIs W g t l) (o : Obj) : RowIs (W.alloc o) g t l := (Below.heap_alloc _ _ _ h.lt).trans h
theorem fill_set {α : Type} (a : List α) (z v : α) (n : Nat) (h : a.length < n) : (a ++ List.replicate (n - a.length) z).set a.length v = (a ++ [v]) ++ List.replicate (n - (a ++ [v]).length) z := by
  obtain ⟨d, hd⟩ : ∃ d, n - a.length = d + 1 := ⟨n - a.length - 1, by omega⟩
  have e : n - (a ++ [v]).length = d := by simp; omega
  rw [e, hd, List.set_append_right _ _ (Nat.le_refl _), Nat.sub_self, List.replicate_succ, List.set_cons_zero]
  simp
theorem mcells_one (z : Value) (n : Nat) : madeCells #[z] (n * 1) = ⟨List.replicate n z⟩ := by
  apply Array.ext'
  simp only [madeCells, Nat.mul_one, Array.toList_map, Array.toList_range]
  apply List.ext_getElem
  · simp
  · intro i h1 h2
    simp [Nat.mod_one]
theorem infoB : (Tryz.prog.info? 4).map (fun i => (i.zero, i.size, i.bytes)) = some (some (.bool false), 1, 1) := by kernel_rfl
theorem makeBs (n : Nat) (hn : n ≤ 1000000) (w : World) : (Instr.makeSlice 33 (.int .i64 (n : Int)) (.int .i64 (n : Int))).run Tryz.prog w = .ok (.slice (some ⟨w.heap.size, 0, none⟩) n n) (w.alloc (.cells ⟨List.replicate n (.bool false)⟩ 4)) := by
  obtain ⟨i0, hi0, hz0, hz1, hz2⟩ := info_parts infoB
  have hbb : (i0.bytes : Int) * (n : Int) ≤ 281474976710656 := by
    rw [hz2]
    omega
  have h := run_makeSlice (P := Tryz.prog) w 33 4 i0 (.bool false) Tryz.underlying33 hi0 hz0 .i64 .i64 n n (by omega) (Int.le_refl _) (by rw [hz1]; omega) hbb (by omega)
  rw [show (Value.bool false).cells = #[.bool false] from rfl, hz1, show ((n : Int)).toNat = n by omega, mcells_one] at h
  exact h
theorem bits_one (k : IntKind) (hk : k = .i64 ∨ k = .u64) (a : Int) : bits BinOp.and k a 1 = a % 2 := by
  have h1 : (BitVec.ofInt 64 1).toNat = 1 := by decide
  have h2 : (((a % ((2 ^ 64 : Nat) : Int)).toNat % 2 : Nat) : Int) = a % 2 := by
    have : (0 : Int) ≤ a % ((2 ^ 64 : Nat) : Int) := Int.emod_nonneg _ (by decide)
    omega
  have h3 := Int.emod_nonneg a (show (2 : Int) ≠ 0 by decide)
  have h4 := Int.emod_lt_of_pos a (show (0 : Int) < 2 by decide)
  rcases hk with rfl | rfl
  · show IntKind.i64.wrap ((BitVec.ofInt 64 a &&& BitVec.ofInt 64 1).toNat : Int) = _
    rw [BitVec.toNat_and, h1, Nat.and_one_is_mod, BitVec.toNat_ofInt, h2, IntKind.wrap_i64]
    omega
  · show IntKind.u64.wrap ((BitVec.ofInt 64 a &&& BitVec.ofInt 64 1).toNat : Int) = _
    rw [BitVec.toNat_and, h1, Nat.and_one_is_mod, BitVec.toNat_ofInt, h2, IntKind.wrap_u64]
    omega
/-- a bit, as it is asked for -/
theorem bit_is (k : IntKind) (hk : k = .i64 ∨ k = .u64) (v i : Nat) : (bits BinOp.and k ((v : Int) / 2 ^ i) 1 == 1) = v.testBit i := by
  rw [bits_one k hk, Nat.testBit_eq_decide_div_mod_eq]
  have e : (v : Int) / 2 ^ i % 2 = ((v / 2 ^ i % 2 : Nat) : Int) := by simp
  rw [e]
  refine Bool.eq_iff_iff.2 ?_
  simp only [beq_iff_eq, decide_eq_true_eq]
  omega
set_option maxHeartbeats 2000000 in
set_option maxRecDepth 100000 in
theorem index_any (l : List (List UInt8)) (nm : List UInt8) (sv : Value) (w : World) (h : Strs w sv (l.map fun l => (⟨l.toArray⟩ : ByteArray))) :
    Calls Tryz.prog 52 #[sv, .string ⟨nm.toArray⟩] w fun e w' => e = .returned (.int .i64 (ix l nm)) ∧ w' = w := by
  rcases h with ⟨h0, a, cap, rfl⟩ | ⟨g, o, cap, rfl, hcap, hlen, hcell⟩
  · have HA : Hid (ix l nm = -1) := by
      have : l = [] := by simpa using h0
      subst this
      rfl
    clear h0
    go_enter Tryz.func52, Tryz.ntmps52
    go_wp2_with fail
    go_loop [8] (fun i => i = .int .i64 0) (fun _ => 0)
    case atStart => exact rfl
    case round =>
      obtain rfl := hrel
      go_wp2_with fail
      go_ret
      exact ⟨by rw [HA.out]; rfl, rfl⟩
  · have HC := hide hcell
    clear hcell
    rw [List.length_map] at hcap hlen ⊢
    obtain ⟨n, hn⟩ : ∃ n, n = l.length := ⟨_, rfl⟩
    have HN := hide hn
    rw [← hn] at hcap hlen ⊢
    clear hn
    go_enter Tryz.func52, Tryz.ntmps52
    go_wp2_with fail
    go_loop [8] (fun i => ∃ k : Nat, k ≤ n ∧ i = .int .i64 (k : Int) ∧ Hid ((l.take k).any (fun x => nm == x) = false)) (fun i => n - (intOf i).toNat)
    case atStart => exact ⟨0, Nat.zero_le _, rfl, rfl⟩
    case round =>
      obtain ⟨k, hk, rfl, HT⟩ := hrel
      by_cases hlt : k < n
      · have hkl : k < l.length := by rw [← HN.out]; exact hlt
        have c0 : w.cell? ⟨g, o + k, none⟩ = some (.string ⟨l[k].toArray⟩) := HC.out k _ (by rw [List.getElem?_map, List.getElem?_eq_getElem hkl]; rfl)
        have HSU : Hid ((l.take (k + 1)).any (fun x => nm == x) = (nm == l[k])) := by show _ = _; rw [List.take_succ_eq_append_getElem hkl, List.any_append, HT.out]; simp
        have HHIT := hide (ix_hit l nm k hkl HT.out)
        generalize l[k] = x at *
        cases hp : (nm == x) with
        | true =>
          have HA := hide (HHIT.out hp)
          have e : nm = x := by simpa using hp
          subst e
          clear hp HHIT HSU
          go_wp2_with fail
          go_ret
          exact ⟨by rw [HA.out]; rfl, rfl⟩
        | false =>
          rw [hp] at HSU
          have e : ¬ nm = x := by simpa using hp
          go_wp2_with fail
          go_round
          case rel => exact ⟨k + 1, by omega, by go_num, HSU.out⟩
          case measure => simp [intOf]; omega
      · have hkn : k = n := by omega
        have HA : Hid (ix l nm = -1) := ix_none l nm (by have := HT.out; rw [List.take_of_length_le (by rw [← HN.out]; omega)] at this; exact this)
        subst hkn
        go_wp2_with fail
        go_ret
        exact ⟨by rw [HA.out]; rfl, rfl⟩
set_option maxHeartbeats 2000000 in
set_option maxRecDepth 100000 in
theorem saying1_any (l : List (List UInt8)) (hl : l.length ≤ 60) (nm : List UInt8) (sv : Value) (p q v : Nat) (w : World) (h : Strs w sv (l.map fun l => (⟨l.toArray⟩ : ByteArray))) (hp : w.cell? ⟨p, 0, none⟩ = some sv) (hq : w.cell? ⟨q, 0, none⟩ = some (.int .i64 (v : Int))) :
    Calls Tryz.prog 64 #[.string ⟨nm.toArray⟩, .pointer (some ⟨p, 0, none⟩), .pointer (some ⟨q, 0, none⟩)] w fun e w' => e = .returned (.bool (tv l v nm)) ∧ w' = w := by
  have HI := hide (index_any l nm sv w h)
  have HT : Hid (tv l v nm = (decide (0 ≤ ix l nm) && v.testBit (ix l nm).toNat)) := rfl
  obtain ⟨a, n, c, hsv⟩ : ∃ a n cap, sv = .slice a n cap := by
    rcases h with ⟨_, a, cap, h⟩ | ⟨g, o, cap, h, _⟩
    · exact ⟨_, _, _, h⟩
    · exact ⟨_, _, _, h⟩
  subst hsv
  have h1 := ix_lt l nm
  have h2 := ix_ge l nm
  clear h
  generalize ix l nm = u at *
  by_cases hu : 0 ≤ u
  · obtain ⟨j, rfl⟩ : ∃ j : Nat, u = (j : Int) := ⟨u.toNat, by omega⟩
    have hj : j < 60 := by omega
    have HBIT := hide (bit_is .i64 (.inl rfl) v j)
    rw [Int.toNat_natCast] at HT
    clear h1 h2 hl hu
    generalize tv l v nm = T at *
    go_enter Tryz.func64, Tryz.ntmps64
    go_wp2_with fail
    refine HI.out.mono ?_
    rintro e w1 ⟨rfl, rfl⟩
    go_wp2_with fail
    go_ret
    exact ⟨ret_bool (by rw [HT.out, HBIT.out]; simp), rfl⟩
  · have HD : Hid (decide (0 ≤ u) = false) := by show _ = _; simpa using hu
    clear h1 h2 hl
    generalize tv l v nm = T at *
    go_enter Tryz.func64, Tryz.ntmps64
    go_wp2_with fail
    refine HI.out.mono ?_
    rintro e w1 ⟨rfl, rfl⟩
    go_wp2_with fail
    go_ret
    exact ⟨ret_bool (by rw [HT.out, HD.out]; rfl), rfl⟩
/-- a function that tells what is said of values below a bound: a look into a row -/
structure Says (w : World) (f : Value) (m : Nat) (s : Nat → Bool) (p g : Nat) : Prop where
  is : f = .func (.func 66) #[] #[.pointer (some ⟨p, 0, none⟩)]
  at_ : w.cell? ⟨p, 0, none⟩ = some (.slice (some ⟨g, 0, none⟩) m m)
  row : RowIs w g 4 ((tableTo s m).map Value.bool)
theorem Says.below {w w' : World} {f : Value} {m : Nat} {s : Nat → Bool} {p g : Nat} (h : Says w f m s p g) (hb : Below w.heap.size w w') : Says w' f m s p g :=
  ⟨h.is, (hb.cell (World.block_lt_of_cell? _ _ h.at_)).trans h.at_, h.row.below hb⟩
set_option maxHeartbeats 2000000 in
theorem saying2_any (m : Nat) (_hm : m ≤ 1000000) (s : Nat → Bool) (p g v : Nat) (hv : v < m) (w : World) (h1 : w.cell? ⟨p, 0, none⟩ = some (.slice (some ⟨g, 0, none⟩) m m)) (h2 : RowIs w g 4 ((tableTo s m).map Value.bool)) :
    Calls Tryz.prog 66 #[.int .u64 (v : Int), .pointer (some ⟨p, 0, none⟩)] w fun e w' => e = .returned (.bool (s v)) ∧ w' = w := by
  have c0 : w.cell? ⟨g, v, none⟩ = some (.bool (s v)) := h2.cell v _ (by simp [tableTo, hv])
  clear h2
  generalize s v = b at *
  go_enter Tryz.func66, Tryz.ntmps66
  go_wp2_with fail
  go_ret
  exact ⟨rfl, rfl⟩
end Cv
end
section
namespace Cv
open Go.RowKit
theorem tells1 (l : List (List UInt8)) (hl : l.length ≤ 60) (sv : Value) (p q v : Nat) (w : World) (h : Strs w sv (l.map fun l => (⟨l.toArray⟩ : ByteArray))) (hp : w.cell? ⟨p, 0, none⟩ = some sv) (hq : w.cell? ⟨q, 0, none⟩ = some (.int .i64 (v : Int))) :
    E2.Tells (.func (.func 64) #[] #[.pointer (some ⟨p, 0, none⟩), .pointer (some ⟨q, 0, none⟩)]) (tv l v) w := by
  refine ⟨64, _, _, rfl, fun _ _ => by kernel_rfl, fun W hW nm => ?_⟩
  refine (saying1_any l hl nm sv p q v W (h.below hW) ((hW.cell (World.block_lt_of_cell? _ _ hp)).trans hp) ((hW.cell (World.block_lt_of_cell? _ _ hq)).trans hq)).mono ?_
  rintro e W' ⟨rfl, rfl⟩
  exact ⟨rfl, Below.refl _ _⟩
theorem pow_wrap (n : Nat) (hn : n ≤ 8) : wrap64 ((2 : Int) ^ n) = ((2 ^ n : Nat) : Int) := by
  have h : ∀ n : Fin 9, wrap64 ((2 : Int) ^ n.1) = ((2 ^ n.1 : Nat) : Int) := by decide +kernel
  exact h ⟨n, by omega⟩
/-- what stands while the table is filled -/
structure Fil (w : World) (sv : Value) (s : Nat → Bool) (m k : Nat) (W : World) : Prop where
  low : Below w.heap.size w W
  nm : W.cell? ⟨w.heap.size, 0, none⟩ = some sv
  tb : W.cell? ⟨w.heap.size + 2, 0, none⟩ = some (.slice (some ⟨w.heap.size + 1, 0, none⟩) m m)
  row : RowIs W (w.heap.size + 1) 4 (((tableTo s k).map Value.bool) ++ List.replicate (m - ((tableTo s k).map Value.bool).length) (.bool false))
theorem Fil.below {w W W' : World} {sv : Value} {s : Nat → Bool} {m k : Nat} (h : Fil w sv s m k W) (hb : Below W.heap.size W W') : Fil w sv s m k W' :=
  ⟨h.low.trans (hb.mono h.low.size), (hb.cell (World.block_lt_of_cell? _ _ h.nm)).trans h.nm, (hb.cell (World.block_lt_of_cell? _ _ h.tb)).trans h.tb, h.row.below hb⟩
theorem table_len (s : Nat → Bool) (k : Nat) : ((tableTo s k).map Value.bool).length = k := by simp [tableTo]
theorem table_succ (s : Nat → Bool) (k : Nat) : (tableTo s (k + 1)).map Value.bool = (tableTo s k).map Value.bool ++ [.bool (s k)] := by simp [tableTo, List.range_succ]
theorem Fil.next {w W : World} {sv : Value} {s : Nat → Bool} {m k : Nat} (h : Fil w sv s m k W) (hk : k < m) : Fil w sv s m (k + 1) (W.setCell ⟨w.heap.size + 1, k, none⟩ (.bool (s k))) := by
  refine ⟨h.low.setCell (p := ⟨w.heap.size + 1, k, none⟩) (by show w.heap.size ≤ w.heap.size + 1; omega) _, ?_, ?_, ?_⟩
  · rw [World.cell?_setCell_other _ _ _ _ (by intro e; simp at e)]; exact h.nm
  · rw [World.cell?_setCell_other _ _ _ _ (by intro e; simp at e)]; exact h.tb
  · have h1 := h.row.set k (.bool (s k))
    have h2 := fill_set ((tableTo s k).map Value.bool) (.bool false) (.bool (s k)) m (by rw [table_len]; exact hk)
    rw [table_len] at h2
    rw [table_len, h2] at h1
    rw [table_succ]
    exact h1
set_option maxHeartbeats 4000000 in
set_option maxRecDepth 100000 in
theorem saying_any (ok : Nat → Prop) (x : Ex) (v : Value) (l : List (List UInt8)) (hl : l.length ≤ 8) (sv : Value) (w : World) (hx : IsEx ok w x v) (h : Strs w sv (l.map fun l => (⟨l.toArray⟩ : ByteArray))) (hsl : ∃ a c, sv = .slice a l.length c) :
    Calls Tryz.prog 35 #[v, sv] w fun e w' => ∃ f p g, e = .returned f ∧ Says w' f (2 ^ l.length) (sayV x l) p g ∧ Below w.heap.size w w' := by
  have hmf : ∀ (fn : Fn) (first cap : Array Value) (w : World), (Instr.makeFunc fn first cap).run Tryz.prog w = .ok (.func fn first cap) w := fun _ _ _ _ => rfl
  have HS := hide h
  have HX := hide hx
  have HLL := hide hl
  obtain ⟨a, c, rfl⟩ := hsl
  obtain ⟨t, y, rfl⟩ := IsEx.iface x v hx
  obtain ⟨n, hn⟩ : ∃ n, n = l.length := ⟨_, rfl⟩
  have HN := hide hn
  have HPW := hide (pow_wrap n (by omega))
  obtain ⟨m, hm⟩ : ∃ m, m = 2 ^ n := ⟨_, rfl⟩
  have HM := hide hm
  have hm2 : m ≤ 256 := by rw [hm]; exact Nat.pow_le_pow_right (n := 2) (j := 8) (by decide) (by omega)
  rw [← hm] at HPW
  have mk := fun w => makeBs m (by omega) w
  obtain ⟨cb, hcb⟩ : ∃ cb, cb = List.replicate m (Value.bool false) := ⟨_, rfl⟩
  have HCB := hide hcb
  rw [← hcb] at mk
  rw [← hn] at hl HS ⊢
  rw [← hm]
  obtain ⟨s, hs⟩ : ∃ s, s = sayV x l := ⟨_, rfl⟩
  have HSS := hide hs
  rw [← hs]
  have hpw := HPW.out
  clear hn h hx hm hs hcb
  go_enter Tryz.func35, Tryz.ntmps35
  go_wp2_with fail
  have e1 : w.heap.size + 1 + 1 = w.heap.size + 2 := rfl
  have HF0 : Hid (Fil w (.slice a n c) s m 0 (((w.alloc (.cells #[.slice a n c] 77)).alloc (.cells ⟨cb⟩ 4)).alloc (.cells #[.slice (some ⟨w.heap.size + 1, 0, none⟩) m m] 33))) := by
    refine ⟨(((Below.refl _ w).alloc (Nat.le_refl _) _).alloc (by simp) _).alloc (by simp; omega) _, ?_, ?_, ?_⟩
    · rw [World.cell?_alloc_old _ _ _ (by simp; omega), World.cell?_alloc_old _ _ _ (by simp)]
      simp
    · have := (RowIs.new ((w.alloc (.cells #[.slice a n c] 77)).alloc (.cells ⟨cb⟩ 4)) 33 [.slice (some ⟨w.heap.size + 1, 0, none⟩) m m]).cell 0 _ rfl
      rw [show ((w.alloc (.cells #[.slice a n c] 77)).alloc (.cells ⟨cb⟩ 4)).heap.size = w.heap.size + 2 by simp] at this
      exact this
    · have := ((RowIs.new (w.alloc (.cells #[.slice a n c] 77)) 4 cb).alloc (.cells #[.slice (some ⟨w.heap.size + 1, 0, none⟩) m m] 33))
      rw [show (w.alloc (.cells #[.slice a n c] 77)).heap.size = w.heap.size + 1 by simp] at this
      rw [table_len, HCB.out] at *
      simpa [tableTo] using this
  rw [hpw]
  clear hpw mk
  go_loopw [14] (fun i wr => ∃ k : Nat, k ≤ m ∧ i = .int .i64 (k : Int) ∧ Hid (Fil w (.slice a n c) s m k wr)) (fun i _ => m - (intOf i).toNat)
  case atStart => exact ⟨0, Nat.zero_le _, rfl, HF0.out⟩
  case round =>
    obtain ⟨k, hk, rfl, HF⟩ := hrel
    clear HF0 e1
    by_cases hlt : k < m
    · obtain ⟨wb, hwb⟩ : ∃ wb, wb = wr.alloc (.cells #[.int .i64 (k : Int)] 3) := ⟨_, rfl⟩
      have hbb : Below wr.heap.size wr wb := by rw [hwb]; exact (Below.refl _ _).alloc (Nat.le_refl _) _
      have HFB := hide (HF.out.below hbb)
      have c6 : wb.cell? ⟨wr.heap.size, 0, none⟩ = some (.int .i64 (k : Int)) := by rw [hwb]; simp
      have c5 := HFB.out.tb
      have hdr : Below wb.heap.size wb wb.drew := ⟨rfl, rfl, rfl, Nat.le_refl _, fun _ _ => rfl⟩
      have HT := hide ((tells1 l (by have := HLL.out; omega) (.slice a n c) w.heap.size wr.heap.size k wb ((HS.out.below HF.out.low).below hbb) HFB.out.nm c6).below hdr)
      have HE := hide (E2.Eval_any ok x (.iface t y) _ _ _ _ wb.drew (IsEx.stay (Stay.below (HFB.out.below hdr).low) (fun g hg => hg) x _ HX.out) HT.out HT.out)
      have HEV : Hid (x.eval (tv l k) (tv l k) = s k) := by show _ = _; rw [HSS.out]; rfl
      rw [HEV.out] at HE
      have HWB := hide hwb
      clear hwb hbb
      go_upto_region 6 with fail
      rw [← HWB.out]
      have HK : Hid (∀ W, Below wb.heap.size wb W → W.cell? ⟨w.heap.size + 2, 0, none⟩ = some (.slice (some ⟨w.heap.size + 1, 0, none⟩) m m) ∧ W.cell? ⟨wr.heap.size, 0, none⟩ = some (.int .i64 (k : Int)) ∧ W.cell? ⟨w.heap.size + 1, k, none⟩ = some (.bool false) ∧ W.frozen? ⟨w.heap.size + 1, k, none⟩ = false) := by
        intro W hW
        have h1 := HFB.out.below hW
        refine ⟨h1.tb, (hW.cell (World.block_lt_of_cell? _ _ c6)).trans c6, ?_, h1.row.frozen k⟩
        exact h1.row.cell k _ (by rw [List.getElem?_append_right (by rw [table_len]; exact Nat.le_refl _), table_len, List.getElem?_replicate, if_pos (by omega)])
      obtain ⟨d1, d2, d3, d4⟩ := HK.out wb.drew hdr
      clear c5 c6
      go_region_with ((go_at_call 65; refine HE.out.mono ?_; rintro e w2 ⟨rfl, hb2⟩; have HB2 := hide (hdr.trans (hb2.mono hdr.size)); obtain ⟨k1, k2, k3, k4⟩ := HK.out w2 HB2.out; clear hb2))
      all_goals
        have HFN := hide ((HFB.out.below HB2.out).next hlt)
        go_wp2_with fail
        go_roundw
        case rel => exact ⟨k + 1, by omega, by go_num, HFN.out⟩
        case measure => simp [intOf]; omega
    · have hkm : k = m := by omega
      subst hkm
      go_wp2_with fail
      go_ret
      refine ⟨_, _, _, rfl, ⟨rfl, HF.out.tb, ?_⟩, HF.out.low⟩
      have h1 := HF.out.row
      rw [table_len, Nat.sub_self, List.replicate_zero, List.append_nil] at h1
      exact h1
theorem and_pow (v k : Nat) (hv : v < 256) (hk : k < 8) : bits BinOp.and .u64 (v : Int) ((2 ^ k : Nat) : Int) = if v.testBit k then ((2 ^ k : Nat) : Int) else 0 := by
  have h1 : ∀ v : Fin 256, ∀ k : Fin 8, v.1 &&& 2 ^ k.1 = if v.1.testBit k.1 then 2 ^ k.1 else 0 := by decide +kernel
  have h2 : 2 ^ k ≤ 2 ^ 7 := Nat.pow_le_pow_right (by decide) (by omega)
  rw [bits_and_u64_nat v (2 ^ k) (by omega) (by omega), h1 ⟨v, hv⟩ ⟨k, hk⟩]
  simp only
  split <;> simp
theorem or_pow (v k : Nat) (hv : v < 18446744073709551616) (hk : k < 8) : bits BinOp.or .u64 (v : Int) ((2 ^ k : Nat) : Int) = ((v ||| 2 ^ k : Nat) : Int) := by
  have h2 : 2 ^ k ≤ 2 ^ 7 := Nat.pow_le_pow_right (by decide) (by omega)
  exact bits_or_u64_nat v (2 ^ k) hv (by omega)
/-- what leastPair tells -/
def told : Option Nat → Nat → Value
  | some v, k => .tuple #[.int .u64 (v : Int), .int .u64 ((v ||| 2 ^ k : Nat) : Int), .bool true]
  | none, _ => .tuple #[.int .u64 0, .int .u64 0, .bool false]
set_option maxHeartbeats 4000000 in
set_option maxRecDepth 100000 in
theorem leastPair_any (n k : Nat) (hn : n ≤ 8) (hk : k < n) (s : Nat → Bool) (f : Value) (p g : Nat) (w : World) (h : Says w f (2 ^ n) s p g) :
    Calls Tryz.prog 36 #[.int .i64 (n : Int), .int .i64 (k : Int), f] w fun e w' => e = .returned (told (least s n k) k) ∧ w' = w := by
  obtain ⟨rfl, h1, h2⟩ := h
  have HS := hide (fun v hv => saying2_any (2 ^ n) (by have : 2 ^ n ≤ 2 ^ 8 := Nat.pow_le_pow_right (by decide) hn; omega) s p g v hv w h1 h2)
  have hent : ∀ (args : Array Value) (w : World), (callFunc 66 args).run Tryz.prog w = .ok (.enter 66 args) w := fun _ _ => by kernel_rfl
  have HOR := hide (fun v hv => or_pow v k hv (show k < 8 by omega))
  have HAN := hide (fun v hv => and_pow v k hv (show k < 8 by omega))
  have HBN : Hid (∀ v, v < 2 ^ n → v ||| 2 ^ k < 2 ^ n) := fun v hv => Nat.or_lt_two_pow hv (Nat.pow_lt_pow_right (by decide) hk)
  have hb0 : 0 < 2 ^ k := Nat.two_pow_pos k
  have HBB : Hid (2 ^ k ≤ 128) := Nat.pow_le_pow_right (n := 2) (j := 7) (by decide) (by omega)
  have hm2 : 2 ^ n ≤ 256 := Nat.pow_le_pow_right (n := 2) (j := 8) (by decide) hn
  have e1 : IntKind.u64.wrap ((2 : Int) ^ k) = ((2 ^ k : Nat) : Int) := by
    have h : ∀ n : Fin 9, IntKind.u64.wrap ((2 : Int) ^ n.1) = ((2 ^ n.1 : Nat) : Int) := by decide +kernel
    exact h ⟨k, by omega⟩
  have e2 : IntKind.u64.wrap ((2 : Int) ^ n) = ((2 ^ n : Nat) : Int) := by
    have h : ∀ n : Fin 9, IntKind.u64.wrap ((2 : Int) ^ n.1) = ((2 ^ n.1 : Nat) : Int) := by decide +kernel
    exact h ⟨n, by omega⟩
  have HL : Hid (least s n k = (List.range (2 ^ n)).find? (hit s k)) := rfl
  have HH : Hid (∀ v, hit s k v = (!v.testBit k && (s v != s (v ||| 2 ^ k)))) := fun _ => rfl
  have HTD : Hid (∀ v, told (some v) k = .tuple #[.int .u64 (v : Int), .int .u64 ((v ||| 2 ^ k : Nat) : Int), .bool true]) := fun _ => rfl
  generalize least s n k = L at *
  clear h1 h2
  generalize hq : (2 : Nat) ^ k = b at *
  generalize hmm : (2 : Nat) ^ n = m at *
  clear hq hmm
  go_enter Tryz.func36, Tryz.ntmps36
  go_wp2_with fail
  clear e1 e2
  go_loop [15] (fun i => ∃ v : Nat, v ≤ m ∧ i = .int .u64 (v : Int) ∧ Hid (∀ u, u < v → hit s k u = false)) (fun i => m - (intOf i).toNat)
  case atStart => exact ⟨0, Nat.zero_le _, rfl, fun u hu => by omega⟩
  case round =>
    obtain ⟨v, hv, rfl, HNO⟩ := hrel
    by_cases hlt : v < m
    · have hA := HAN.out v (by omega)
      have hO := HOR.out v (by omega)
      have HC1 := hide (HS.out v hlt)
      have HC2 := hide (HS.out _ (HBN.out v hlt))
      have HHV := hide (HH.out v)
      have HSTEP : Hid (hit s k v = false → ∀ u, u < v + 1 → hit s k u = false) := fun h u hu => by
        by_cases e : u = v
        · exact e ▸ h
        · exact HNO.out u (by omega)
      cases ht : v.testBit k with
      | true =>
        rw [ht] at hA
        simp only [if_true] at hA
        have hbz : ((b : Int) == 0) = false := by simp; omega
        have HF : Hid (hit s k v = false) := by show _ = _; rw [HHV.out, ht]; rfl
        clear ht
        go_wp2_with fail
        go_round
        case rel => exact ⟨v + 1, by omega, by go_num, HSTEP.out HF.out⟩
        case measure => simp [intOf]; omega
      | false =>
        rw [ht] at hA
        simp only [Bool.false_eq_true, if_false] at hA
        rw [ht] at HHV
        clear ht
        have HV2 : Hid (v < m) := hlt
        generalize hu : v ||| b = u at *
        have HU := hide hu
        clear hu
        generalize s v = sa at *
        generalize s u = sb at *
        go_wp2_with fail
        refine HC1.out.mono ?_
        rintro e w1 ⟨rfl, rfl⟩
        go_wp2_with fail
        refine HC2.out.mono ?_
        rintro e w2 ⟨rfl, rfl⟩
        cases hne : (sa == sb) with
        | false =>
          have hne2 : (!(sa == sb)) = true := by rw [hne]; rfl
          have HF : Hid (L = some v) := by
            show _ = _
            rw [HL.out, List.find?_range_eq_some]
            exact ⟨by rw [HHV.out]; simp [bne, hne], List.mem_range.2 HV2.out, fun u hu => by rw [HNO.out u hu]; rfl⟩
          have HTV := hide (HTD.out v)
          rw [HU.out] at HTV
          clear HHV
          go_wp2_with fail
          refine bodyPost_ret_by (v := .tuple #[.int .u64 (v : Int), .int .u64 (u : Int), .bool true]) ?_ rfl ⟨by rw [HF.out, HTV.out], rfl⟩
          simp [results, Tryz.results36, go_sem]
        | true =>
          have hne2 : (!(sa == sb)) = false := by rw [hne]; rfl
          have HF : Hid (hit s k v = false) := by show _ = _; rw [HHV.out]; simp [bne, hne]
          clear HHV
          go_wp2_with fail
          go_round
          case rel => exact ⟨v + 1, by omega, by go_num, HSTEP.out HF.out⟩
          case measure => simp [intOf]; omega
    · have hvm : v = m := by omega
      have HF : Hid (L = none) := by
        show _ = _
        rw [HL.out, List.find?_eq_none]
        intro u hu
        rw [HNO.out u (by have := List.mem_range.1 hu; omega)]
        simp
      subst hvm
      go_wp2_with fail
      refine bodyPost_ret_by (v := .tuple #[.int .u64 0, .int .u64 0, .bool false]) ?_ rfl ⟨by rw [HF.out]; rfl, rfl⟩
      simp [results, Tryz.results36, go_sem]
end Cv
end
end Go.Proofs.YtglmpkpcbafgdaaGreatDoor
