/-
  The walks of Place, and of the law's own at. The walk of the statements' own at: is an error this fault? The walk of the statements' own bare; own rows of numbers as slices. Slices of bools: how long they are. The walk of the statements' own sameBools. Slices of slices of numbers in memory. Plain mathematics: a machine plays as its program does. Plain mathematics of chapter 5: states are gone to from the first one on, the nearest ones first.
-/
import Derived.Test.YtkfikffnljnepaaGreatDoorLdTakeAll
import Derived.WalkMore
import Derived.Test.YtkfikffnljnepaaGreatDoorNdNamedAll
import Derived.Test.YtkfikffnljnepaaGreatDoorRlEdgesAll
import Derived.Test.YtkfikffnljnepaaGreatDoorRdListAll
import Derived.Test.YtkfikffnljnepaaGreatDoorScStepAll
import Derived.Test.YtkfikffnljnepaaGreatDoorRfStateMAll
import Derived.Test.YtkfikffnljnepaaGreatDoorMcOffAll
import Derived.Test.YtkfikffnljnepaaGreatDoorScTwoAll
namespace Go.Proofs.YtkfikffnljnepaaGreatDoor
section
namespace ErAs
open Go.RowKit
/-- an error that the program hands back, its Errno and its place -/
def ErrAt (er : Value) (n pl : Int) (w : World) : Prop := (er = .iface 35 (.int .i64 n) ∧ pl = -1) ∨ ∃ a, er = .iface 129 (.pointer (some ⟨a, 0, none⟩)) ∧ w.cell? ⟨a, 0, none⟩ = some (.int .i64 n) ∧ w.cell? ⟨a, 1, none⟩ = some (.int .i64 pl)
theorem ErrAt.finds {er : Value} {n pl : Int} {w : World} (h : ErrAt er n pl w) : Finds er n w := by
  rcases h with ⟨h, _⟩ | ⟨a, h, h1, _⟩
  · exact .inl h
  · exact .inr ⟨_, h, h1⟩
set_option maxHeartbeats 2000000 in
set_option maxRecDepth 100000 in
theorem Place_any (er : Value) (n pl : Int) (w : World) (hg : Door w) (hf : ErrAt er n pl w) :
    Calls Tryz.prog 51 #[er] w fun e w' => e = .returned (.tuple #[.int .i64 n, .int .i64 pl]) ∧ Below w.heap.size w w' := by
  have HC := hide (Tell_any er n w hg hf.finds)
  clear hg
  rcases hf with ⟨rfl, rfl⟩ | ⟨a, rfl, h0, h1⟩
  · have sE := atE
    have sU := unE
    go_enter Tryz.func51, Tryz.ntmps51
    go_wp2_with fail
    refine HC.out.mono ?_
    rintro e w1 ⟨rfl, hb⟩
    have HB := hide hb
    clear hb HC
    go_wp2_with fail
    refine wp_loop_rounds 1 ?_
    rw [rounds_succ]
    go_wp2_with fail
    refine bodyPost_ret_by (v := .tuple #[.int .i64 n, .int .i64 (-1)]) ?_ rfl ⟨rfl, HB.out⟩
    simp [results, Tryz.results51, go_sem]
  · have sA := atA
    go_enter Tryz.func51, Tryz.ntmps51
    go_wp2_with fail
    refine HC.out.mono ?_
    rintro e w1 ⟨rfl, hb⟩
    have HB := hide hb
    have h1' := (hb.cell (World.block_lt_of_cell? _ _ h1)).trans h1
    clear hb HC h0 h1
    go_wp2_with fail
    refine wp_loop_rounds 1 ?_
    rw [rounds_succ]
    go_wp2_with fail
    go_quiet (fail)
    go_wp2_with fail
    refine bodyPost_ret_by (v := .tuple #[.int .i64 n, .int .i64 pl]) ?_ rfl ⟨rfl, ⟨HB.out.os, HB.out.tape, HB.out.output, HB.out.size, HB.out.block⟩⟩
    simp [results, Tryz.results51, go_sem]
end ErAs
end
section
open Go.RowKit ErAs
set_option maxHeartbeats 2000000 in
set_option maxRecDepth 100000 in
theorem at_any (er : Value) (n pl : Int) (w : World) (hg : Door w) (hf : ErrAt er n pl w) :
    Calls Tryz.prog 23 #[er, faultV n pl] w fun e w' => e = .returned (.bool true) ∧ Below w.heap.size w w' := by
  obtain ⟨w1, hw1⟩ : ∃ w1, w1 = w.alloc (.cells #[.int .i64 n, .int .i64 pl] 76) := ⟨_, rfl⟩
  have hb1 : Below w.heap.size w w1 := by rw [hw1]; exact (Below.refl _ _).alloc (Nat.le_refl _) _
  have hg1 : Door w1 := (hb1.cell (World.block_lt_of_cell? _ _ hg)).trans hg
  have hf1 : ErrAt er n pl w1 := by
    rcases hf with h | ⟨a, h, h1, h2⟩
    · exact .inl h
    · exact .inr ⟨a, h, (hb1.cell (World.block_lt_of_cell? _ _ h1)).trans h1, (hb1.cell (World.block_lt_of_cell? _ _ h2)).trans h2⟩
  have HC := hide (Place_any er n pl w1 hg1 hf1)
  have hh : w1.heap[w.heap.size]? = some (.cells #[.int .i64 n, .int .i64 pl] 76 (0, 0)) := by rw [hw1]; exact heap_alloc_new _ _
  have HH := hide hh
  have HS1 : Hid (w1.heap.size = w.heap.size + 1) := by show _ = _; rw [hw1]; simp
  obtain ⟨te, ve, hte⟩ : ∃ te ve, er = .iface te ve := by
    rcases hf with ⟨rfl, _⟩ | ⟨q, rfl, _⟩
    · exact ⟨_, _, rfl⟩
    · exact ⟨_, _, rfl⟩
  subst hte
  have HB1 := hide hb1
  have HW1 := hide hw1
  rw [hw1] at HC
  unfold faultV
  clear hg hf hg1 hf1 hb1 hw1 hh
  go_enter Tryz.func23, Tryz.ntmps23
  go_wp2_with fail
  refine HC.out.mono ?_
  rintro e w2 ⟨rfl, hb⟩
  rw [← HW1.out] at hb
  have c0 : w2.cell? ⟨w.heap.size, 0, none⟩ = some (.int .i64 n) := by rw [hb.cell (p := ⟨w.heap.size, 0, none⟩) (by rw [HS1.out]; simp), Lib.cell_of_heap HH.out]; rfl
  have c1 : w2.cell? ⟨w.heap.size, 1, none⟩ = some (.int .i64 pl) := by rw [hb.cell (p := ⟨w.heap.size, 1, none⟩) (by rw [HS1.out]; simp), Lib.cell_of_heap HH.out]; rfl
  have HB := hide hb
  clear hb HC
  go_wp2_with fail
  go_ret
  exact ⟨ret_bool (by simp), HB1.out.trans (HB.out.mono HB1.out.size)⟩
end
section
open Go.RowKit
namespace Sl
set_option maxHeartbeats 2000000 in
theorem lbare_any (n : Int) (w : World) (hg : ErAs.Door w) : Calls Tryz.prog 10 #[.iface 35 (.int .i64 n), .int .i64 n] w fun e w' => e = .returned (.bool true) ∧ Below w.heap.size w w' := by
  have HBA := hide (rbare_any n w)
  have HG := hide hg
  clear hg
  go_enter Tryz.func10, Tryz.ntmps10
  go_wp2_with fail
  refine HBA.out.mono ?_
  rintro e w1 ⟨rfl, hb1⟩
  have HAT := hide (at_any (.iface 35 (.int .i64 n)) n (-1) w1 ((hb1.cell (World.block_lt_of_cell? _ _ HG.out)).trans HG.out) (.inl ⟨rfl, rfl⟩))
  have HB1 := hide hb1
  unfold faultV at HAT ⊢
  clear hb1 HBA
  go_wp2_with fail
  refine HAT.out.mono ?_
  rintro e w2 ⟨rfl, hb2⟩
  have HB2 := hide (HB1.out.trans (hb2.mono HB1.out.size))
  clear hb2 HAT
  go_wp2_with fail
  go_ret
  exact ⟨rfl, HB2.out⟩
theorem own_ints {W : World} {q : Nat} {v : Value} {l : List Nat} (h : W.ownsRow q 3 1 v l.length (l.map intV)) (hl : ∀ i, i ∈ l → i ≤ 1000) : Ints W v (l.map fun i : Nat => (i : Int)) := by
  rcases h.2 with ⟨rfl, h0⟩ | ⟨g, cap, cur, rfl, _, hcur, hcap, _, _, htk⟩
  · exact .inl ⟨by rw [List.length_eq_zero_iff.1 h0]; rfl, _, _, rfl⟩
  · refine .inr ⟨g, 0, cap, by simp, by simpa using hcap, fun k x hx => ?_⟩
    rw [List.getElem?_map] at hx
    cases hk : l[k]? with
    | none => rw [hk] at hx; cases hx
    | some i =>
      rw [hk] at hx
      simp only [Option.map_some, Option.some.injEq] at hx
      subst hx
      have := hl i (List.mem_of_getElem? hk)
      exact ⟨by rw [Nat.zero_add]; exact row_cell hcur htk (by rw [List.getElem?_map, hk]; rfl), by unfold I64; omega⟩
end Sl
end
section
open Go.RowKit
theorem Bools.len {w : World} {v : Value} {l : List Bool} (h : Bools w v l) : l.length ≤ 1000000 := by obtain ⟨_, _, _, h, _⟩ := h; exact h
theorem Bools.slice {w : World} {v : Value} {l : List Bool} (h : Bools w v l) : ∃ a c, v = .slice a l.length c := by obtain ⟨a, c, h, _⟩ := h; exact ⟨a, c, h⟩
end
section
open Go.RowKit
set_option maxHeartbeats 2000000 in
set_option maxRecDepth 100000 in
theorem lsameB_any (l : List Bool) (u v : Value) (w : World) (hu : Bools w u l) (hv : Bools w v l) :
    Calls Tryz.prog 15 #[u, v] w fun e w' => e = .returned (.bool true) ∧ Below w.heap.size w w' := by
  have HU := hide hu
  have HV := hide hv
  obtain ⟨n, hn⟩ : ∃ n, n = l.length := ⟨_, rfl⟩
  have HN := hide hn
  have hl6 := hu.len
  obtain ⟨ua, uc, rfl⟩ := hu.slice
  obtain ⟨va, vc, rfl⟩ := hv.slice
  rw [← hn] at HU HV hl6 ⊢
  clear hu hv hn
  go_enter Tryz.func15, Tryz.ntmps15
  go_wp2_with fail
  go_loopw [5] (fun i wr => ∃ k : Nat, k ≤ n ∧ i = .int .i64 (k : Int) ∧ Hid (Below w.heap.size w wr)) (fun i _ => n - (intOf i).toNat)
  case atStart => exact ⟨0, Nat.zero_le _, rfl, Below.refl _ _⟩
  case round =>
    obtain ⟨k, hk, rfl, HB⟩ := hrel
    by_cases hlt : k < n
    · have hkl : k < l.length := by rw [← HN.out]; exact hlt
      have hx := List.getElem?_eq_getElem hkl
      obtain ⟨a1, c1, e1, _, b1⟩ := HU.out.below HB.out
      obtain ⟨a2, c2, e2, _, b2⟩ := HV.out.below HB.out
      simp only [Value.slice.injEq] at e1 e2
      obtain ⟨g1, ga1, d1⟩ := b1 k _ hx
      obtain ⟨g2, ga2, d2⟩ := b2 k _ hx
      obtain ⟨e1, _, _⟩ := e1
      obtain ⟨e2, _, _⟩ := e2
      rw [ga1] at e1
      rw [ga2] at e2
      subst e1
      subst e2
      clear b1 b2 ga1 ga2
      generalize l[k] = x at *
      clear hx
      go_wp2_with fail
      go_quiet (fail)
      go_wp2_with fail
      go_roundw
      case rel => exact ⟨k + 1, by omega, by go_num, HB.out.trans ⟨rfl, rfl, rfl, Nat.le_refl _, fun _ _ => rfl⟩⟩
      case measure => simp [intOf]; omega
    · have hkn : k = n := by omega
      subst hkn
      go_wp2_with fail
      go_ret
      exact ⟨rfl, HB.out⟩
end
section
namespace Rf
open Go.RowKit
def RowsI (W : World) (v : Value) (L : List (List Int)) : Prop :=
  (L = [] ∧ ∃ a cap, v = .slice a 0 cap) ∨ ∃ g cap, v = .slice (some ⟨g, 0, none⟩) L.length cap ∧ L.length ≤ cap ∧ ∀ (k : Nat) r, L[k]? = some r → ∃ u, W.cell? ⟨g, k, none⟩ = some u ∧ Ints W u r
theorem RowsI.below {W W' : World} {v : Value} {L : List (List Int)} (h : RowsI W v L) (hb : Below W.heap.size W W') : RowsI W' v L := by
  rcases h with h | ⟨g, cap, h1, h2, h3⟩
  · exact .inl h
  · refine .inr ⟨g, cap, h1, h2, fun k r hr => ?_⟩
    obtain ⟨u, h4, h5⟩ := h3 k r hr
    exact ⟨u, (hb.cell (World.block_lt_of_cell? _ _ h4)).trans h4, h5.below hb⟩
theorem RowsI.slice {W : World} {v : Value} {L : List (List Int)} (h : RowsI W v L) : ∃ a c, v = .slice a L.length c := by
  rcases h with ⟨rfl, a, c, rfl⟩ | ⟨g, cap, h1, _⟩
  · exact ⟨a, c, rfl⟩
  · exact ⟨_, _, h1⟩
theorem RowsI.at_ {W : World} {a : Option Addr} {n c : Nat} {L : List (List Int)} (h : RowsI W (.slice a n c) L) (k : Nat) (r : List Int) (hr : L[k]? = some r) : ∃ g u, a = some ⟨g, 0, none⟩ ∧ n ≤ c ∧ W.cell? ⟨g, k, none⟩ = some u ∧ Ints W u r := by
  rcases h with ⟨h0, _⟩ | ⟨g, cap, h1, h2, h3⟩
  · rw [h0] at hr; simp at hr
  · simp only [Value.slice.injEq] at h1
    obtain ⟨u, h4, h5⟩ := h3 k r hr
    exact ⟨g, u, h1.1, by rw [h1.2.1, h1.2.2]; exact h2, h4, h5⟩
def asI (l : List Nat) : List Int := l.map fun i : Nat => (i : Int)
theorem ints_nat {W : World} {q : Nat} {v : Value} {l : List Nat} (h : W.ownsRow q 3 1 v l.length (l.map intV)) (hl : ∀ i, i ∈ l → i ≤ 1000000) : Ints W v (asI l) := by
  rcases h.2 with ⟨rfl, h0⟩ | ⟨g, cap, cur, rfl, _, hcur, hcap, _, _, htk⟩
  · exact .inl ⟨by rw [List.length_eq_zero_iff.1 h0]; rfl, _, _, rfl⟩
  · refine .inr ⟨g, 0, cap, by simp [asI], by simpa [asI] using hcap, fun k x hx => ?_⟩
    unfold asI at hx
    rw [List.getElem?_map] at hx
    cases hk : l[k]? with
    | none => rw [hk] at hx; cases hx
    | some i =>
      rw [hk] at hx
      simp only [Option.map_some, Option.some.injEq] at hx
      subst hx
      have := hl i (List.mem_of_getElem? hk)
      exact ⟨by rw [Nat.zero_add]; exact row_cell hcur htk (by rw [List.getElem?_map, hk]; rfl), by unfold I64; omega⟩
theorem IntR.rowsI {q : Nat} {W : World} {o : Value} {us : List Value} {bs : List (List Nat)} (h : IntR q W o us bs) (hl : ∀ b, b ∈ bs → ∀ i, i ∈ b → i ≤ 1000000) : RowsI W o (bs.map asI) := by
  rcases h.own.2 with ⟨rfl, h0⟩ | ⟨g, cap, cur, rfl, _, hcur, hcap, _, _, htk⟩
  · exact .inl ⟨by rw [List.length_eq_zero_iff.1 h0]; rfl, _, _, rfl⟩
  · refine .inr ⟨g, cap, by simp, by simpa using hcap, fun i b hb => ?_⟩
    rw [List.getElem?_map] at hb
    cases hk : bs[i]? with
    | none => rw [hk] at hb; cases hb
    | some x =>
      rw [hk] at hb
      simp only [Option.map_some, Option.some.injEq] at hb
      subst hb
      have hil : i < us.length := by rw [h.len]; exact (List.getElem?_eq_some_iff.1 hk).1
      exact ⟨us[i], row_cell hcur htk (List.getElem?_eq_getElem hil), ints_nat (h.at_ i _ x (List.getElem?_eq_getElem hil) hk) (hl x (List.mem_of_getElem? hk))⟩
/-- a table of rows tells lists -/
theorem LL.rowsI {W : World} {g m n lo : Nat} {us : List Nat} {rows : Nat → List Value} {L : List (List Nat)} (h : LL W g 26 3 m n lo us rows) (hul : us.length = m) (hm : L.length = m) (hr : ∀ (s : Nat) (r : List Nat), L[s]? = some r → rows s = r.map intV ∧ r.length = n) (hl : ∀ b, b ∈ L → ∀ i, i ∈ b → i ≤ 1000000) : RowsI W (slV g m) (L.map asI) := by
  refine .inr ⟨g, m, by simp [slV, hm], by simp [hm], fun i b hb => ?_⟩
  rw [List.getElem?_map] at hb
  cases hk : L[i]? with
  | none => rw [hk] at hb; cases hb
  | some x =>
    rw [hk] at hb
    simp only [Option.map_some, Option.some.injEq] at hb
    subst hb
    have hil : i < us.length := by have := (List.getElem?_eq_some_iff.1 hk).1; omega
    obtain ⟨e1, e2⟩ := hr i x hk
    have hc := h.cell i us[i] (List.getElem?_eq_getElem hil)
    refine ⟨_, hc, ?_⟩
    have hrow := (h.row i us[i] (List.getElem?_eq_getElem hil)).1
    rw [e1] at hrow
    refine .inr ⟨us[i], 0, n, by simp [slV, asI, e2], by simp [asI, e2], fun k y hy => ?_⟩
    unfold asI at hy
    rw [List.getElem?_map] at hy
    cases hk2 : x[k]? with
    | none => rw [hk2] at hy; cases hy
    | some j =>
      rw [hk2] at hy
      simp only [Option.map_some, Option.some.injEq] at hy
      subst hy
      have := hl x (List.mem_of_getElem? hk) j (List.mem_of_getElem? hk2)
      exact ⟨by rw [Nat.zero_add]; exact hrow.cell k _ (by rw [List.getElem?_map, hk2]; rfl), by unfold I64; omega⟩
end Rf
end
section
namespace Mc
theorem number_zero : ∀ (l : List (Nat × Bool)) (n : Nat), number l (List.replicate n false) (List.replicate n 0) = 0
  | [], _ => rfl
  | x :: r, 0 => by
    have ih := number_zero r 0
    show number r [] [] * x.1 + told x false 0 = 0
    have h0 : number r [] [] = 0 := ih
    rw [h0, Nat.zero_mul]; unfold told; split <;> simp
  | x :: r, n + 1 => by
    have ih := number_zero r n
    show number r (List.replicate n false) (List.replicate n 0) * x.1 + told x false 0 = 0
    rw [ih, Nat.zero_mul]; unfold told; split <;> simp
theorem number_start (p : Ld.Prg) : number (parts p) (Sc.start p).is (Sc.start p).ct = 0 := number_zero _ _
/-- a scan out of a state's number is a scan out of the state -/
theorem after1_eq (p : Ld.Prg) (hck : Ld.check p = none) (s : Sc.St) (hb : Sc.Bd p s) (x : Int) (q i : Nat) (hq : q = (Ld.kindL p.names 1).length) (hi : (i : Int) = x % 2 ^ q) : after1 p q (number (parts p) s.is s.ct) i = Sc.step p s (bitsTo x q) := by
  unfold after1
  rw [hi, bitsTo_mod]
  exact (alike_step p hck s _ (bitsTo x q) (alike_number p hck s hb) hb.li (by rw [bitsTo_len]; exact hq)).symm
theorem mod_mod (x : Int) (q : Nat) (hq : q ≤ 60) : x % 18446744073709551616 % (2 ^ q : Nat) = x % 2 ^ q := by
  have h : ((2 ^ q : Nat) : Int) ∣ 18446744073709551616 := by
    refine ⟨((2 ^ (64 - q) : Nat) : Int), ?_⟩
    rw [← Int.natCast_mul, ← Nat.pow_add, show q + (64 - q) = 64 by omega]
    decide
  rw [Int.emod_emod_of_dvd _ h]
  simp
theorem number_after (p : Ld.Prg) (s : Sc.St) (hb : Sc.Bd p s) : number (parts p) s.is s.ct < total (parts p) :=
  number_lt (parts p) s.is s.ct (parts_ok p) (by rw [hb.li, parts_len]) (by rw [hb.lc, parts_len]) (ok_bd p s hb)
end Mc
end
section
namespace Rc
/-- how a state is come to: in how many scans, from which one, by which input -/
structure Stp where
  far : Int
  frm : Nat
  by_ : Nat
structure Qu where
  steps : List Stp
  met : List Nat
def st0 : Stp := ⟨0, 0, 0⟩
def Qu.at_ (q : Qu) (s : Nat) : Stp := q.steps.getD s st0
def see (f : Nat) (q : Qu) (k s : Nat) : Qu := if (q.at_ s).far < 0 then ⟨q.steps.set s ⟨(q.at_ f).far + 1, f, k⟩, q.met ++ [s]⟩ else q
def seesTo (l : List Nat) (f : Nat) (q : Qu) : Nat → Qu
  | 0 => q
  | k + 1 => see f (seesTo l f q k) k (l.getD k 0)
def rounds (next : Nat → List Nat) (q : Qu) : Nat → Qu
  | 0 => q
  | k + 1 => match (rounds next q k).met[k]? with
    | some f => seesTo (next f) f (rounds next q k) (next f).length
    | none => rounds next q k
def begin (S : Nat) : Qu := ⟨(List.replicate S ⟨-1, 0, 0⟩).set 0 ⟨0, 0, 0⟩, [0]⟩
def walk (next : Nat → List Nat) (S : Nat) : Qu := rounds next (begin S) S
/-- what stands while states are gone to: the first k of those met are done, of the next one the first b inputs -/
structure Ok (next : Nat → List Nat) (S : Nat) (q : Qu) (k b : Nat) : Prop where
  len : q.steps.length = S
  nd : q.met.Nodup
  lt : ∀ s, s ∈ q.met → s < S
  vis : ∀ s, s ∈ q.met → 0 ≤ (q.at_ s).far
  nev : ∀ s, s < S → s ∉ q.met → q.at_ s = ⟨-1, 0, 0⟩
  hd : q.met[0]? = some 0
  zero : (q.at_ 0).far = 0
  par : ∀ s, s ∈ q.met → s ≠ 0 → (q.at_ s).frm ∈ q.met ∧ (q.at_ s).far = (q.at_ (q.at_ s).frm).far + 1 ∧ (next (q.at_ s).frm)[(q.at_ s).by_]? = some s
  mono : ∀ (i j s t : Nat), i ≤ j → q.met[i]? = some s → q.met[j]? = some t → (q.at_ s).far ≤ (q.at_ t).far
  up : ∀ (i s : Nat), q.met[i]? = some s → (q.at_ s).far ≤ i
  near : ∀ (f s : Nat), q.met[k]? = some f → s ∈ q.met → (q.at_ s).far ≤ (q.at_ f).far + 1
  done : ∀ (j f u : Nat), j < k → q.met[j]? = some f → u ∈ next f → u ∈ q.met ∧ (q.at_ u).far ≤ (q.at_ f).far + 1
  part : ∀ (f i u : Nat), q.met[k]? = some f → i < b → (next f)[i]? = some u → u ∈ q.met ∧ (q.at_ u).far ≤ (q.at_ f).far + 1
theorem at_set (q : Qu) (s t : Nat) (x : Stp) (m : List Nat) (hs : s < q.steps.length) : (Qu.mk (q.steps.set s x) m).at_ t = if t = s then x else q.at_ t := by
  unfold Qu.at_
  by_cases h : t = s
  · subst h; rw [if_pos rfl, List.getD_eq_getElem?_getD, List.getElem?_set_self hs]; rfl
  · rw [if_neg h, List.getD_eq_getElem?_getD, List.getElem?_set_ne (fun e => h e.symm), List.getD_eq_getElem?_getD]
theorem see_ok {next : Nat → List Nat} {S : Nat} {q : Qu} {k b f s : Nat} (h : Ok next S q k b) (hf : q.met[k]? = some f) (hs : s < S) (hb : (next f)[b]? = some s) : Ok next S (see f q b s) k (b + 1) ∧ (see f q b s).met[k]? = some f := by
  unfold see
  have hfm : f ∈ q.met := List.mem_of_getElem? hf
  have hkl : k < q.met.length := (List.getElem?_eq_some_iff.1 hf).1
  by_cases hv : (q.at_ s).far < 0
  · rw [if_pos hv]
    have hsm : s ∉ q.met := fun hm => by have := h.vis s hm; omega
    have hsl : s < q.steps.length := by rw [h.len]; exact hs
    have hat := fun t => at_set q s t ⟨(q.at_ f).far + 1, f, b⟩ (q.met ++ [s]) hsl
    have hold : ∀ t, t ∈ q.met → (Qu.mk (q.steps.set s ⟨(q.at_ f).far + 1, f, b⟩) (q.met ++ [s])).at_ t = q.at_ t := fun t ht => by
      rw [hat, if_neg]; intro e; subst e; exact hsm ht
    have hnew : (Qu.mk (q.steps.set s ⟨(q.at_ f).far + 1, f, b⟩) (q.met ++ [s])).at_ s = ⟨(q.at_ f).far + 1, f, b⟩ := by rw [hat, if_pos rfl]
    have hget : ∀ (i t : Nat), (q.met ++ [s])[i]? = some t → (i < q.met.length ∧ q.met[i]? = some t ∧ t ∈ q.met) ∨ (i = q.met.length ∧ t = s) := fun i t ht => by
      by_cases hi : i < q.met.length
      · rw [List.getElem?_append_left hi] at ht
        exact .inl ⟨hi, ht, List.mem_of_getElem? ht⟩
      · rw [List.getElem?_append_right (by omega)] at ht
        have hl : i - q.met.length < [s].length := (List.getElem?_eq_some_iff.1 ht).1
        have hi2 : i = q.met.length := by simp at hl; omega
        subst hi2
        simp at ht
        exact .inr ⟨rfl, ht.symm⟩
    have hf2 : (q.met ++ [s])[k]? = some f := by rw [List.getElem?_append_left hkl]; exact hf
    have hfu := h.up k f hf
    refine ⟨⟨by simp [h.len], ?_, ?_, ?_, ?_, ?_, ?_, ?_, ?_, ?_, ?_, ?_, ?_⟩, hf2⟩
    · rw [List.nodup_append]
      exact ⟨h.nd, by simp, fun a ha c hc => by simp at hc; subst hc; intro e; subst e; exact hsm ha⟩
    · intro t ht
      rcases List.mem_append.1 ht with ht | ht
      · exact h.lt t ht
      · simp at ht; subst ht; exact hs
    · intro t ht
      rcases List.mem_append.1 ht with ht | ht
      · rw [hold t ht]; exact h.vis t ht
      · simp at ht; subst ht; rw [hnew]; have := h.vis f hfm; simp only; omega
    · intro t ht hnm
      have h1 : t ∉ q.met := fun hm => hnm (List.mem_append.2 (.inl hm))
      have h2 : t ≠ s := fun e => hnm (List.mem_append.2 (.inr (by simp [e])))
      rw [hat, if_neg h2]; exact h.nev t ht h1
    · rw [List.getElem?_append_left (by omega)]; exact h.hd
    · rw [hold 0 (List.mem_of_getElem? h.hd)]; exact h.zero
    · intro t ht hne
      rcases List.mem_append.1 ht with ht | ht
      · obtain ⟨p1, p2, p3⟩ := h.par t ht hne
        rw [hold t ht, hold _ p1]
        exact ⟨List.mem_append.2 (.inl p1), p2, p3⟩
      · simp at ht; subst ht
        rw [hnew]; simp only
        rw [hold f hfm]
        exact ⟨List.mem_append.2 (.inl hfm), rfl, hb⟩
    · intro i j a c hij ha hc
      rcases hget i a ha with ⟨i1, i2, i3⟩ | ⟨i1, rfl⟩
      · rcases hget j c hc with ⟨j1, j2, j3⟩ | ⟨j1, rfl⟩
        · rw [hold a i3, hold c j3]; exact h.mono i j a c hij i2 j2
        · rw [hold a i3, hnew]; exact h.near f a hf i3
      · rcases hget j c hc with ⟨j1, j2, j3⟩ | ⟨j1, rfl⟩
        · omega
        · exact Int.le_refl _
    · intro i a ha
      rcases hget i a ha with ⟨i1, i2, i3⟩ | ⟨i1, rfl⟩
      · rw [hold a i3]; exact h.up i a i2
      · rw [hnew, i1]; simp only; omega
    · intro g a hg ha
      rw [hf2] at hg
      cases hg
      rw [hold f hfm]
      rcases List.mem_append.1 ha with ha | ha
      · rw [hold a ha]; exact h.near f a hf ha
      · simp at ha; subst ha; rw [hnew]; exact Int.le_refl _
    · intro j g u hj hg hu
      have hjl : j < q.met.length := by omega
      rw [List.getElem?_append_left hjl] at hg
      obtain ⟨d1, d2⟩ := h.done j g u hj hg hu
      rw [hold u d1, hold g (List.mem_of_getElem? hg)]
      exact ⟨List.mem_append.2 (.inl d1), d2⟩
    · intro g i u hg hi hu
      rw [hf2] at hg
      cases hg
      by_cases hib : i < b
      · obtain ⟨d1, d2⟩ := h.part f i u hf hib hu
        rw [hold u d1, hold f hfm]
        exact ⟨List.mem_append.2 (.inl d1), d2⟩
      · have : i = b := by omega
        subst this
        rw [hb] at hu
        cases hu
        rw [hnew, hold f hfm]
        exact ⟨List.mem_append.2 (.inr (by simp)), Int.le_refl _⟩
  · rw [if_neg hv]
    have hsm : s ∈ q.met := by
      refine Classical.byContradiction fun hm => hv ?_
      rw [h.nev s hs hm]; decide
    refine ⟨{ h with part := ?_ }, hf⟩
    intro g i u hg hi hu
    by_cases hib : i < b
    · exact h.part g i u hg hib hu
    · have : i = b := by omega
      subst this
      rw [hf] at hg
      cases hg
      rw [hb] at hu
      cases hu
      exact ⟨hsm, h.near f s hf hsm⟩
theorem seesTo_ok {next : Nat → List Nat} {S : Nat} {q : Qu} {k f : Nat} (h : Ok next S q k 0) (hf : q.met[k]? = some f) (hn : ∀ s, s ∈ next f → s < S) : ∀ b, b ≤ (next f).length → Ok next S (seesTo (next f) f q b) k b ∧ (seesTo (next f) f q b).met[k]? = some f
  | 0, _ => ⟨h, hf⟩
  | b + 1, hb => by
    obtain ⟨h1, h2⟩ := seesTo_ok h hf hn b (by omega)
    have hbl : b < (next f).length := by omega
    have e : (next f).getD b 0 = (next f)[b] := by simp [hbl]
    show Ok next S (see f (seesTo (next f) f q b) b ((next f).getD b 0)) k (b + 1) ∧ (see f (seesTo (next f) f q b) b ((next f).getD b 0)).met[k]? = some f
    rw [e]
    refine see_ok h1 h2 (hn _ (List.getElem_mem hbl)) (List.getElem?_eq_getElem hbl)
/-- one that is met next lies no nearer -/
theorem next_ok {next : Nat → List Nat} {S : Nat} {q : Qu} {k f : Nat} (h : Ok next S q k (next f).length) (hf : q.met[k]? = some f) : Ok next S q (k + 1) 0 := by
  refine { h with near := ?_, done := ?_, part := fun _ _ _ _ hi _ => absurd hi (by omega) }
  · intro g s hg hs
    have h1 := h.near f s hf hs
    have h2 := h.mono k (k + 1) f g (by omega) hf hg
    omega
  · intro j g u hj hg hu
    by_cases hjk : j < k
    · exact h.done j g u hjk hg hu
    · have : j = k := by omega
      subst this
      rw [hf] at hg
      cases hg
      obtain ⟨i, hi, rfl⟩ := List.getElem_of_mem hu
      exact h.part f i _ hf hi (List.getElem?_eq_getElem hi)
theorem begin_ok (next : Nat → List Nat) (S : Nat) (hS : 1 ≤ S) : Ok next S (begin S) 0 0 := by
  have h0 : (begin S).at_ 0 = ⟨0, 0, 0⟩ := by
    unfold begin Qu.at_
    rw [List.getD_eq_getElem?_getD, List.getElem?_set_self (by simp; omega)]; rfl
  have hm : ∀ s, s ∈ (begin S).met → s = 0 := fun s hs => by simpa [begin] using hs
  have hg : ∀ (i s : Nat), (begin S).met[i]? = some s → i = 0 ∧ s = 0 := fun i s hi => by
    cases i with
    | zero => simp [begin] at hi; exact ⟨rfl, hi.symm⟩
    | succ i => simp [begin] at hi
  refine ⟨by simp [begin], by simp [begin], ?_, ?_, ?_, rfl, by rw [h0], ?_, ?_, ?_, ?_, ?_, ?_⟩
  · intro s hs; rw [hm s hs]; omega
  · intro s hs; rw [hm s hs, h0]; decide
  · intro s hs hn
    have hne : s ≠ 0 := fun e => hn (by simp [begin, e])
    unfold begin Qu.at_
    rw [List.getD_eq_getElem?_getD, List.getElem?_set_ne (fun e => hne e.symm), List.getElem?_replicate, if_pos hs]; rfl
  · intro s hs hne; exact absurd (hm s hs) hne
  · intro i j s t _ hi hj; rw [(hg i s hi).2, (hg j t hj).2]; exact Int.le_refl _
  · intro i s hi; rw [(hg i s hi).2, (hg i s hi).1, h0]; decide
  · intro f s hf hs; rw [hm s hs, (hg _ f hf).2, h0]; decide
  · intro j f u hj; omega
  · intro f i u _ hi; omega
theorem Ok.many {next : Nat → List Nat} {S : Nat} {q : Qu} {k b : Nat} (h : Ok next S q k b) : q.met.length ≤ S := by
  have h1 : q.met ⊆ List.range S := fun s hs => List.mem_range.2 (h.lt s hs)
  have := h.nd.length_le_of_subset h1
  simpa using this
theorem rounds_ok {next : Nat → List Nat} {S : Nat} {q : Qu} (h : Ok next S q 0 0) (hn : ∀ f s, f < S → s ∈ next f → s < S) : ∀ k, Ok next S (rounds next q k) k 0
  | 0 => h
  | k + 1 => by
    have ih := rounds_ok h hn k
    cases hm : (rounds next q k).met[k]? with
    | some f =>
      have e : rounds next q (k + 1) = seesTo (next f) f (rounds next q k) (next f).length := by rw [rounds, hm]
      rw [e]
      obtain ⟨h1, h2⟩ := seesTo_ok ih hm (fun s hs => hn f s (ih.lt f (List.mem_of_getElem? hm)) hs) (next f).length (Nat.le_refl _)
      exact next_ok h1 h2
    | none =>
      have e : rounds next q (k + 1) = rounds next q k := by rw [rounds, hm]
      rw [e]
      have hl : (rounds next q k).met.length ≤ k := List.getElem?_eq_none_iff.1 hm
      refine { ih with near := ?_, done := ?_, part := fun _ _ _ _ hi _ => absurd hi (by omega) }
      · intro f s hf; have := (List.getElem?_eq_some_iff.1 hf).1; omega
      · intro j f u hj hf hu
        have := (List.getElem?_eq_some_iff.1 hf).1
        exact ih.done j f u (by omega) hf hu
theorem rounds_stay {next : Nat → List Nat} {q : Qu} (k : Nat) (h : (rounds next q k).met.length ≤ k) : ∀ j, rounds next q (k + j) = rounds next q k
  | 0 => rfl
  | j + 1 => by
    have ih := rounds_stay k h j
    have hm : (rounds next q (k + j)).met[k + j]? = none := by rw [ih]; exact List.getElem?_eq_none_iff.2 (by omega)
    show rounds next q (k + j + 1) = _
    rw [rounds, hm]; exact ih
/-- all is gone to -/
structure Far (next : Nat → List Nat) (S : Nat) (q : Qu) : Prop where
  len : q.steps.length = S
  low : ∀ s, s < S → -1 ≤ (q.at_ s).far ∧ (q.at_ s).far < S ∧ ((q.at_ s).far < 0 → (q.at_ s).far = -1)
  zero : (q.at_ 0).far = 0
  one : ∀ s, s < S → (q.at_ s).far = 0 → s = 0
  par : ∀ s, s < S → 0 < (q.at_ s).far → (q.at_ s).frm < S ∧ (q.at_ (q.at_ s).frm).far = (q.at_ s).far - 1 ∧ (next (q.at_ s).frm)[(q.at_ s).by_]? = some s
  near : ∀ t u, t < S → 0 ≤ (q.at_ t).far → u ∈ next t → 0 ≤ (q.at_ u).far ∧ (q.at_ u).far ≤ (q.at_ t).far + 1
theorem walk_far (next : Nat → List Nat) (S : Nat) (hS : 1 ≤ S) (hn : ∀ f s, f < S → s ∈ next f → s < S) : Far next S (walk next S) := by
  have h : Ok next S (walk next S) S 0 := rounds_ok (begin_ok next S hS) hn S
  have hm := h.many
  have hin : ∀ s, s < S → 0 ≤ ((walk next S).at_ s).far → s ∈ (walk next S).met := fun s hs h0 => by
    refine Classical.byContradiction fun hx => ?_
    rw [h.nev s hs hx] at h0
    exact absurd h0 (by decide)
  have hlow : ∀ s, s ∈ (walk next S).met → 0 ≤ ((walk next S).at_ s).far ∧ ((walk next S).at_ s).far < S := fun s hs => by
    obtain ⟨i, hi, rfl⟩ := List.getElem_of_mem hs
    have := h.up i _ (List.getElem?_eq_getElem hi)
    exact ⟨h.vis _ hs, by omega⟩
  refine ⟨h.len, ?_, h.zero, ?_, ?_, ?_⟩
  · intro s hs
    by_cases hx : s ∈ (walk next S).met
    · have := hlow s hx; omega
    · rw [h.nev s hs hx]; refine ⟨by decide, by simp only; omega, fun _ => rfl⟩
  · intro s hs h0
    refine Classical.byContradiction fun hne => ?_
    obtain ⟨p1, p2, _⟩ := h.par s (hin s hs (by omega)) hne
    have := h.vis _ p1
    omega
  · intro s hs h0
    have hne : s ≠ 0 := fun e => by subst e; rw [h.zero] at h0; omega
    obtain ⟨p1, p2, p3⟩ := h.par s (hin s hs (by omega)) hne
    exact ⟨h.lt _ p1, by omega, p3⟩
  · intro t u ht h0 hu
    obtain ⟨j, hj, e⟩ := List.getElem_of_mem (hin t ht h0)
    obtain ⟨d1, d2⟩ := h.done j t u (by omega) (by rw [List.getElem?_eq_getElem hj, e]) hu
    exact ⟨h.vis u d1, d2⟩
/-- the inputs of the way to a state, from the last one back -/
def pathOf (q : Qu) : Nat → Nat → List Nat
  | 0, _ => []
  | n + 1, s => pathOf q n (q.at_ s).frm ++ [(q.at_ s).by_]
theorem pathOf_len (q : Qu) : ∀ n s, (pathOf q n s).length = n
  | 0, _ => rfl
  | n + 1, s => by simp [pathOf, pathOf_len q n]
/-- where inputs lead to -/
def go (next : Nat → List Nat) : Nat → List Nat → Nat
  | s, [] => s
  | s, i :: l => go next ((next s).getD i 0) l
theorem go_snoc (next : Nat → List Nat) : ∀ (s : Nat) (l : List Nat) (i : Nat), go next s (l ++ [i]) = (next (go next s l)).getD i 0
  | _, [], _ => rfl
  | s, a :: l, i => by show go next _ (l ++ [i]) = _; rw [go_snoc]; rfl
/-- a path leads to its state -/
theorem path_goes {next : Nat → List Nat} {S : Nat} {q : Qu} (h : Far next S q) : ∀ (n s : Nat), s < S → (q.at_ s).far = n → go next 0 (pathOf q n s) = s ∧ (∀ j, j ≤ n → go next 0 ((pathOf q n s).take j) < S ∧ (q.at_ (go next 0 ((pathOf q n s).take j))).far = j) ∧ ∀ j (i : Nat), (pathOf q n s)[j]? = some i → i < (next (go next 0 ((pathOf q n s).take j))).length
  | 0, s, hs, hf => by
    have := h.one s hs hf
    subst this
    refine ⟨rfl, fun j hj => ?_, fun j i hi => by simp [pathOf] at hi⟩
    have : j = 0 := by omega
    subst this
    exact ⟨hs, h.zero⟩
  | n + 1, s, hs, hf => by
    obtain ⟨p1, p2, p3⟩ := h.par s hs (by omega)
    obtain ⟨g1, g2, g3⟩ := path_goes h n (q.at_ s).frm p1 (by omega)
    have hl := pathOf_len q n (q.at_ s).frm
    have e1 : go next 0 (pathOf q (n + 1) s) = s := by
      show go next 0 (pathOf q n (q.at_ s).frm ++ [(q.at_ s).by_]) = s
      rw [go_snoc, g1, List.getD_eq_getElem?_getD, p3]; rfl
    refine ⟨e1, fun j hj => ?_, fun j i hi => ?_⟩
    · by_cases hjn : j ≤ n
      · have e : (pathOf q (n + 1) s).take j = (pathOf q n (q.at_ s).frm).take j := by
          show (pathOf q n (q.at_ s).frm ++ [(q.at_ s).by_]).take j = _
          rw [List.take_append_of_le_length (by omega)]
        rw [e]; exact g2 j hjn
      · have : j = n + 1 := by omega
        subst this
        rw [List.take_of_length_le (by rw [pathOf_len]; exact Nat.le_refl _), e1]
        exact ⟨hs, hf⟩
    · have hjl : j < n + 1 := by have := (List.getElem?_eq_some_iff.1 hi).1; rw [pathOf_len] at this; exact this
      have e : (pathOf q (n + 1) s).take j = (pathOf q n (q.at_ s).frm).take j := by
        show (pathOf q n (q.at_ s).frm ++ [(q.at_ s).by_]).take j = _
        rw [List.take_append_of_le_length (by omega)]
      rw [e]
      by_cases hjn : j < n
      · refine g3 j i ?_
        have h2 : (pathOf q n (q.at_ s).frm ++ [(q.at_ s).by_])[j]? = some i := hi
        rw [List.getElem?_append_left (by omega)] at h2; exact h2
      · have : j = n := by omega
        subst this
        have h2 : (pathOf q j (q.at_ s).frm ++ [(q.at_ s).by_])[j]? = some i := hi
        rw [List.getElem?_append_right (by omega), hl, Nat.sub_self] at h2
        simp at h2
        subst h2
        rw [List.take_of_length_le (by omega), g1]
        exact (List.getElem?_eq_some_iff.1 p3).1
end Rc
end
end Go.Proofs.YtkfikffnljnepaaGreatDoor
