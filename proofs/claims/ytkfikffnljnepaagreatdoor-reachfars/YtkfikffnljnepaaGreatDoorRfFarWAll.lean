/-
  The walks of Place, and of the law's own at. The walk of the statements' own at: is an error this fault? The walk of the statements' own bare; own rows of numbers as slices. The walk of the law's own sameInts, at two like lists. Slices of slices of numbers in memory. Plain mathematics: a machine plays as its program does. Plain mathematics of chapter 5: states are gone to from the first one on, the nearest ones first. A machine's table, state by state, as it lies in memory. The document's table of what comes of which, in plain words: it is package machine's. How far states are, told by what holds of it: there is but one such table. The walk of the document's Far.
-/
import Derived.Test.YtkfikffnljnepaaGreatDoorLdTakeAll
import Derived.WalkMore
import Derived.Test.YtkfikffnljnepaaGreatDoorNdNamedAll
import Derived.Test.YtkfikffnljnepaaGreatDoorRlEdgesAll
import Derived.Test.YtkfikffnljnepaaGreatDoorRdListAll
import Derived.Test.YtkfikffnljnepaaGreatDoorRfStateMAll
import Derived.Test.YtkfikffnljnepaaGreatDoorMcOffAll
import Derived.Test.YtkfikffnljnepaaGreatDoorScTwoAll
import Derived.Test.YtkfikffnljnepaaGreatDoorNaEdgesAll
import Derived.Deep.LoopGhost
namespace Go.Proofs.YtkfikffnljnepaaGreatDoor
section
namespace ErAs
open Go.RowKit
/-- an error that the program hands back, its Errno and its place -/
def ErrAt (er : Value) (n pl : Int) (w : World) : Prop := (er = .iface 35 (.int .i64 n) ∧ pl = -1) ∨ ∃ a, er = .iface 129 (.pointer (some ⟨a, 0, none⟩)) ∧ w.cell? ⟨a, 0, none⟩ = some (.int .i64 n) ∧ w.cell? ⟨a, 1, none⟩ = some (.int .i64 pl)
theorem ErrAt.finds {er : Value} {n pl : Int} {w : World} (h : ErrAt er n pl w) : Finds er n w := by
  rcases h with ⟨h, _⟩ | ⟨a, h, h1, _⟩
  · exact .inl h
  · exact .inr ⟨_, h, h1⟩
set_option maxHeartbeats 2000000 in
set_option maxRecDepth 100000 in
theorem Place_any (er : Value) (n pl : Int) (w : World) (hg : Door w) (hf : ErrAt er n pl w) :
    Calls Tryz.prog 51 #[er] w fun e w' => e = .returned (.tuple #[.int .i64 n, .int .i64 pl]) ∧ Below w.heap.size w w' := by
  have HC := hide (Tell_any er n w hg hf.finds)
  clear hg
  rcases hf with ⟨rfl, rfl⟩ | ⟨a, rfl, h0, h1⟩
  · have sE := atE
    have sU := unE
    go_enter Tryz.func51, Tryz.ntmps51
    go_wp2_with fail
    refine HC.out.mono ?_
    rintro e w1 ⟨rfl, hb⟩
    have HB := hide hb
    clear hb HC
    go_wp2_with fail
    refine wp_loop_rounds 1 ?_
    rw [rounds_succ]
    go_wp2_with fail
    refine bodyPost_ret_by (v := .tuple #[.int .i64 n, .int .i64 (-1)]) ?_ rfl ⟨rfl, HB.out⟩
    simp [results, Tryz.results51, go_sem]
  · have sA := atA
    go_enter Tryz.func51, Tryz.ntmps51
    go_wp2_with fail
    refine HC.out.mono ?_
    rintro e w1 ⟨rfl, hb⟩
    have HB := hide hb
    have h1' := (hb.cell (World.block_lt_of_cell? _ _ h1)).trans h1
    clear hb HC h0 h1
    go_wp2_with fail
    refine wp_loop_rounds 1 ?_
    rw [rounds_succ]
    go_wp2_with fail
    go_quiet (fail)
    go_wp2_with fail
    refine bodyPost_ret_by (v := .tuple #[.int .i64 n, .int .i64 pl]) ?_ rfl ⟨rfl, ⟨HB.out.os, HB.out.tape, HB.out.output, HB.out.size, HB.out.block⟩⟩
    simp [results, Tryz.results51, go_sem]
end ErAs
end
section
open Go.RowKit ErAs
set_option maxHeartbeats 2000000 in
set_option maxRecDepth 100000 in
theorem at_any (er : Value) (n pl : Int) (w : World) (hg : Door w) (hf : ErrAt er n pl w) :
    Calls Tryz.prog 23 #[er, faultV n pl] w fun e w' => e = .returned (.bool true) ∧ Below w.heap.size w w' := by
  obtain ⟨w1, hw1⟩ : ∃ w1, w1 = w.alloc (.cells #[.int .i64 n, .int .i64 pl] 76) := ⟨_, rfl⟩
  have hb1 : Below w.heap.size w w1 := by rw [hw1]; exact (Below.refl _ _).alloc (Nat.le_refl _) _
  have hg1 : Door w1 := (hb1.cell (World.block_lt_of_cell? _ _ hg)).trans hg
  have hf1 : ErrAt er n pl w1 := by
    rcases hf with h | ⟨a, h, h1, h2⟩
    · exact .inl h
    · exact .inr ⟨a, h, (hb1.cell (World.block_lt_of_cell? _ _ h1)).trans h1, (hb1.cell (World.block_lt_of_cell? _ _ h2)).trans h2⟩
  have HC := hide (Place_any er n pl w1 hg1 hf1)
  have hh : w1.heap[w.heap.size]? = some (.cells #[.int .i64 n, .int .i64 pl] 76 (0, 0)) := by rw [hw1]; exact heap_alloc_new _ _
  have HH := hide hh
  have HS1 : Hid (w1.heap.size = w.heap.size + 1) := by show _ = _; rw [hw1]; simp
  obtain ⟨te, ve, hte⟩ : ∃ te ve, er = .iface te ve := by
    rcases hf with ⟨rfl, _⟩ | ⟨q, rfl, _⟩
    · exact ⟨_, _, rfl⟩
    · exact ⟨_, _, rfl⟩
  subst hte
  have HB1 := hide hb1
  have HW1 := hide hw1
  rw [hw1] at HC
  unfold faultV
  clear hg hf hg1 hf1 hb1 hw1 hh
  go_enter Tryz.func23, Tryz.ntmps23
  go_wp2_with fail
  refine HC.out.mono ?_
  rintro e w2 ⟨rfl, hb⟩
  rw [← HW1.out] at hb
  have c0 : w2.cell? ⟨w.heap.size, 0, none⟩ = some (.int .i64 n) := by rw [hb.cell (p := ⟨w.heap.size, 0, none⟩) (by rw [HS1.out]; simp), Lib.cell_of_heap HH.out]; rfl
  have c1 : w2.cell? ⟨w.heap.size, 1, none⟩ = some (.int .i64 pl) := by rw [hb.cell (p := ⟨w.heap.size, 1, none⟩) (by rw [HS1.out]; simp), Lib.cell_of_heap HH.out]; rfl
  have HB := hide hb
  clear hb HC
  go_wp2_with fail
  go_ret
  exact ⟨ret_bool (by simp), HB1.out.trans (HB.out.mono HB1.out.size)⟩
end
section
open Go.RowKit
namespace Sl
set_option maxHeartbeats 2000000 in
theorem lbare_any (n : Int) (w : World) (hg : ErAs.Door w) : Calls Tryz.prog 10 #[.iface 35 (.int .i64 n), .int .i64 n] w fun e w' => e = .returned (.bool true) ∧ Below w.heap.size w w' := by
  have HBA := hide (rbare_any n w)
  have HG := hide hg
  clear hg
  go_enter Tryz.func10, Tryz.ntmps10
  go_wp2_with fail
  refine HBA.out.mono ?_
  rintro e w1 ⟨rfl, hb1⟩
  have HAT := hide (at_any (.iface 35 (.int .i64 n)) n (-1) w1 ((hb1.cell (World.block_lt_of_cell? _ _ HG.out)).trans HG.out) (.inl ⟨rfl, rfl⟩))
  have HB1 := hide hb1
  unfold faultV at HAT ⊢
  clear hb1 HBA
  go_wp2_with fail
  refine HAT.out.mono ?_
  rintro e w2 ⟨rfl, hb2⟩
  have HB2 := hide (HB1.out.trans (hb2.mono HB1.out.size))
  clear hb2 HAT
  go_wp2_with fail
  go_ret
  exact ⟨rfl, HB2.out⟩
theorem own_ints {W : World} {q : Nat} {v : Value} {l : List Nat} (h : W.ownsRow q 3 1 v l.length (l.map intV)) (hl : ∀ i, i ∈ l → i ≤ 1000) : Ints W v (l.map fun i : Nat => (i : Int)) := by
  rcases h.2 with ⟨rfl, h0⟩ | ⟨g, cap, cur, rfl, _, hcur, hcap, _, _, htk⟩
  · exact .inl ⟨by rw [List.length_eq_zero_iff.1 h0]; rfl, _, _, rfl⟩
  · refine .inr ⟨g, 0, cap, by simp, by simpa using hcap, fun k x hx => ?_⟩
    rw [List.getElem?_map] at hx
    cases hk : l[k]? with
    | none => rw [hk] at hx; cases hx
    | some i =>
      rw [hk] at hx
      simp only [Option.map_some, Option.some.injEq] at hx
      subst hx
      have := hl i (List.mem_of_getElem? hk)
      exact ⟨by rw [Nat.zero_add]; exact row_cell hcur htk (by rw [List.getElem?_map, hk]; rfl), by unfold I64; omega⟩
end Sl
end
section
open Go.RowKit
set_option maxHeartbeats 2000000 in
set_option maxRecDepth 100000 in
theorem lsameI_any (l : List Int) (u v : Value) (w : World) (hu : Ints w u l) (hv : Ints w v l) (hl : l.length ≤ 1000000) :
    Calls Tryz.prog 7 #[u, v] w fun e w' => e = .returned (.bool true) ∧ Below w.heap.size w w' := by
  have HU := hide hu
  have HV := hide hv
  obtain ⟨n, hn⟩ : ∃ n, n = l.length := ⟨_, rfl⟩
  have HN := hide hn
  obtain ⟨ua, uc, rfl⟩ := hu.slice
  obtain ⟨va, vc, rfl⟩ := hv.slice
  rw [← hn] at HU HV hl ⊢
  clear hu hv hn
  go_enter Tryz.func7, Tryz.ntmps7
  go_wp2_with fail
  go_loopw [5] (fun i wr => ∃ k : Nat, k ≤ n ∧ i = .int .i64 (k : Int) ∧ Hid (Below w.heap.size w wr)) (fun i _ => n - (intOf i).toNat)
  case atStart => exact ⟨0, Nat.zero_le _, rfl, Below.refl _ _⟩
  case round =>
    obtain ⟨k, hk, rfl, HB⟩ := hrel
    by_cases hlt : k < n
    · have hkl : k < l.length := by rw [← HN.out]; exact hlt
      have hx := List.getElem?_eq_getElem hkl
      obtain ⟨g1, o1, e1, d1⟩ := (HU.out.below HB.out).cell k _ hx
      obtain ⟨g2, o2, e2, d2⟩ := (HV.out.below HB.out).cell k _ hx
      subst e1
      subst e2
      generalize l[k] = x at *
      clear hx
      go_wp2_with fail
      go_quiet (fail)
      go_wp2_with fail
      go_roundw
      case rel => exact ⟨k + 1, by omega, by go_num, HB.out.trans ⟨rfl, rfl, rfl, Nat.le_refl _, fun _ _ => rfl⟩⟩
      case measure => simp [intOf]; omega
    · have hkn : k = n := by omega
      subst hkn
      go_wp2_with fail
      go_ret
      exact ⟨rfl, HB.out⟩
end
section
namespace Rf
open Go.RowKit
def RowsI (W : World) (v : Value) (L : List (List Int)) : Prop :=
  (L = [] ∧ ∃ a cap, v = .slice a 0 cap) ∨ ∃ g cap, v = .slice (some ⟨g, 0, none⟩) L.length cap ∧ L.length ≤ cap ∧ ∀ (k : Nat) r, L[k]? = some r → ∃ u, W.cell? ⟨g, k, none⟩ = some u ∧ Ints W u r
theorem RowsI.below {W W' : World} {v : Value} {L : List (List Int)} (h : RowsI W v L) (hb : Below W.heap.size W W') : RowsI W' v L := by
  rcases h with h | ⟨g, cap, h1, h2, h3⟩
  · exact .inl h
  · refine .inr ⟨g, cap, h1, h2, fun k r hr => ?_⟩
    obtain ⟨u, h4, h5⟩ := h3 k r hr
    exact ⟨u, (hb.cell (World.block_lt_of_cell? _ _ h4)).trans h4, h5.below hb⟩
theorem RowsI.slice {W : World} {v : Value} {L : List (List Int)} (h : RowsI W v L) : ∃ a c, v = .slice a L.length c := by
  rcases h with ⟨rfl, a, c, rfl⟩ | ⟨g, cap, h1, _⟩
  · exact ⟨a, c, rfl⟩
  · exact ⟨_, _, h1⟩
theorem RowsI.at_ {W : World} {a : Option Addr} {n c : Nat} {L : List (List Int)} (h : RowsI W (.slice a n c) L) (k : Nat) (r : List Int) (hr : L[k]? = some r) : ∃ g u, a = some ⟨g, 0, none⟩ ∧ n ≤ c ∧ W.cell? ⟨g, k, none⟩ = some u ∧ Ints W u r := by
  rcases h with ⟨h0, _⟩ | ⟨g, cap, h1, h2, h3⟩
  · rw [h0] at hr; simp at hr
  · simp only [Value.slice.injEq] at h1
    obtain ⟨u, h4, h5⟩ := h3 k r hr
    exact ⟨g, u, h1.1, by rw [h1.2.1, h1.2.2]; exact h2, h4, h5⟩
def asI (l : List Nat) : List Int := l.map fun i : Nat => (i : Int)
theorem ints_nat {W : World} {q : Nat} {v : Value} {l : List Nat} (h : W.ownsRow q 3 1 v l.length (l.map intV)) (hl : ∀ i, i ∈ l → i ≤ 1000000) : Ints W v (asI l) := by
  rcases h.2 with ⟨rfl, h0⟩ | ⟨g, cap, cur, rfl, _, hcur, hcap, _, _, htk⟩
  · exact .inl ⟨by rw [List.length_eq_zero_iff.1 h0]; rfl, _, _, rfl⟩
  · refine .inr ⟨g, 0, cap, by simp [asI], by simpa [asI] using hcap, fun k x hx => ?_⟩
    unfold asI at hx
    rw [List.getElem?_map] at hx
    cases hk : l[k]? with
    | none => rw [hk] at hx; cases hx
    | some i =>
      rw [hk] at hx
      simp only [Option.map_some, Option.some.injEq] at hx
      subst hx
      have := hl i (List.mem_of_getElem? hk)
      exact ⟨by rw [Nat.zero_add]; exact row_cell hcur htk (by rw [List.getElem?_map, hk]; rfl), by unfold I64; omega⟩
theorem IntR.rowsI {q : Nat} {W : World} {o : Value} {us : List Value} {bs : List (List Nat)} (h : IntR q W o us bs) (hl : ∀ b, b ∈ bs → ∀ i, i ∈ b → i ≤ 1000000) : RowsI W o (bs.map asI) := by
  rcases h.own.2 with ⟨rfl, h0⟩ | ⟨g, cap, cur, rfl, _, hcur, hcap, _, _, htk⟩
  · exact .inl ⟨by rw [List.length_eq_zero_iff.1 h0]; rfl, _, _, rfl⟩
  · refine .inr ⟨g, cap, by simp, by simpa using hcap, fun i b hb => ?_⟩
    rw [List.getElem?_map] at hb
    cases hk : bs[i]? with
    | none => rw [hk] at hb; cases hb
    | some x =>
      rw [hk] at hb
      simp only [Option.map_some, Option.some.injEq] at hb
      subst hb
      have hil : i < us.length := by rw [h.len]; exact (List.getElem?_eq_some_iff.1 hk).1
      exact ⟨us[i], row_cell hcur htk (List.getElem?_eq_getElem hil), ints_nat (h.at_ i _ x (List.getElem?_eq_getElem hil) hk) (hl x (List.mem_of_getElem? hk))⟩
/-- a table of rows tells lists -/
theorem LL.rowsI {W : World} {g m n lo : Nat} {us : List Nat} {rows : Nat → List Value} {L : List (List Nat)} (h : LL W g 26 3 m n lo us rows) (hul : us.length = m) (hm : L.length = m) (hr : ∀ (s : Nat) (r : List Nat), L[s]? = some r → rows s = r.map intV ∧ r.length = n) (hl : ∀ b, b ∈ L → ∀ i, i ∈ b → i ≤ 1000000) : RowsI W (slV g m) (L.map asI) := by
  refine .inr ⟨g, m, by simp [slV, hm], by simp [hm], fun i b hb => ?_⟩
  rw [List.getElem?_map] at hb
  cases hk : L[i]? with
  | none => rw [hk] at hb; cases hb
  | some x =>
    rw [hk] at hb
    simp only [Option.map_some, Option.some.injEq] at hb
    subst hb
    have hil : i < us.length := by have := (List.getElem?_eq_some_iff.1 hk).1; omega
    obtain ⟨e1, e2⟩ := hr i x hk
    have hc := h.cell i us[i] (List.getElem?_eq_getElem hil)
    refine ⟨_, hc, ?_⟩
    have hrow := (h.row i us[i] (List.getElem?_eq_getElem hil)).1
    rw [e1] at hrow
    refine .inr ⟨us[i], 0, n, by simp [slV, asI, e2], by simp [asI, e2], fun k y hy => ?_⟩
    unfold asI at hy
    rw [List.getElem?_map] at hy
    cases hk2 : x[k]? with
    | none => rw [hk2] at hy; cases hy
    | some j =>
      rw [hk2] at hy
      simp only [Option.map_some, Option.some.injEq] at hy
      subst hy
      have := hl x (List.mem_of_getElem? hk) j (List.mem_of_getElem? hk2)
      exact ⟨by rw [Nat.zero_add]; exact hrow.cell k _ (by rw [List.getElem?_map, hk2]; rfl), by unfold I64; omega⟩
end Rf
end
section
namespace Mc
theorem number_zero : ∀ (l : List (Nat × Bool)) (n : Nat), number l (List.replicate n false) (List.replicate n 0) = 0
  | [], _ => rfl
  | x :: r, 0 => by
    have ih := number_zero r 0
    show number r [] [] * x.1 + told x false 0 = 0
    have h0 : number r [] [] = 0 := ih
    rw [h0, Nat.zero_mul]; unfold told; split <;> simp
  | x :: r, n + 1 => by
    have ih := number_zero r n
    show number r (List.replicate n false) (List.replicate n 0) * x.1 + told x false 0 = 0
    rw [ih, Nat.zero_mul]; unfold told; split <;> simp
theorem number_start (p : Ld.Prg) : number (parts p) (Sc.start p).is (Sc.start p).ct = 0 := number_zero _ _
/-- a scan out of a state's number is a scan out of the state -/
theorem after1_eq (p : Ld.Prg) (hck : Ld.check p = none) (s : Sc.St) (hb : Sc.Bd p s) (x : Int) (q i : Nat) (hq : q = (Ld.kindL p.names 1).length) (hi : (i : Int) = x % 2 ^ q) : after1 p q (number (parts p) s.is s.ct) i = Sc.step p s (bitsTo x q) := by
  unfold after1
  rw [hi, bitsTo_mod]
  exact (alike_step p hck s _ (bitsTo x q) (alike_number p hck s hb) hb.li (by rw [bitsTo_len]; exact hq)).symm
theorem mod_mod (x : Int) (q : Nat) (hq : q ≤ 60) : x % 18446744073709551616 % (2 ^ q : Nat) = x % 2 ^ q := by
  have h : ((2 ^ q : Nat) : Int) ∣ 18446744073709551616 := by
    refine ⟨((2 ^ (64 - q) : Nat) : Int), ?_⟩
    rw [← Int.natCast_mul, ← Nat.pow_add, show q + (64 - q) = 64 by omega]
    decide
  rw [Int.emod_emod_of_dvd _ h]
  simp
theorem number_after (p : Ld.Prg) (s : Sc.St) (hb : Sc.Bd p s) : number (parts p) s.is s.ct < total (parts p) :=
  number_lt (parts p) s.is s.ct (parts_ok p) (by rw [hb.li, parts_len]) (by rw [hb.lc, parts_len]) (ok_bd p s hb)
end Mc
end
section
namespace Rc
/-- how a state is come to: in how many scans, from which one, by which input -/
structure Stp where
  far : Int
  frm : Nat
  by_ : Nat
structure Qu where
  steps : List Stp
  met : List Nat
def st0 : Stp := ⟨0, 0, 0⟩
def Qu.at_ (q : Qu) (s : Nat) : Stp := q.steps.getD s st0
def see (f : Nat) (q : Qu) (k s : Nat) : Qu := if (q.at_ s).far < 0 then ⟨q.steps.set s ⟨(q.at_ f).far + 1, f, k⟩, q.met ++ [s]⟩ else q
def seesTo (l : List Nat) (f : Nat) (q : Qu) : Nat → Qu
  | 0 => q
  | k + 1 => see f (seesTo l f q k) k (l.getD k 0)
def rounds (next : Nat → List Nat) (q : Qu) : Nat → Qu
  | 0 => q
  | k + 1 => match (rounds next q k).met[k]? with
    | some f => seesTo (next f) f (rounds next q k) (next f).length
    | none => rounds next q k
def begin (S : Nat) : Qu := ⟨(List.replicate S ⟨-1, 0, 0⟩).set 0 ⟨0, 0, 0⟩, [0]⟩
def walk (next : Nat → List Nat) (S : Nat) : Qu := rounds next (begin S) S
/-- what stands while states are gone to: the first k of those met are done, of the next one the first b inputs -/
structure Ok (next : Nat → List Nat) (S : Nat) (q : Qu) (k b : Nat) : Prop where
  len : q.steps.length = S
  nd : q.met.Nodup
  lt : ∀ s, s ∈ q.met → s < S
  vis : ∀ s, s ∈ q.met → 0 ≤ (q.at_ s).far
  nev : ∀ s, s < S → s ∉ q.met → q.at_ s = ⟨-1, 0, 0⟩
  hd : q.met[0]? = some 0
  zero : (q.at_ 0).far = 0
  par : ∀ s, s ∈ q.met → s ≠ 0 → (q.at_ s).frm ∈ q.met ∧ (q.at_ s).far = (q.at_ (q.at_ s).frm).far + 1 ∧ (next (q.at_ s).frm)[(q.at_ s).by_]? = some s
  mono : ∀ (i j s t : Nat), i ≤ j → q.met[i]? = some s → q.met[j]? = some t → (q.at_ s).far ≤ (q.at_ t).far
  up : ∀ (i s : Nat), q.met[i]? = some s → (q.at_ s).far ≤ i
  near : ∀ (f s : Nat), q.met[k]? = some f → s ∈ q.met → (q.at_ s).far ≤ (q.at_ f).far + 1
  done : ∀ (j f u : Nat), j < k → q.met[j]? = some f → u ∈ next f → u ∈ q.met ∧ (q.at_ u).far ≤ (q.at_ f).far + 1
  part : ∀ (f i u : Nat), q.met[k]? = some f → i < b → (next f)[i]? = some u → u ∈ q.met ∧ (q.at_ u).far ≤ (q.at_ f).far + 1
theorem at_set (q : Qu) (s t : Nat) (x : Stp) (m : List Nat) (hs : s < q.steps.length) : (Qu.mk (q.steps.set s x) m).at_ t = if t = s then x else q.at_ t := by
  unfold Qu.at_
  by_cases h : t = s
  · subst h; rw [if_pos rfl, List.getD_eq_getElem?_getD, List.getElem?_set_self hs]; rfl
  · rw [if_neg h, List.getD_eq_getElem?_getD, List.getElem?_set_ne (fun e => h e.symm), List.getD_eq_getElem?_getD]
theorem see_ok {next : Nat → List Nat} {S : Nat} {q : Qu} {k b f s : Nat} (h : Ok next S q k b) (hf : q.met[k]? = some f) (hs : s < S) (hb : (next f)[b]? = some s) : Ok next S (see f q b s) k (b + 1) ∧ (see f q b s).met[k]? = some f := by
  unfold see
  have hfm : f ∈ q.met := List.mem_of_getElem? hf
  have hkl : k < q.met.length := (List.getElem?_eq_some_iff.1 hf).1
  by_cases hv : (q.at_ s).far < 0
  · rw [if_pos hv]
    have hsm : s ∉ q.met := fun hm => by have := h.vis s hm; omega
    have hsl : s < q.steps.length := by rw [h.len]; exact hs
    have hat := fun t => at_set q s t ⟨(q.at_ f).far + 1, f, b⟩ (q.met ++ [s]) hsl
    have hold : ∀ t, t ∈ q.met → (Qu.mk (q.steps.set s ⟨(q.at_ f).far + 1, f, b⟩) (q.met ++ [s])).at_ t = q.at_ t := fun t ht => by
      rw [hat, if_neg]; intro e; subst e; exact hsm ht
    have hnew : (Qu.mk (q.steps.set s ⟨(q.at_ f).far + 1, f, b⟩) (q.met ++ [s])).at_ s = ⟨(q.at_ f).far + 1, f, b⟩ := by rw [hat, if_pos rfl]
    have hget : ∀ (i t : Nat), (q.met ++ [s])[i]? = some t → (i < q.met.length ∧ q.met[i]? = some t ∧ t ∈ q.met) ∨ (i = q.met.length ∧ t = s) := fun i t ht => by
      by_cases hi : i < q.met.length
      · rw [List.getElem?_append_left hi] at ht
        exact .inl ⟨hi, ht, List.mem_of_getElem? ht⟩
      · rw [List.getElem?_append_right (by omega)] at ht
        have hl : i - q.met.length < [s].length := (List.getElem?_eq_some_iff.1 ht).1
        have hi2 : i = q.met.length := by simp at hl; omega
        subst hi2
        simp at ht
        exact .inr ⟨rfl, ht.symm⟩
    have hf2 : (q.met ++ [s])[k]? = some f := by rw [List.getElem?_append_left hkl]; exact hf
    have hfu := h.up k f hf
    refine ⟨⟨by simp [h.len], ?_, ?_, ?_, ?_, ?_, ?_, ?_, ?_, ?_, ?_, ?_, ?_⟩, hf2⟩
    · rw [List.nodup_append]
      exact ⟨h.nd, by simp, fun a ha c hc => by simp at hc; subst hc; intro e; subst e; exact hsm ha⟩
    · intro t ht
      rcases List.mem_append.1 ht with ht | ht
      · exact h.lt t ht
      · simp at ht; subst ht; exact hs
    · intro t ht
      rcases List.mem_append.1 ht with ht | ht
      · rw [hold t ht]; exact h.vis t ht
      · simp at ht; subst ht; rw [hnew]; have := h.vis f hfm; simp only; omega
    · intro t ht hnm
      have h1 : t ∉ q.met := fun hm => hnm (List.mem_append.2 (.inl hm))
      have h2 : t ≠ s := fun e => hnm (List.mem_append.2 (.inr (by simp [e])))
      rw [hat, if_neg h2]; exact h.nev t ht h1
    · rw [List.getElem?_append_left (by omega)]; exact h.hd
    · rw [hold 0 (List.mem_of_getElem? h.hd)]; exact h.zero
    · intro t ht hne
      rcases List.mem_append.1 ht with ht | ht
      · obtain ⟨p1, p2, p3⟩ := h.par t ht hne
        rw [hold t ht, hold _ p1]
        exact ⟨List.mem_append.2 (.inl p1), p2, p3⟩
      · simp at ht; subst ht
        rw [hnew]; simp only
        rw [hold f hfm]
        exact ⟨List.mem_append.2 (.inl hfm), rfl, hb⟩
    · intro i j a c hij ha hc
      rcases hget i a ha with ⟨i1, i2, i3⟩ | ⟨i1, rfl⟩
      · rcases hget j c hc with ⟨j1, j2, j3⟩ | ⟨j1, rfl⟩
        · rw [hold a i3, hold c j3]; exact h.mono i j a c hij i2 j2
        · rw [hold a i3, hnew]; exact h.near f a hf i3
      · rcases hget j c hc with ⟨j1, j2, j3⟩ | ⟨j1, rfl⟩
        · omega
        · exact Int.le_refl _
    · intro i a ha
      rcases hget i a ha with ⟨i1, i2, i3⟩ | ⟨i1, rfl⟩
      · rw [hold a i3]; exact h.up i a i2
      · rw [hnew, i1]; simp only; omega
    · intro g a hg ha
      rw [hf2] at hg
      cases hg
      rw [hold f hfm]
      rcases List.mem_append.1 ha with ha | ha
      · rw [hold a ha]; exact h.near f a hf ha
      · simp at ha; subst ha; rw [hnew]; exact Int.le_refl _
    · intro j g u hj hg hu
      have hjl : j < q.met.length := by omega
      rw [List.getElem?_append_left hjl] at hg
      obtain ⟨d1, d2⟩ := h.done j g u hj hg hu
      rw [hold u d1, hold g (List.mem_of_getElem? hg)]
      exact ⟨List.mem_append.2 (.inl d1), d2⟩
    · intro g i u hg hi hu
      rw [hf2] at hg
      cases hg
      by_cases hib : i < b
      · obtain ⟨d1, d2⟩ := h.part f i u hf hib hu
        rw [hold u d1, hold f hfm]
        exact ⟨List.mem_append.2 (.inl d1), d2⟩
      · have : i = b := by omega
        subst this
        rw [hb] at hu
        cases hu
        rw [hnew, hold f hfm]
        exact ⟨List.mem_append.2 (.inr (by simp)), Int.le_refl _⟩
  · rw [if_neg hv]
    have hsm : s ∈ q.met := by
      refine Classical.byContradiction fun hm => hv ?_
      rw [h.nev s hs hm]; decide
    refine ⟨{ h with part := ?_ }, hf⟩
    intro g i u hg hi hu
    by_cases hib : i < b
    · exact h.part g i u hg hib hu
    · have : i = b := by omega
      subst this
      rw [hf] at hg
      cases hg
      rw [hb] at hu
      cases hu
      exact ⟨hsm, h.near f s hf hsm⟩
theorem seesTo_ok {next : Nat → List Nat} {S : Nat} {q : Qu} {k f : Nat} (h : Ok next S q k 0) (hf : q.met[k]? = some f) (hn : ∀ s, s ∈ next f → s < S) : ∀ b, b ≤ (next f).length → Ok next S (seesTo (next f) f q b) k b ∧ (seesTo (next f) f q b).met[k]? = some f
  | 0, _ => ⟨h, hf⟩
  | b + 1, hb => by
    obtain ⟨h1, h2⟩ := seesTo_ok h hf hn b (by omega)
    have hbl : b < (next f).length := by omega
    have e : (next f).getD b 0 = (next f)[b] := by simp [hbl]
    show Ok next S (see f (seesTo (next f) f q b) b ((next f).getD b 0)) k (b + 1) ∧ (see f (seesTo (next f) f q b) b ((next f).getD b 0)).met[k]? = some f
    rw [e]
    refine see_ok h1 h2 (hn _ (List.getElem_mem hbl)) (List.getElem?_eq_getElem hbl)
/-- one that is met next lies no nearer -/
theorem next_ok {next : Nat → List Nat} {S : Nat} {q : Qu} {k f : Nat} (h : Ok next S q k (next f).length) (hf : q.met[k]? = some f) : Ok next S q (k + 1) 0 := by
  refine { h with near := ?_, done := ?_, part := fun _ _ _ _ hi _ => absurd hi (by omega) }
  · intro g s hg hs
    have h1 := h.near f s hf hs
    have h2 := h.mono k (k + 1) f g (by omega) hf hg
    omega
  · intro j g u hj hg hu
    by_cases hjk : j < k
    · exact h.done j g u hjk hg hu
    · have : j = k := by omega
      subst this
      rw [hf] at hg
      cases hg
      obtain ⟨i, hi, rfl⟩ := List.getElem_of_mem hu
      exact h.part f i _ hf hi (List.getElem?_eq_getElem hi)
theorem begin_ok (next : Nat → List Nat) (S : Nat) (hS : 1 ≤ S) : Ok next S (begin S) 0 0 := by
  have h0 : (begin S).at_ 0 = ⟨0, 0, 0⟩ := by
    unfold begin Qu.at_
    rw [List.getD_eq_getElem?_getD, List.getElem?_set_self (by simp; omega)]; rfl
  have hm : ∀ s, s ∈ (begin S).met → s = 0 := fun s hs => by simpa [begin] using hs
  have hg : ∀ (i s : Nat), (begin S).met[i]? = some s → i = 0 ∧ s = 0 := fun i s hi => by
    cases i with
    | zero => simp [begin] at hi; exact ⟨rfl, hi.symm⟩
    | succ i => simp [begin] at hi
  refine ⟨by simp [begin], by simp [begin], ?_, ?_, ?_, rfl, by rw [h0], ?_, ?_, ?_, ?_, ?_, ?_⟩
  · intro s hs; rw [hm s hs]; omega
  · intro s hs; rw [hm s hs, h0]; decide
  · intro s hs hn
    have hne : s ≠ 0 := fun e => hn (by simp [begin, e])
    unfold begin Qu.at_
    rw [List.getD_eq_getElem?_getD, List.getElem?_set_ne (fun e => hne e.symm), List.getElem?_replicate, if_pos hs]; rfl
  · intro s hs hne; exact absurd (hm s hs) hne
  · intro i j s t _ hi hj; rw [(hg i s hi).2, (hg j t hj).2]; exact Int.le_refl _
  · intro i s hi; rw [(hg i s hi).2, (hg i s hi).1, h0]; decide
  · intro f s hf hs; rw [hm s hs, (hg _ f hf).2, h0]; decide
  · intro j f u hj; omega
  · intro f i u _ hi; omega
theorem Ok.many {next : Nat → List Nat} {S : Nat} {q : Qu} {k b : Nat} (h : Ok next S q k b) : q.met.length ≤ S := by
  have h1 : q.met ⊆ List.range S := fun s hs => List.mem_range.2 (h.lt s hs)
  have := h.nd.length_le_of_subset h1
  simpa using this
theorem rounds_ok {next : Nat → List Nat} {S : Nat} {q : Qu} (h : Ok next S q 0 0) (hn : ∀ f s, f < S → s ∈ next f → s < S) : ∀ k, Ok next S (rounds next q k) k 0
  | 0 => h
  | k + 1 => by
    have ih := rounds_ok h hn k
    cases hm : (rounds next q k).met[k]? with
    | some f =>
      have e : rounds next q (k + 1) = seesTo (next f) f (rounds next q k) (next f).length := by rw [rounds, hm]
      rw [e]
      obtain ⟨h1, h2⟩ := seesTo_ok ih hm (fun s hs => hn f s (ih.lt f (List.mem_of_getElem? hm)) hs) (next f).length (Nat.le_refl _)
      exact next_ok h1 h2
    | none =>
      have e : rounds next q (k + 1) = rounds next q k := by rw [rounds, hm]
      rw [e]
      have hl : (rounds next q k).met.length ≤ k := List.getElem?_eq_none_iff.1 hm
      refine { ih with near := ?_, done := ?_, part := fun _ _ _ _ hi _ => absurd hi (by omega) }
      · intro f s hf; have := (List.getElem?_eq_some_iff.1 hf).1; omega
      · intro j f u hj hf hu
        have := (List.getElem?_eq_some_iff.1 hf).1
        exact ih.done j f u (by omega) hf hu
theorem rounds_stay {next : Nat → List Nat} {q : Qu} (k : Nat) (h : (rounds next q k).met.length ≤ k) : ∀ j, rounds next q (k + j) = rounds next q k
  | 0 => rfl
  | j + 1 => by
    have ih := rounds_stay k h j
    have hm : (rounds next q (k + j)).met[k + j]? = none := by rw [ih]; exact List.getElem?_eq_none_iff.2 (by omega)
    show rounds next q (k + j + 1) = _
    rw [rounds, hm]; exact ih
/-- all is gone to -/
structure Far (next : Nat → List Nat) (S : Nat) (q : Qu) : Prop where
  len : q.steps.length = S
  low : ∀ s, s < S → -1 ≤ (q.at_ s).far ∧ (q.at_ s).far < S ∧ ((q.at_ s).far < 0 → (q.at_ s).far = -1)
  zero : (q.at_ 0).far = 0
  one : ∀ s, s < S → (q.at_ s).far = 0 → s = 0
  par : ∀ s, s < S → 0 < (q.at_ s).far → (q.at_ s).frm < S ∧ (q.at_ (q.at_ s).frm).far = (q.at_ s).far - 1 ∧ (next (q.at_ s).frm)[(q.at_ s).by_]? = some s
  near : ∀ t u, t < S → 0 ≤ (q.at_ t).far → u ∈ next t → 0 ≤ (q.at_ u).far ∧ (q.at_ u).far ≤ (q.at_ t).far + 1
theorem walk_far (next : Nat → List Nat) (S : Nat) (hS : 1 ≤ S) (hn : ∀ f s, f < S → s ∈ next f → s < S) : Far next S (walk next S) := by
  have h : Ok next S (walk next S) S 0 := rounds_ok (begin_ok next S hS) hn S
  have hm := h.many
  have hin : ∀ s, s < S → 0 ≤ ((walk next S).at_ s).far → s ∈ (walk next S).met := fun s hs h0 => by
    refine Classical.byContradiction fun hx => ?_
    rw [h.nev s hs hx] at h0
    exact absurd h0 (by decide)
  have hlow : ∀ s, s ∈ (walk next S).met → 0 ≤ ((walk next S).at_ s).far ∧ ((walk next S).at_ s).far < S := fun s hs => by
    obtain ⟨i, hi, rfl⟩ := List.getElem_of_mem hs
    have := h.up i _ (List.getElem?_eq_getElem hi)
    exact ⟨h.vis _ hs, by omega⟩
  refine ⟨h.len, ?_, h.zero, ?_, ?_, ?_⟩
  · intro s hs
    by_cases hx : s ∈ (walk next S).met
    · have := hlow s hx; omega
    · rw [h.nev s hs hx]; refine ⟨by decide, by simp only; omega, fun _ => rfl⟩
  · intro s hs h0
    refine Classical.byContradiction fun hne => ?_
    obtain ⟨p1, p2, _⟩ := h.par s (hin s hs (by omega)) hne
    have := h.vis _ p1
    omega
  · intro s hs h0
    have hne : s ≠ 0 := fun e => by subst e; rw [h.zero] at h0; omega
    obtain ⟨p1, p2, p3⟩ := h.par s (hin s hs (by omega)) hne
    exact ⟨h.lt _ p1, by omega, p3⟩
  · intro t u ht h0 hu
    obtain ⟨j, hj, e⟩ := List.getElem_of_mem (hin t ht h0)
    obtain ⟨d1, d2⟩ := h.done j t u (by omega) (by rw [List.getElem?_eq_getElem hj, e]) hu
    exact ⟨h.vis u d1, d2⟩
/-- the inputs of the way to a state, from the last one back -/
def pathOf (q : Qu) : Nat → Nat → List Nat
  | 0, _ => []
  | n + 1, s => pathOf q n (q.at_ s).frm ++ [(q.at_ s).by_]
theorem pathOf_len (q : Qu) : ∀ n s, (pathOf q n s).length = n
  | 0, _ => rfl
  | n + 1, s => by simp [pathOf, pathOf_len q n]
/-- where inputs lead to -/
def go (next : Nat → List Nat) : Nat → List Nat → Nat
  | s, [] => s
  | s, i :: l => go next ((next s).getD i 0) l
theorem go_snoc (next : Nat → List Nat) : ∀ (s : Nat) (l : List Nat) (i : Nat), go next s (l ++ [i]) = (next (go next s l)).getD i 0
  | _, [], _ => rfl
  | s, a :: l, i => by show go next _ (l ++ [i]) = _; rw [go_snoc]; rfl
/-- a path leads to its state -/
theorem path_goes {next : Nat → List Nat} {S : Nat} {q : Qu} (h : Far next S q) : ∀ (n s : Nat), s < S → (q.at_ s).far = n → go next 0 (pathOf q n s) = s ∧ (∀ j, j ≤ n → go next 0 ((pathOf q n s).take j) < S ∧ (q.at_ (go next 0 ((pathOf q n s).take j))).far = j) ∧ ∀ j (i : Nat), (pathOf q n s)[j]? = some i → i < (next (go next 0 ((pathOf q n s).take j))).length
  | 0, s, hs, hf => by
    have := h.one s hs hf
    subst this
    refine ⟨rfl, fun j hj => ?_, fun j i hi => by simp [pathOf] at hi⟩
    have : j = 0 := by omega
    subst this
    exact ⟨hs, h.zero⟩
  | n + 1, s, hs, hf => by
    obtain ⟨p1, p2, p3⟩ := h.par s hs (by omega)
    obtain ⟨g1, g2, g3⟩ := path_goes h n (q.at_ s).frm p1 (by omega)
    have hl := pathOf_len q n (q.at_ s).frm
    have e1 : go next 0 (pathOf q (n + 1) s) = s := by
      show go next 0 (pathOf q n (q.at_ s).frm ++ [(q.at_ s).by_]) = s
      rw [go_snoc, g1, List.getD_eq_getElem?_getD, p3]; rfl
    refine ⟨e1, fun j hj => ?_, fun j i hi => ?_⟩
    · by_cases hjn : j ≤ n
      · have e : (pathOf q (n + 1) s).take j = (pathOf q n (q.at_ s).frm).take j := by
          show (pathOf q n (q.at_ s).frm ++ [(q.at_ s).by_]).take j = _
          rw [List.take_append_of_le_length (by omega)]
        rw [e]; exact g2 j hjn
      · have : j = n + 1 := by omega
        subst this
        rw [List.take_of_length_le (by rw [pathOf_len]; exact Nat.le_refl _), e1]
        exact ⟨hs, hf⟩
    · have hjl : j < n + 1 := by have := (List.getElem?_eq_some_iff.1 hi).1; rw [pathOf_len] at this; exact this
      have e : (pathOf q (n + 1) s).take j = (pathOf q n (q.at_ s).frm).take j := by
        show (pathOf q n (q.at_ s).frm ++ [(q.at_ s).by_]).take j = _
        rw [List.take_append_of_le_length (by omega)]
      rw [e]
      by_cases hjn : j < n
      · refine g3 j i ?_
        have h2 : (pathOf q n (q.at_ s).frm ++ [(q.at_ s).by_])[j]? = some i := hi
        rw [List.getElem?_append_left (by omega)] at h2; exact h2
      · have : j = n := by omega
        subst this
        have h2 : (pathOf q j (q.at_ s).frm ++ [(q.at_ s).by_])[j]? = some i := hi
        rw [List.getElem?_append_right (by omega), hl, Nat.sub_self] at h2
        simp at h2
        subst h2
        rw [List.take_of_length_le (by omega), g1]
        exact (List.getElem?_eq_some_iff.1 p3).1
end Rc
end
section
open Go.RowKit
/-- where a state leads to, input by input -/
def Mc.nexts (p : Ld.Prg) (s : Nat) : List Nat := (List.range (2 ^ (Ld.kindL p.names 1).length)).map fun i => Mc.number (Mc.parts p) (Mc.after1 p (Ld.kindL p.names 1).length s i).is (Mc.after1 p (Ld.kindL p.names 1).length s i).ct
theorem Mc.nexts_len (p : Ld.Prg) (s : Nat) : (Mc.nexts p s).length = 2 ^ (Ld.kindL p.names 1).length := by simp [Mc.nexts]
theorem Mc.nexts_row (p : Ld.Prg) (s : Nat) : Mc.nextRow p (Ld.kindL p.names 1).length (2 ^ (Ld.kindL p.names 1).length) s = (Mc.nexts p s).map intV := by simp [Mc.nexts, Mc.nextRow, intV]
theorem Mc.nexts_lt (p : Ld.Prg) (hck : Ld.check p = none) (s x : Nat) (h : x ∈ Mc.nexts p s) : x < Mc.total (Mc.parts p) := by
  unfold Mc.nexts at h
  obtain ⟨i, _, rfl⟩ := List.mem_map.1 h
  exact Mc.number_after p _ (Sc.step_bd p hck _ _ (Mc.state_bd p hck s) (bitsTo_len _ _)).1
/-- a machine's table: from each state, by each input -/
def NextAt (W : World) (bm S I : Nat) (next : Nat → List Nat) (gN : Nat) (uN : List Nat) : Prop := W.cell? ⟨bm, 4, none⟩ = some (.slice (some ⟨gN, 0, none⟩) S S) ∧ uN.length = S ∧ ∀ (s b : Nat), uN[s]? = some b → W.cell? ⟨gN, s, none⟩ = some (.slice (some ⟨b, 0, none⟩) I I) ∧ ∀ (i x : Nat), (next s)[i]? = some x → W.cell? ⟨b, i, none⟩ = some (.int .i64 (x : Int))
theorem NextAt.below {W W' : World} {bm S I gN : Nat} {next : Nat → List Nat} {uN : List Nat} (h : NextAt W bm S I next gN uN) (hb : Below W.heap.size W W') : NextAt W' bm S I next gN uN :=
  have key : ∀ (p : Addr) v, W.cell? p = some v → W'.cell? p = some v := fun _ _ hv => (hb.cell (World.block_lt_of_cell? _ _ hv)).trans hv
  ⟨key _ _ h.1, h.2.1, fun s b hs => ⟨key _ _ (h.2.2 s b hs).1, fun i x hx => key _ _ ((h.2.2 s b hs).2 i x hx)⟩⟩
/-- a slice of one that the call has built -/
theorem own_one (W : World) (q : Nat) (e : TypeId) (v : Value) (hq : q ≤ W.heap.size) : (W.alloc (.cells #[v] e)).ownsRow q e 1 (.slice (some ⟨W.heap.size, 0, none⟩) 1 1) 1 [v] :=
  ⟨by simp, .inr ⟨W.heap.size, 1, #[v], rfl, hq, heap_alloc_new W _, Nat.le_refl _, by decide, by simp, by simp⟩⟩
end
section
namespace Rf
open Go.RowKit
theorem nextL_is (p : Ld.Prg) (hck : Ld.check p = none) (s : Nat) : nextL p (2 ^ (Ld.kindL p.names 1).length) s = Mc.nexts p s := by
  unfold nextL Mc.nexts
  exact List.map_congr_left fun i _ => nxt_is p hck s i
theorem nextsL_small (p : Ld.Prg) (hck : Ld.check p = none) (S I : Nat) (hS : Mc.total (Mc.parts p) ≤ 4096) : ∀ b, b ∈ nextsL p S I → ∀ i, i ∈ b → i ≤ 1000000 := fun b hb i hi => by
  obtain ⟨s, _, rfl⟩ := List.mem_map.1 hb
  obtain ⟨j, _, rfl⟩ := List.mem_map.1 hi
  have h := (nxt_small p hck s j hS).1 0 (Nat.zero_le _)
  rw [numAt_zero] at h
  exact h
theorem nextsL_map (p : Ld.Prg) (hck : Ld.check p = none) (S : Nat) : (nextsL p S (2 ^ (Ld.kindL p.names 1).length)).map asI = (List.range S).map fun s => asI (Mc.nexts p s) := by
  unfold nextsL
  rw [List.map_map]
  exact List.map_congr_left fun s _ => by show asI _ = asI _; rw [nextL_is p hck]
end Rf
end
section
namespace Rf
/-- d tells how far each state is -/
structure Dist (next : Nat → List Nat) (S : Nat) (d : Nat → Int) : Prop where
  low : ∀ s, s < S → d s = -1 ∨ 0 ≤ d s
  zero : d 0 = 0
  one : ∀ s, s < S → d s = 0 → s = 0
  par : ∀ s, s < S → 0 < d s → ∃ t, t < S ∧ d t = d s - 1 ∧ s ∈ next t
  near : ∀ t u, t < S → 0 ≤ d t → u ∈ next t → 0 ≤ d u ∧ d u ≤ d t + 1
theorem Dist.le {next : Nat → List Nat} {S : Nat} {d e : Nat → Int} (h : Dist next S d) (k : Dist next S e) : ∀ (n s : Nat), s < S → d s = (n : Int) → 0 ≤ e s ∧ e s ≤ (n : Int)
  | 0, s, hs, hd => by
    have := h.one s hs hd
    subst this
    rw [k.zero]
    omega
  | n + 1, s, hs, hd => by
    obtain ⟨t, ht, h1, h2⟩ := h.par s hs (by omega)
    have h3 := Dist.le h k n t ht (by omega)
    have h4 := k.near t s ht h3.1 h2
    omega
theorem Dist.same {next : Nat → List Nat} {S : Nat} {d e : Nat → Int} (h : Dist next S d) (k : Dist next S e) (s : Nat) (hs : s < S) : d s = e s := by
  rcases h.low s hs with h1 | h1
  · rcases k.low s hs with h2 | h2
    · omega
    · have := Dist.le k h (e s).toNat s hs (by omega)
      omega
  · have h2 := Dist.le h k (d s).toNat s hs (by omega)
    have h3 := Dist.le k h (e s).toNat s hs (by omega)
    omega
theorem dist_walk (next : Nat → List Nat) (S : Nat) (hS : 1 ≤ S) (hn : ∀ f s, f < S → s ∈ next f → s < S) : Dist next S (fun s => ((Rc.walk next S).at_ s).far) := by
  have h := Rc.walk_far next S hS hn
  refine ⟨fun s hs => ?_, h.zero, h.one, fun s hs h0 => ?_, h.near⟩
  · obtain ⟨h1, _, h2⟩ := h.low s hs
    by_cases h3 : (Rc.Qu.at_ (Rc.walk next S) s).far < 0
    · exact .inl (h2 h3)
    · exact .inr (by omega)
  · obtain ⟨h1, h2, h3⟩ := h.par s hs h0
    exact ⟨_, h1, h2, List.mem_of_getElem? h3⟩
/-- while level d is looked at: of its states the first s, and of state s the first i inputs -/
structure Level (next : Nat → List Nat) (S : Nat) (out : List Int) (d s i : Nat) (more : Bool) : Prop where
  len : out.length = S
  low : ∀ t, t < S → out.getD t 0 = -1 ∨ (0 ≤ out.getD t 0 ∧ out.getD t 0 ≤ (d : Int) + 1)
  zero : out.getD 0 0 = 0
  one : ∀ t, t < S → out.getD t 0 = 0 → t = 0
  par : ∀ t, t < S → 0 < out.getD t 0 → ∃ u, u < S ∧ out.getD u 0 = out.getD t 0 - 1 ∧ t ∈ next u
  past : ∀ t u, t < S → 0 ≤ out.getD t 0 → out.getD t 0 < (d : Int) → u ∈ next t → 0 ≤ out.getD u 0 ∧ out.getD u 0 ≤ out.getD t 0 + 1
  here : ∀ t u, t < s → out.getD t 0 = (d : Int) → u ∈ next t → 0 ≤ out.getD u 0 ∧ out.getD u 0 ≤ (d : Int) + 1
  now : out.getD s 0 = (d : Int) → ∀ (k u : Nat), k < i → (next s)[k]? = some u → 0 ≤ out.getD u 0 ∧ out.getD u 0 ≤ (d : Int) + 1
  more_ : more = false → ∀ t, t < S → out.getD t 0 ≤ (d : Int)
theorem getD_setI (l : List Int) (n : Nat) (v : Int) (j : Nat) : (l.set n v).getD j 0 = if j = n ∧ n < l.length then v else l.getD j 0 := by
  rw [List.getD_eq_getElem?_getD, List.getD_eq_getElem?_getD, List.getElem?_set]
  by_cases h : n = j
  · subst h
    by_cases h2 : n < l.length
    · simp [h2]
    · simp [h2]
  · rw [if_neg h, if_neg (fun e => h e.1.symm)]
/-- one more input of a state: what it leads to was come to -/
theorem Level.pass {next : Nat → List Nat} {S : Nat} {out : List Int} {d s i t : Nat} {more : Bool} (h : Level next S out d s i more) (ht : (next s)[i]? = some t) (htS : t < S) (h0 : ¬ out.getD t 0 < 0) : Level next S out d s (i + 1) more :=
  ⟨h.len, h.low, h.zero, h.one, h.par, h.past, h.here, fun hd k u hk hu => by
    by_cases e : k = i
    · subst e
      rw [ht] at hu
      cases hu
      rcases h.low t htS with h1 | h1
      · omega
      · exact h1
    · exact h.now hd k u (by omega) hu, h.more_⟩
/-- .. was not -/
theorem Level.put {next : Nat → List Nat} {S : Nat} {out : List Int} {d s i t : Nat} {more : Bool} (h : Level next S out d s i more) (hs : s < S) (hd : out.getD s 0 = (d : Int)) (ht : (next s)[i]? = some t) (htS : t < S) (h0 : out.getD t 0 < 0) : Level next S (out.set t ((d : Int) + 1)) d s (i + 1) true := by
  have hg : ∀ j, (out.set t ((d : Int) + 1)).getD j 0 = if j = t then (d : Int) + 1 else out.getD j 0 := fun j => by
    rw [getD_setI]
    have := h.len
    by_cases e : j = t
    · rw [if_pos ⟨e, by omega⟩, if_pos e]
    · rw [if_neg (fun h => e h.1), if_neg e]
  have hst : s ≠ t := fun e => by rw [e] at hd; omega
  have keep : ∀ u, 0 ≤ out.getD u 0 → (out.set t ((d : Int) + 1)).getD u 0 = out.getD u 0 := fun u hu => by
    rw [hg, if_neg (fun e => by rw [e] at hu; omega)]
  have up : ∀ u b, 0 ≤ out.getD u 0 ∧ out.getD u 0 ≤ b → 0 ≤ (out.set t ((d : Int) + 1)).getD u 0 ∧ (out.set t ((d : Int) + 1)).getD u 0 ≤ b := fun u b hu => by rw [keep u hu.1]; exact hu
  refine ⟨by simp [h.len], fun j hj => ?_, ?_, fun j hj => ?_, fun j hj => ?_, fun j u hj h1 h2 hu => ?_, fun j u hj h1 hu => ?_, fun _ k u hk hu => ?_, fun e => by cases e⟩
  · rw [hg]
    split
    · exact .inr (by omega)
    · exact h.low j hj
  · rw [keep 0 (by rw [h.zero]; omega)]; exact h.zero
  · rw [hg]
    split
    · intro e; omega
    · exact h.one j hj
  · intro h1
    by_cases e : j = t
    · rw [hg j, if_pos e]
      exact ⟨s, hs, by rw [keep s (by omega), hd]; omega, by rw [e]; exact List.mem_of_getElem? ht⟩
    · rw [hg j, if_neg e] at h1 ⊢
      obtain ⟨u, hu, h2, h3⟩ := h.par j hj h1
      exact ⟨u, hu, by rw [keep u (by omega)]; exact h2, h3⟩
  · by_cases e : j = t
    · rw [hg j, if_pos e] at h2
      omega
    · rw [hg j, if_neg e] at h1 h2 ⊢
      exact up u _ (h.past j u hj h1 h2 hu)
  · rw [hg] at h1
    split at h1
    · omega
    · exact up u _ (h.here j u hj h1 hu)
  · by_cases e : k = i
    · subst e
      rw [ht] at hu
      cases hu
      rw [hg, if_pos rfl]
      omega
    · exact up u _ (h.now hd k u (by omega) hu)
/-- a state is looked at, or is of another level -/
theorem Level.next {next : Nat → List Nat} {S : Nat} {out : List Int} {d s i : Nat} {more : Bool} (h : Level next S out d s i more) (hi : out.getD s 0 = (d : Int) → (next s).length ≤ i) : Level next S out d (s + 1) 0 more :=
  ⟨h.len, h.low, h.zero, h.one, h.par, h.past, fun t u ht hd hu => by
    by_cases e : t = s
    · subst e
      obtain ⟨k, hk, rfl⟩ := List.getElem_of_mem hu
      exact h.now hd k _ (by have := hi hd; omega) (List.getElem?_eq_getElem hk)
    · exact h.here t u (by omega) hd hu, fun _ k u hk => absurd hk (Nat.not_lt_zero _), h.more_⟩
/-- the next level -/
theorem Level.deeper {next : Nat → List Nat} {S : Nat} {out : List Int} {d : Nat} {more : Bool} (h : Level next S out d S 0 more) : Level next S out (d + 1) 0 0 false := by
  refine ⟨h.len, fun t ht => ?_, h.zero, h.one, h.par, fun t u ht h0 h1 hu => ?_, fun t u ht => absurd ht (Nat.not_lt_zero _), fun _ k u hk => absurd hk (Nat.not_lt_zero _), fun _ t ht => ?_⟩
  · rcases h.low t ht with h1 | h1
    · exact .inl h1
    · exact .inr ⟨h1.1, by omega⟩
  · by_cases e : out.getD t 0 = (d : Int)
    · have := h.here t u ht e hu
      omega
    · exact h.past t u ht h0 (by omega) hu
  · rcases h.low t ht with h1 | h1 <;> omega
/-- the start -/
theorem Level.begin (next : Nat → List Nat) (S : Nat) (hS : 1 ≤ S) : Level next S ((List.replicate S (-1 : Int)).set 0 0) 0 0 0 false := by
  have hg : ∀ j, j < S → ((List.replicate S (-1 : Int)).set 0 0).getD j 0 = if j = 0 then 0 else -1 := fun j hj => by
    rw [getD_setI]
    by_cases e : j = 0
    · rw [if_pos ⟨e, by simp; omega⟩, if_pos e]
    · rw [if_neg (fun h => e h.1), if_neg e, List.getD_eq_getElem?_getD, List.getElem?_replicate, if_pos hj]
      rfl
  refine ⟨by simp, fun t ht => ?_, ?_, fun t ht => ?_, fun t ht => ?_, fun t u ht h0 h1 => ?_, fun t u ht => absurd ht (Nat.not_lt_zero _), fun _ k u hk => absurd hk (Nat.not_lt_zero _), fun _ t ht => ?_⟩
  · rw [hg t ht]; split <;> simp
  · rw [hg 0 (by omega)]; rfl
  · rw [hg t ht]; split
    · intro _; assumption
    · intro e; omega
  · rw [hg t ht]; split <;> (intro e; omega)
  · omega
  · rw [hg t ht]; split <;> simp
/-- where nothing more was found, all is told -/
theorem Level.done {next : Nat → List Nat} {S : Nat} {out : List Int} {d : Nat} (h : Level next S out d S 0 false) : Dist next S (fun s => out.getD s 0) :=
  ⟨fun s hs => by
    rcases h.low s hs with h1 | h1
    · exact .inl h1
    · exact .inr h1.1, h.zero, h.one, h.par, fun t u ht h0 hu => by
    have h1 := h.more_ rfl t ht
    by_cases e : out.getD t 0 = (d : Int)
    · have := h.here t u ht e hu
      exact ⟨this.1, by show out.getD u 0 ≤ out.getD t 0 + 1; omega⟩
    · exact h.past t u ht h0 (by omega) hu⟩
end Rf
end
section
namespace Rf
open Go.RowKit Go.Deep
/-- how many are not come to -/
def neg (l : List Int) : Nat := l.countP fun x => Decidable.decide (x < 0)
theorem neg_set : ∀ (l : List Int) (t : Nat) (v : Int), t < l.length → l.getD t 0 < 0 → 0 ≤ v → neg (l.set t v) + 1 = neg l
  | [], _, _, h, _, _ => absurd h (Nat.not_lt_zero _)
  | x :: l, 0, v, _, h, hv => by
    have h1 : x < 0 := by simpa using h
    have h2 : ¬ v < 0 := by omega
    simp [neg, h1, h2]
  | x :: l, t + 1, v, hl, h, hv => by
    have ih := neg_set l t v (by simpa using hl) (by simpa using h) hv
    simp only [neg, List.set_cons_succ, List.countP_cons] at ih ⊢
    omega
theorem neg_le (l : List Int) : neg l ≤ l.length := List.countP_le_length
theorem neg_one (S : Nat) (hS : 1 ≤ S) : neg ((List.replicate S (-1 : Int)).set 0 0) + 1 ≤ S := by
  have h := neg_set (List.replicate S (-1 : Int)) 0 0 (by simp; omega) (by rw [List.getD_eq_getElem?_getD, List.getElem?_replicate, if_pos (by omega)]; decide) (Int.le_refl _)
  have h2 := neg_le (List.replicate S (-1 : Int))
  rw [List.length_replicate] at h2
  omega
def fillN (S k : Nat) : List Int := List.replicate k (-1) ++ List.replicate (S - k) 0
theorem fillN_len (S k : Nat) (h : k ≤ S) : (fillN S k).length = S := by simp [fillN]; omega
theorem fillN_set (S k : Nat) (h : k < S) : (fillN S k).set k (-1) = fillN S (k + 1) := by
  unfold fillN
  obtain ⟨m, hm⟩ : ∃ m, S - k = m + 1 := ⟨S - k - 1, by omega⟩
  have h1 := set_mid (List.replicate k (-1 : Int)) (0 : Int) (-1) m
  rw [List.length_replicate] at h1
  rw [hm, h1, show S - (k + 1) = m by omega, List.replicate_succ']
theorem fillN_all (S : Nat) : fillN S S = List.replicate S (-1) := by simp [fillN]
theorem fillN_zero (S : Nat) : fillN S 0 = List.replicate S 0 := by simp [fillN]
theorem row_setI {W : World} {g : Nat} {l : List Int} (h : RowIs W g 3 (l.map iV)) (k : Nat) (v : Int) : RowIs (W.setCell ⟨g, k, none⟩ (.int .i64 v)) g 3 ((l.set k v).map iV) := by
  have h1 := RowIs.set h k (.int .i64 v)
  rw [List.map_set]
  exact h1
/-- what the document's Far comes to -/
def FarD (w : World) (S : Nat) (next : Nat → List Nat) (e : Ending) (w' : World) : Prop := ∃ (g : Nat) (d : List Int), e = .returned (.slice (some ⟨g, 0, none⟩) S S) ∧ RowIs w' g 3 (d.map iV) ∧ d.length = S ∧ Dist next S (fun s => d.getD s 0) ∧ w.heap.size ≤ g ∧ Below w.heap.size w w'
set_option maxHeartbeats 16000000 in
set_option maxRecDepth 100000 in
theorem RFar_any (bx S I : Nat) (nv rv nx : Value) (next : Nat → List Nat) (w : World) (h : RMachAt w bx nv rv S I nx) (hR : RowsI w nx ((List.range S).map fun s => asI (next s))) (hnl : ∀ s, (next s).length = I) (hnx : ∀ f s, f < S → s ∈ next f → s < S) (hS1 : 1 ≤ S) (hS : S ≤ 4096) (hI : I ≤ 64) :
    Calls Tryz.prog 8 #[.pointer (some ⟨bx, 0, none⟩)] w (FarD w S next) := by
  have HM := hide h
  obtain ⟨xa, xc, hx⟩ := hR.slice
  have hln : ((List.range S).map fun s => asI (next s)).length = S := by simp
  rw [hln] at hx
  subst hx
  have HR := hide hR
  have HNL := hide hnl
  have HNX := hide hnx
  have mk := fun W => makeIs S (by omega) W
  obtain ⟨cS, hcS⟩ : ∃ c, c = List.replicate S (Value.int .i64 0) := ⟨_, rfl⟩
  rw [← hcS] at mk
  obtain ⟨w1, hw1⟩ : ∃ w1, w1 = w.alloc (.cells ⟨cS⟩ 3) := ⟨_, rfl⟩
  have HR1 : Hid (RowIs w1 w.heap.size 3 ((fillN S 0).map iV)) := by
    show RowIs w1 w.heap.size 3 _
    rw [fillN_zero, List.map_replicate, hw1]
    show RowIs _ _ _ (List.replicate S (Value.int .i64 0))
    rw [← hcS]
    exact RowIs.new _ _ _
  have HB1 : Hid (Below w.heap.size w w1) := by rw [hw1]; exact (Below.refl _ _).alloc (Nat.le_refl _) _
  obtain ⟨_, ⟨c2, _⟩, _⟩ := h.cells
  have HLB := hide (Level.begin next S hS1)
  have HNO := hide (neg_one S hS1)
  have hSi : (0 : Int) < (S : Int) := by omega
  clear h hR hnl hnx hln hcS
  go_enter Tryz.func8, Tryz.ntmps8
  go_wp2_with fail
  rw [← hw1]
  clear hw1
  go_loopw [18] (fun i wr => ∃ k : Nat, k ≤ S ∧ i = .int .i64 (k : Int) ∧ Hid (RowIs wr w.heap.size 3 ((fillN S k).map iV)) ∧ Hid (Below w.heap.size w wr)) (fun i _ => S - (intOf i).toNat)
  case atStart => exact ⟨0, Nat.zero_le _, rfl, HR1.out, HB1.out⟩
  case round =>
    obtain ⟨k, hk, rfl, HR0, HB⟩ := hrel
    by_cases hlt : k < S
    · have hki : (k : Int) < (S : Int) := by omega
      have hkl : k < (fillN S k).length := by rw [fillN_len S k hk]; exact hlt
      have d0 := HR0.out.cell k _ (by rw [List.getElem?_map, List.getElem?_eq_getElem hkl]; rfl)
      have f0 := HR0.out.frozen k
      have HRN : Hid (RowIs (wr.setCell ⟨w.heap.size, k, none⟩ (.int .i64 (-1))) w.heap.size 3 ((fillN S (k + 1)).map iV)) := by
        have h1 := row_setI HR0.out k (-1)
        rw [fillN_set S k hlt] at h1
        exact h1
      have HBN : Hid (Below w.heap.size w (wr.setCell ⟨w.heap.size, k, none⟩ (.int .i64 (-1)))) := HB.out.setCell (p := ⟨w.heap.size, k, none⟩) (Nat.le_refl _) _
      generalize iV (fillN S k)[k] = y at *
      clear hkl
      go_wp2_with fail
      go_roundw
      case rel => exact ⟨k + 1, by omega, by go_num, HRN.out, HBN.out⟩
      case measure => simp [intOf]; omega
    · obtain rfl : k = S := by omega
      have hkl : 0 < (fillN k k).length := by rw [fillN_len k k hk]; exact hS1
      have d0 := HR0.out.cell 0 _ (by rw [List.getElem?_map, List.getElem?_eq_getElem hkl]; rfl)
      have f0 := HR0.out.frozen 0
      have HRN : Hid (RowIs (wr.setCell ⟨w.heap.size, 0, none⟩ (.int .i64 0)) w.heap.size 3 (((List.replicate k (-1 : Int)).set 0 0).map iV)) := by
        have h1 := row_setI HR0.out 0 0
        rw [fillN_all] at h1
        exact h1
      have HBN : Hid (Below w.heap.size w (wr.setCell ⟨w.heap.size, 0, none⟩ (.int .i64 0))) := HB.out.setCell (p := ⟨w.heap.size, 0, none⟩) (Nat.le_refl _) _
      generalize iV (fillN k k)[0] = y at *
      have hki : ¬ (k : Int) < (k : Int) := by omega
      clear hkl hlt
      go_wp2_with fail
      obtain ⟨n0, hn0⟩ : ∃ n0, n0 = neg ((List.replicate k (-1 : Int)).set 0 0) := ⟨_, rfl⟩
      have HN0 := hide hn0
      clear hn0
      go_loopg [5] n0 (fun gh dv wr => ∃ (d : Nat) (out : List Int), dv = .int .i64 (d : Int) ∧ gh = neg out ∧ d + neg out + 1 ≤ k ∧ Hid (Level next k out d 0 0 false) ∧ Hid (RowIs wr w.heap.size 3 (out.map iV)) ∧ Hid (Below w.heap.size w wr))
      case atStart => exact ⟨0, _, rfl, HN0.out, by have := HNO.out; omega, HLB.out, HRN.out, HBN.out⟩
      case round =>
        obtain ⟨d, out, rfl, hgk, hdn, HLV, HRW, HBW⟩ := hrel
        have HGK := hide hgk
        have HDN := hide hdn
        have hd5 : d ≤ 4096 := by omega
        obtain ⟨wo, hwo⟩ : ∃ wo, wo = wr := ⟨_, rfl⟩
        subst hwo
        obtain ⟨_, _, c4⟩ := (HM.out.below HBW.out).cells
        clear hgk hdn
        go_wp2_with fail
        go_loopw [6, 34] (fun mv i wr => ∃ (s : Nat) (m : Bool) (o : List Int), s ≤ k ∧ i = .int .i64 (s : Int) ∧ mv = .bool m ∧ Hid (Level next k o d s 0 m) ∧ Hid (RowIs wr w.heap.size 3 (o.map iV)) ∧ Hid (Below w.heap.size w wr) ∧ Hid (neg o ≤ neg out ∧ (m = true → neg o < neg out))) (fun _ i _ => k - (intOf i).toNat)
        case atStart => exact ⟨0, false, out, Nat.zero_le _, rfl, rfl, HLV.out, HRW.out, HBW.out, Nat.le_refl _, fun e => by cases e⟩
        case round =>
          obtain ⟨s, m, o, hs, rfl, rfl, HL, HRo, HB2, HNG⟩ := hrel
          by_cases hlt : s < k
          · have hrs : ((List.range k).map fun s => asI (next s))[s]? = some (asI (next s)) := by simp [hlt]
            obtain ⟨gR, u, hxa, hxc, cR, iR⟩ := HR.out.at_ s _ hrs
            subst hxa
            have cRr := (HB2.out.cell (World.block_lt_of_cell? _ _ cR)).trans cR
            obtain ⟨ua, uc, rfl⟩ := iR.slice
            have hlen : (asI (next s)).length = I := by unfold asI; rw [List.length_map]; exact HNL.out s
            rw [hlen] at iR cRr
            have HIR := hide iR
            have hsi : (s : Int) < (k : Int) := by omega
            have hso : s < o.length := by rw [HL.out.len]; exact hlt
            have co : wr.cell? ⟨w.heap.size, s, none⟩ = some (.int .i64 o[s]) := HRo.out.cell s _ (by rw [List.getElem?_map, List.getElem?_eq_getElem hso]; rfl)
            have HGD : Hid (o.getD s 0 = o[s]) := by show _ = _; simp [hso]
            clear hrs iR hlen cR
            by_cases hod : o[s] = (d : Int)
            · have HOD : Hid (o.getD s 0 = (d : Int)) := by show _ = _; rw [HGD.out]; exact hod
              rw [hod] at co
              clear hod HGD
              go_wp2_with fail
              go_loopw [6, 47] (fun mv j wr => ∃ (k2 : Nat) (m2 : Bool) (o2 : List Int), k2 ≤ I ∧ j = .int .i64 (k2 : Int) ∧ mv = .bool m2 ∧ Hid (Level next k o2 d s k2 m2) ∧ Hid (o2.getD s 0 = (d : Int)) ∧ Hid (RowIs wr w.heap.size 3 (o2.map iV)) ∧ Hid (Below w.heap.size w wr) ∧ Hid (neg o2 ≤ neg out ∧ (m2 = true → neg o2 < neg out))) (fun _ j _ => I - (intOf j).toNat)
              case atStart => exact ⟨0, m, o, Nat.zero_le _, rfl, rfl, HL.out, HOD.out, HRo.out, HB2.out, HNG.out⟩
              case round =>
                obtain ⟨k2, m2, o2, hk2, rfl, rfl, HL2, HOD2, HRo2, HB4, HNG2⟩ := hrel
                by_cases hlt2 : k2 < I
                · have hkl : k2 < (next s).length := by rw [HNL.out]; exact hlt2
                  have hxk : (asI (next s))[k2]? = some (((next s)[k2] : Nat) : Int) := by simp [asI, hkl]
                  obtain ⟨gu, ou, hua, cu⟩ := (HIR.out.below HB4.out).cell k2 _ hxk
                  subst hua
                  have htS : (next s)[k2] < k := HNX.out s _ hlt (List.getElem_mem hkl)
                  have HTE : Hid ((next s)[k2]? = some (next s)[k2]) := List.getElem?_eq_getElem hkl
                  have hto : (next s)[k2] < o2.length := by rw [HL2.out.len]; exact htS
                  have ct : wr.cell? ⟨w.heap.size, (next s)[k2], none⟩ = some (.int .i64 o2[(next s)[k2]]) := HRo2.out.cell _ _ (by rw [List.getElem?_map, List.getElem?_eq_getElem hto]; rfl)
                  have hgt : o2.getD (next s)[k2] 0 = o2[(next s)[k2]] := by simp [hto]
                  have ft := HRo2.out.frozen (next s)[k2]
                  generalize hx : o2[(next s)[k2]] = x at *
                  generalize (next s)[k2] = tt at *
                  have HGT := hide hgt
                  have HTO := hide hto
                  have hti : (tt : Int) < (k : Int) := by omega
                  have hki2 : (k2 : Int) < (I : Int) := by omega
                  clear hx hxk hgt hto
                  by_cases hx0 : x < 0
                  · have hx1 : o2.getD tt 0 < 0 := by rw [HGT.out]; exact hx0
                    have HLN := hide (HL2.out.put hlt HOD2.out HTE.out htS hx1)
                    have HNS := hide (neg_set o2 tt ((d : Int) + 1) HTO.out hx1 (by omega))
                    have HON : Hid ((o2.set tt ((d : Int) + 1)).getD s 0 = (d : Int)) := by
                      show _ = _
                      rw [getD_setI, if_neg (fun e => by have h1 := e.1; subst h1; have h2 := HOD2.out; omega)]
                      exact HOD2.out
                    have HRN2 := hide (row_setI HRo2.out tt ((d : Int) + 1))
                    have HBN2 : Hid (Below w.heap.size w (wr.setCell ⟨w.heap.size, tt, none⟩ (.int .i64 ((d : Int) + 1)))) := HB4.out.setCell (p := ⟨w.heap.size, tt, none⟩) (Nat.le_refl _) _
                    clear hx1
                    go_wp2_with fail
                    go_roundw
                    case rel => exact ⟨k2 + 1, true, _, by omega, by go_num, rfl, HLN.out, HON.out, HRN2.out, HBN2.out, by have h1 := HNS.out; have h2 := HNG2.out.1; exact ⟨by omega, fun _ => by omega⟩⟩
                    case measure => simp [intOf]; omega
                  · have HLN := hide (HL2.out.pass HTE.out htS (by rw [HGT.out]; exact hx0))
                    go_wp2_with fail
                    go_roundw
                    case rel => exact ⟨k2 + 1, m2, o2, by omega, by go_num, rfl, HLN.out, HOD2.out, HRo2.out, HB4.out, HNG2.out⟩
                    case measure => simp [intOf]; omega
                · obtain rfl : k2 = I := by omega
                  have HLN := hide (HL2.out.next (fun _ => by rw [HNL.out]; exact Nat.le_refl _))
                  have hki2 : ¬ (k2 : Int) < (k2 : Int) := by omega
                  go_wp2_with fail
                  go_roundw
                  case rel => exact ⟨s + 1, m2, o2, by omega, by go_num, rfl, HLN.out, HRo2.out, HB4.out, HNG2.out⟩
                  case measure => simp [intOf]; omega
            · have HLN := hide (HL.out.next (fun e => absurd (HGD.out.symm.trans e) hod))
              generalize o[s] = x at *
              have hxb : (x != (d : Int)) = true := by simpa using hod
              go_wp2_with fail
              go_roundw
              case rel => exact ⟨s + 1, m, o, by omega, by go_num, rfl, HLN.out, HRo.out, HB2.out, HNG.out⟩
              case measure => simp [intOf]; omega
          · obtain rfl : s = k := by omega
            have hsi : ¬ (s : Int) < (s : Int) := by omega
            cases m with
            | false =>
              have HDS := hide HL.out.done
              have HOL := hide HL.out.len
              go_wp2_with fail
              go_ret
              exact ⟨w.heap.size, o, rfl, HRo.out, HOL.out, HDS.out, Nat.le_refl _, HB2.out⟩
            | true =>
              have HLD := hide HL.out.deeper
              have hlt3 := HNG.out.2 rfl
              have HLT := hide hlt3
              clear hlt3
              go_wp2_with fail
              go_roundg (neg o)
              case measure => have h1 := HLT.out; have h2 := HGK.out; omega
              case rel => exact ⟨d + 1, o, by go_num, rfl, by have h1 := HLT.out; have h2 := HDN.out; omega, HLD.out, HRo.out, HB2.out⟩
end Rf
end
end Go.Proofs.YtkfikffnljnepaaGreatDoor
