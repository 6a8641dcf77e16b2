/-
  The walks of Place, and of the law's own at. The walk of the statements' own at: is an error this fault? The walk of the statements' own bare; own rows of numbers as slices. The walk of the law's own sameInts, at two like lists. The walk of the statements' own read: a text as an expression, by both, and what was read. Plain mathematics: the names of an expression that was read are not empty. The walks of package prop's told, of the statements' own at, and of their closures. The walk of package prop's hasNames. The walk of the statements' own known: are all names of some expressions a program's?
-/
import Derived.Test.YtgldbliohpfljaaGreatDoorLdTakeRAll
import Derived.WalkMore
import Derived.Test.YtgldbliohpfljaaGreatDoorNdNamedAll
import Derived.Test.YtgldbliohpfljaaGreatDoorRlEdgesAll
import Derived.Test.YtgldbliohpfljaaGreatDoorRdListAll
import Derived.Test.YtgldbliohpfljaaGreatDoorErAsAll
import Derived.Test.YtgldbliohpfljaaGreatDoorRtParseAll
import Derived.Test.YtgldbliohpfljaaGreatDoorNaNamesAll
import Derived.Test.YtgldbliohpfljaaGreatDoorLdRepAll
import Derived.Test.YtgldbliohpfljaaGreatDoorScStepAll
import Derived.Test.YtgldbliohpfljaaGreatDoorLdCheckAll
import Derived.Test.YtgldbliohpfljaaGreatDoorMcOffAll
import Derived.Test.YtgldbliohpfljaaGreatDoorRlSplitAll
import Derived.Deep.RegionHeld3
namespace Go.Proofs.YtgldbliohpfljaaGreatDoor
section
namespace ErAs
open Go.RowKit
/-- an error that the program hands back, its Errno and its place -/
def ErrAt (er : Value) (n pl : Int) (w : World) : Prop := (er = .iface 40 (.int .i64 n) ∧ pl = -1) ∨ ∃ a, er = .iface 227 (.pointer (some ⟨a, 0, none⟩)) ∧ w.cell? ⟨a, 0, none⟩ = some (.int .i64 n) ∧ w.cell? ⟨a, 1, none⟩ = some (.int .i64 pl)
theorem ErrAt.finds {er : Value} {n pl : Int} {w : World} (h : ErrAt er n pl w) : Finds er n w := by
  rcases h with ⟨h, _⟩ | ⟨a, h, h1, _⟩
  · exact .inl h
  · exact .inr ⟨_, h, h1⟩
set_option maxHeartbeats 2000000 in
set_option maxRecDepth 100000 in
theorem Place_any (er : Value) (n pl : Int) (w : World) (hg : Door w) (hf : ErrAt er n pl w) :
    Calls Tryz.prog 95 #[er] w fun e w' => e = .returned (.tuple #[.int .i64 n, .int .i64 pl]) ∧ Below w.heap.size w w' := by
  have HC := hide (Tell_any er n w hg hf.finds)
  clear hg
  rcases hf with ⟨rfl, rfl⟩ | ⟨a, rfl, h0, h1⟩
  · have sE := atE
    have sU := unE
    go_enter Tryz.func95, Tryz.ntmps95
    go_wp2_with fail
    refine HC.out.mono ?_
    rintro e w1 ⟨rfl, hb⟩
    have HB := hide hb
    clear hb HC
    go_wp2_with fail
    refine wp_loop_rounds 1 ?_
    rw [rounds_succ]
    go_wp2_with fail
    refine bodyPost_ret_by (v := .tuple #[.int .i64 n, .int .i64 (-1)]) ?_ rfl ⟨rfl, HB.out⟩
    simp [results, Tryz.results95, go_sem]
  · have sA := atA
    go_enter Tryz.func95, Tryz.ntmps95
    go_wp2_with fail
    refine HC.out.mono ?_
    rintro e w1 ⟨rfl, hb⟩
    have HB := hide hb
    have h1' := (hb.cell (World.block_lt_of_cell? _ _ h1)).trans h1
    clear hb HC h0 h1
    go_wp2_with fail
    refine wp_loop_rounds 1 ?_
    rw [rounds_succ]
    go_wp2_with fail
    go_quiet (fail)
    go_wp2_with fail
    refine bodyPost_ret_by (v := .tuple #[.int .i64 n, .int .i64 pl]) ?_ rfl ⟨rfl, ⟨HB.out.os, HB.out.tape, HB.out.output, HB.out.size, HB.out.block⟩⟩
    simp [results, Tryz.results95, go_sem]
end ErAs
end
section
open Go.RowKit ErAs
set_option maxHeartbeats 2000000 in
set_option maxRecDepth 100000 in
theorem at_any (er : Value) (n pl : Int) (w : World) (hg : Door w) (hf : ErrAt er n pl w) :
    Calls Tryz.prog 42 #[er, faultV n pl] w fun e w' => e = .returned (.bool true) ∧ Below w.heap.size w w' := by
  obtain ⟨w1, hw1⟩ : ∃ w1, w1 = w.alloc (.cells #[.int .i64 n, .int .i64 pl] 93) := ⟨_, rfl⟩
  have hb1 : Below w.heap.size w w1 := by rw [hw1]; exact (Below.refl _ _).alloc (Nat.le_refl _) _
  have hg1 : Door w1 := (hb1.cell (World.block_lt_of_cell? _ _ hg)).trans hg
  have hf1 : ErrAt er n pl w1 := by
    rcases hf with h | ⟨a, h, h1, h2⟩
    · exact .inl h
    · exact .inr ⟨a, h, (hb1.cell (World.block_lt_of_cell? _ _ h1)).trans h1, (hb1.cell (World.block_lt_of_cell? _ _ h2)).trans h2⟩
  have HC := hide (Place_any er n pl w1 hg1 hf1)
  have hh : w1.heap[w.heap.size]? = some (.cells #[.int .i64 n, .int .i64 pl] 93 (0, 0)) := by rw [hw1]; exact heap_alloc_new _ _
  have HH := hide hh
  have HS1 : Hid (w1.heap.size = w.heap.size + 1) := by show _ = _; rw [hw1]; simp
  obtain ⟨te, ve, hte⟩ : ∃ te ve, er = .iface te ve := by
    rcases hf with ⟨rfl, _⟩ | ⟨q, rfl, _⟩
    · exact ⟨_, _, rfl⟩
    · exact ⟨_, _, rfl⟩
  subst hte
  have HB1 := hide hb1
  have HW1 := hide hw1
  rw [hw1] at HC
  unfold faultV
  clear hg hf hg1 hf1 hb1 hw1 hh
  go_enter Tryz.func42, Tryz.ntmps42
  go_wp2_with fail
  refine HC.out.mono ?_
  rintro e w2 ⟨rfl, hb⟩
  rw [← HW1.out] at hb
  have c0 : w2.cell? ⟨w.heap.size, 0, none⟩ = some (.int .i64 n) := by rw [hb.cell (p := ⟨w.heap.size, 0, none⟩) (by rw [HS1.out]; simp), Lib.cell_of_heap HH.out]; rfl
  have c1 : w2.cell? ⟨w.heap.size, 1, none⟩ = some (.int .i64 pl) := by rw [hb.cell (p := ⟨w.heap.size, 1, none⟩) (by rw [HS1.out]; simp), Lib.cell_of_heap HH.out]; rfl
  have HB := hide hb
  clear hb HC
  go_wp2_with fail
  go_ret
  exact ⟨ret_bool (by simp), HB1.out.trans (HB.out.mono HB1.out.size)⟩
end
section
open Go.RowKit
namespace Sl
set_option maxHeartbeats 2000000 in
theorem lbare_any (n : Int) (w : World) (hg : ErAs.Door w) : Calls Tryz.prog 12 #[.iface 40 (.int .i64 n), .int .i64 n] w fun e w' => e = .returned (.bool true) ∧ Below w.heap.size w w' := by
  have HBA := hide (rbare_any n w)
  have HG := hide hg
  clear hg
  go_enter Tryz.func12, Tryz.ntmps12
  go_wp2_with fail
  refine HBA.out.mono ?_
  rintro e w1 ⟨rfl, hb1⟩
  have HAT := hide (at_any (.iface 40 (.int .i64 n)) n (-1) w1 ((hb1.cell (World.block_lt_of_cell? _ _ HG.out)).trans HG.out) (.inl ⟨rfl, rfl⟩))
  have HB1 := hide hb1
  unfold faultV at HAT ⊢
  clear hb1 HBA
  go_wp2_with fail
  refine HAT.out.mono ?_
  rintro e w2 ⟨rfl, hb2⟩
  have HB2 := hide (HB1.out.trans (hb2.mono HB1.out.size))
  clear hb2 HAT
  go_wp2_with fail
  go_ret
  exact ⟨rfl, HB2.out⟩
theorem own_ints {W : World} {q : Nat} {v : Value} {l : List Nat} (h : W.ownsRow q 3 1 v l.length (l.map intV)) (hl : ∀ i, i ∈ l → i ≤ 1000) : Ints W v (l.map fun i : Nat => (i : Int)) := by
  rcases h.2 with ⟨rfl, h0⟩ | ⟨g, cap, cur, rfl, _, hcur, hcap, _, _, htk⟩
  · exact .inl ⟨by rw [List.length_eq_zero_iff.1 h0]; rfl, _, _, rfl⟩
  · refine .inr ⟨g, 0, cap, by simp, by simpa using hcap, fun k x hx => ?_⟩
    rw [List.getElem?_map] at hx
    cases hk : l[k]? with
    | none => rw [hk] at hx; cases hx
    | some i =>
      rw [hk] at hx
      simp only [Option.map_some, Option.some.injEq] at hx
      subst hx
      have := hl i (List.mem_of_getElem? hk)
      exact ⟨by rw [Nat.zero_add]; exact row_cell hcur htk (by rw [List.getElem?_map, hk]; rfl), by unfold I64; omega⟩
end Sl
end
section
open Go.RowKit
set_option maxHeartbeats 2000000 in
set_option maxRecDepth 100000 in
theorem lsameI_any (l : List Int) (u v : Value) (w : World) (hu : Ints w u l) (hv : Ints w v l) (hl : l.length ≤ 1000000) :
    Calls Tryz.prog 17 #[u, v] w fun e w' => e = .returned (.bool true) ∧ Below w.heap.size w w' := by
  have HU := hide hu
  have HV := hide hv
  obtain ⟨n, hn⟩ : ∃ n, n = l.length := ⟨_, rfl⟩
  have HN := hide hn
  obtain ⟨ua, uc, rfl⟩ := hu.slice
  obtain ⟨va, vc, rfl⟩ := hv.slice
  rw [← hn] at HU HV hl ⊢
  clear hu hv hn
  go_enter Tryz.func17, Tryz.ntmps17
  go_wp2_with fail
  go_loopw [5] (fun i wr => ∃ k : Nat, k ≤ n ∧ i = .int .i64 (k : Int) ∧ Hid (Below w.heap.size w wr)) (fun i _ => n - (intOf i).toNat)
  case atStart => exact ⟨0, Nat.zero_le _, rfl, Below.refl _ _⟩
  case round =>
    obtain ⟨k, hk, rfl, HB⟩ := hrel
    by_cases hlt : k < n
    · have hkl : k < l.length := by rw [← HN.out]; exact hlt
      have hx := List.getElem?_eq_getElem hkl
      obtain ⟨g1, o1, e1, d1⟩ := (HU.out.below HB.out).cell k _ hx
      obtain ⟨g2, o2, e2, d2⟩ := (HV.out.below HB.out).cell k _ hx
      subst e1
      subst e2
      generalize l[k] = x at *
      clear hx
      go_wp2_with fail
      go_quiet (fail)
      go_wp2_with fail
      go_roundw
      case rel => exact ⟨k + 1, by omega, by go_num, HB.out.trans ⟨rfl, rfl, rfl, Nat.le_refl _, fun _ _ => rfl⟩⟩
      case measure => simp [intOf]; omega
    · have hkn : k = n := by omega
      subst hkn
      go_wp2_with fail
      go_ret
      exact ⟨rfl, HB.out⟩
end
section
open Go.RowKit
/-- what read comes to: nothing, or one expression in the program's form and in the document's -/
def ReadBothP (w : World) (e : Ending) (w' : World) : Prop :=
  Below w.heap.size w w' ∧ ((e = .returned (.tuple #[.nilIface, .pointer none, .bool false])) ∨ ∃ x v g, e = .returned (.tuple #[v, .pointer (some ⟨g, 0, none⟩), .bool true]) ∧ IsEx (fun _ => True) w' x v ∧ IsRx (fun _ => True) w' x g ∧ x.size ≤ 1000000 ∧ ∃ l, Ex.parse l = .inr x)
set_option maxHeartbeats 2000000 in
set_option maxRecDepth 100000 in
theorem readP_any (s : ByteArray) (w : World) (hs : s.size ≤ maxLen) (hf : Fine w) : Calls Tryz.prog 9 #[.string s] w (ReadBothP w) := by
  have hs' : s.size ≤ maxLen := hs
  unfold maxLen at hs
  by_cases h2 : 1000 < s.size
  · have h2' : (1000 : Int) < (s.size : Int) := by omega
    clear hf
    go_enter Tryz.func9, Tryz.ntmps9
    go_wp2_with fail
    refine bodyPost_ret_by (v := .tuple #[.nilIface, .pointer none, .bool false]) ?_ rfl ⟨Below.refl _ _, .inl rfl⟩
    simp [results, Tryz.results9, go_sem]
  · have h2' : ¬ (1000 : Int) < (s.size : Int) := by omega
    have HR := hide (ExprParse_any s w hs' hf)
    have HP := hide (fun w1 => Parse_any s w1 hs')
    have HSZ := hide (fun x h => Ex.parse_bnd s.data.toList x h)
    obtain ⟨r, hr⟩ : ∃ r, r = Ex.parse s.data.toList := ⟨_, rfl⟩
    have HPR : Hid (∃ l, Ex.parse l = r) := ⟨_, hr.symm⟩
    rw [← hr] at HR HSZ
    have HP2 : Hid (∀ w1, Calls Tryz.prog 33 #[.string s] w1 (Parsed w1 r)) := fun w1 => by have := HP.out w1; rw [← hr] at this; exact this
    clear HP hr
    have HP := HP2
    clear HP2
    clear hf
    match r, HR, HP, HSZ, HPR with
    | .inl (err, none), HR, HP, _, _ =>
      go_enter Tryz.func9, Tryz.ntmps9
      go_wp2_with fail
      refine HR.out.mono ?_
      rintro e w1 ⟨hb, rfl, he⟩
      have heb : ((err : Int) != 0) = true := by simp; omega
      have HB := hide hb
      unfold faultV
      clear hb he HR HP
      go_wp2_with fail
      refine bodyPost_ret_by (v := .tuple #[.nilIface, .pointer none, .bool false]) ?_ rfl ⟨?_, .inl rfl⟩
      · simp [results, Tryz.results9, go_sem]
      · exact HB.out.alloc HB.out.size _
    | .inl (err, some p), HR, HP, _, _ =>
      go_enter Tryz.func9, Tryz.ntmps9
      go_wp2_with fail
      refine HR.out.mono ?_
      rintro e w1 ⟨hb, rfl, he⟩
      have heb : ((err : Int) != 0) = true := by simp; omega
      have HB := hide hb
      unfold faultV
      clear hb he HR HP
      go_wp2_with fail
      refine bodyPost_ret_by (v := .tuple #[.nilIface, .pointer none, .bool false]) ?_ rfl ⟨?_, .inl rfl⟩
      · simp [results, Tryz.results9, go_sem]
      · exact HB.out.alloc HB.out.size _
    | .inr x, HR, HP, HSZ, HPR =>
      have hx := HSZ.out x rfl
      have HXS : Hid (x.size ≤ 1000000) := by show _ ≤ _; omega
      clear hx
      go_enter Tryz.func9, Tryz.ntmps9
      go_wp2_with fail
      refine HR.out.mono ?_
      rintro e w1 ⟨hb, g, rfl, hg⟩
      have HB := hide hb
      have HG := hide hg
      unfold faultV
      clear hb hg HR HSZ
      go_wp2_with fail
      refine (HP.out _).mono ?_
      rintro e w2 ⟨hb2, v, rfl, hv⟩
      have HB2 := hide hb2
      have HV := hide hv
      obtain ⟨tu, yu, hiu⟩ := IsEx.iface _ v hv
      subst hiu
      clear hb2 hv HP
      go_wp2_with fail
      have hb0 : Below w1.heap.size w1 w2 := ((Below.refl _ w1).alloc (Nat.le_refl _) _).trans (HB2.out.mono (by simp))
      refine bodyPost_ret_by (v := .tuple #[.iface tu yu, .pointer (some ⟨g, 0, none⟩), .bool true]) ?_ rfl ⟨HB.out.trans (hb0.mono HB.out.size), .inr ⟨x, _, g, rfl, ?_, HG.out.later hb0, HXS.out, HPR.out⟩⟩
      · simp [results, Tryz.results9, go_sem]
      · exact IsEx.stay (ok := fun g => _ ≤ g) (fun g i u _ hc => hc) (fun _ _ => trivial) x _ HV.out
end
section
namespace Ex
theorem FitP.names : ∀ (D : Nat) (x : Ex), FitP D x → ∀ n, n ∈ x.named true → Nm.name n = true := by
  intro D
  induction D with
  | zero => intro x h; exact absurd h (by simp [FitP])
  | succ D ih =>
    intro x h n hn
    obtain ⟨k, nm, l⟩ := x
    have parts : (k ≠ 2 ∧ k ≠ 3 ∧ k ≠ 4) → ∃ y, y ∈ l ∧ n ∈ y.named true := fun hk => by
      rw [named_of _ _ _ _ hk, List.mem_flatten] at hn
      obtain ⟨t, ht, hnt⟩ := hn
      obtain ⟨y, hy, rfl⟩ := List.mem_map.1 ht
      exact ⟨y, hy, hnt⟩
    unfold FitP at h
    simp only at h
    rcases h with ⟨h1, _, h3⟩ | ⟨h1, h2, h3, _⟩ | ⟨h1, _, y, h3, h4⟩ | ⟨h1, _, _, h4⟩ | ⟨h1, _, _, h4⟩
    · obtain ⟨y, hy, _⟩ := parts (by omega)
      rw [h3] at hy
      simp at hy
    · have : n = nm := by
        have hk : k = 2 ∨ k = 3 ∨ k = 4 := by omega
        rcases hk with rfl | rfl | rfl
        · rw [named2] at hn; simpa using hn
        · rw [named3] at hn; simpa using hn
        · rw [named4] at hn; simpa using hn
      rw [this]; exact h3
    · obtain ⟨z, hz, hnz⟩ := parts (by omega)
      rw [h3] at hz
      simp at hz
      subst hz
      exact ih _ h4 n hnz
    · obtain ⟨z, hz, hnz⟩ := parts (by omega)
      exact ih _ (h4 z hz) n hnz
    · obtain ⟨z, hz, hnz⟩ := parts (by omega)
      rcases h4 z hz with ⟨q1, _, _, q4⟩ | ⟨_, q2⟩
      · obtain ⟨k2, nm2, l2⟩ := z
        simp only at q1 q4
        rw [named_of _ _ _ _ (by omega), List.mem_flatten] at hnz
        obtain ⟨t, ht, hnt⟩ := hnz
        obtain ⟨y, hy, rfl⟩ := List.mem_map.1 ht
        exact ih _ (q4 y hy) n hnt
      · exact ih _ q2 n hnz
theorem parse_names (l : List UInt8) (x : Ex) (h : parse l = .inr x) (n : List UInt8) (hn : n ∈ x.named true) : n ≠ [] := by
  have h1 := FitP.names 21 x (FitW.piece 20 x (parse_fit l x h)) n hn
  obtain ⟨_, c, r, e, _⟩ := name_signs n h1
  rw [e]; simp
end Ex
end
section
open Go.RowKit
theorem ptold_any (nv rv lv : Value) (w : World) (hn : ∃ a n c, nv = .slice a n c) (hr : ∃ a n c, rv = .slice a n c) (hl : ∃ a n c, lv = .slice a n c) :
    Calls Tryz.prog 35 #[.agg #[nv, rv], lv] w fun e w' => e = .returned (.func (.func 87) #[] #[.pointer (some ⟨w.heap.size, 0, none⟩), .pointer (some ⟨w.heap.size + 1, 0, none⟩)]) ∧ w' = (w.alloc (.cells #[nv, rv] 83)).alloc (.cells #[lv] 51) := by
  have hmf : ∀ (fn : Fn) (first cap : Array Value) (w : World), (Instr.makeFunc fn first cap).run Tryz.prog w = .ok (.func fn first cap) w := fun _ _ _ _ => rfl
  obtain ⟨a1, n1, c1, rfl⟩ := hn
  obtain ⟨a2, n2, c2, rfl⟩ := hr
  obtain ⟨a3, n3, c3, rfl⟩ := hl
  go_enter Tryz.func35, Tryz.ntmps35
  go_wp2_with fail
  go_ret
  exact ⟨rfl, rfl⟩
set_option maxHeartbeats 2000000 in
set_option maxRecDepth 100000 in
theorem ptold1_any (ns : List Ld.Nme) (nv rv : Value) (is : List Bool) (gi a b : Nat) (nm : List UInt8) (w : World) (hn : NamesAt w nv ns) (hr : ∃ a n c, rv = .slice a n c) (hlen : is.length = ns.length)
    (h0 : w.cell? ⟨a, 0, none⟩ = some nv) (h1 : w.cell? ⟨a, 1, none⟩ = some rv) (h2 : w.cell? ⟨b, 0, none⟩ = some (.slice (some ⟨gi, 0, none⟩) is.length is.length)) (hi : w.heap[gi]? = some (.cells ⟨is.map boolV⟩ 4 (0, 0))) :
    Calls Tryz.prog 87 #[.string ⟨nm.toArray⟩, .pointer (some ⟨a, 0, none⟩), .pointer (some ⟨b, 0, none⟩)] w fun e w' => e = .returned (.bool (Sc.told ns is nm)) ∧ Below w.heap.size w w' := by
  obtain ⟨ra, rn, rc, rfl⟩ := hr
  have HNU := hide (Number_any ns nv (.slice ra rn rc) nm w hn ⟨_, _, _, rfl⟩)
  obtain ⟨na, nc, rfl, hn1⟩ := hn.slice
  have hlo := Ld.number_lt ns nm
  have hge := Ld.number_ge ns nm
  have HT : Hid (Sc.told ns is nm = (decide (0 ≤ Ld.number ns nm) && is.getD (Ld.number ns nm).toNat false)) := rfl
  have ha : a < w.heap.size := World.block_lt_of_cell? _ _ h0
  have hb : b < w.heap.size := World.block_lt_of_cell? _ _ h2
  have hg : gi < w.heap.size := (Array.getElem?_eq_some_iff.1 hi).1
  have HI := hide hi
  have H2 := hide h2
  generalize Sc.told ns is nm = T at *
  generalize Ld.number ns nm = u at *
  rw [hlen] at H2 h2
  generalize ns.length = m at *
  clear hi hn
  go_enter Tryz.func87, Tryz.ntmps87
  go_wp2_with fail
  refine HNU.out.mono ?_
  rintro e w1 ⟨rfl, hb1⟩
  have HB1 := hide hb1
  have k2 := (hb1.cell (p := ⟨b, 0, none⟩) hb).trans H2.out
  by_cases hu : 0 ≤ u
  · obtain ⟨j, rfl⟩ : ∃ j : Nat, u = (j : Int) := ⟨u.toNat, by omega⟩
    have hj : j < m := by omega
    have k3 : w1.cell? ⟨gi, j, none⟩ = some (.bool (is.getD j false)) := by
      rw [hb1.cell (p := ⟨gi, j, none⟩) hg, Lib.cell_of_heap HI.out]
      simp [boolV, hlen, hj]
    simp only [Int.toNat_natCast] at HT
    generalize is.getD j false = bv at *
    clear hb1 HNU
    go_wp2_with fail
    go_ret
    exact ⟨ret_bool (by rw [HT.out]; simp), HB1.out⟩
  · clear hb1 HNU
    have HD : Hid (decide (0 ≤ u) = false) := by show _ = _; simpa using hu
    go_wp2_with fail
    go_ret
    exact ⟨ret_bool (by rw [HT.out, HD.out]; rfl), HB1.out⟩
/-- the closure that told makes, asked later -/
theorem ptells_told (ns : List Ld.Nme) (nv rv : Value) (is : List Bool) (gi a b : Nat) (w : World) (hn : NamesAt w nv ns) (hr : ∃ a n c, rv = .slice a n c) (hlen : is.length = ns.length)
    (h0 : w.cell? ⟨a, 0, none⟩ = some nv) (h1 : w.cell? ⟨a, 1, none⟩ = some rv) (h2 : w.cell? ⟨b, 0, none⟩ = some (.slice (some ⟨gi, 0, none⟩) is.length is.length)) (hi : w.heap[gi]? = some (.cells ⟨is.map boolV⟩ 4 (0, 0))) :
    E2.Tells (.func (.func 87) #[] #[.pointer (some ⟨a, 0, none⟩), .pointer (some ⟨b, 0, none⟩)]) (Sc.told ns is) w :=
  ⟨87, _, _, rfl, fun _ _ => by kernel_rfl, fun W hW nm => ptold1_any ns nv rv is gi a b nm W (hn.below hW) hr hlen ((hW.cell (p := ⟨a, 0, none⟩) (World.block_lt_of_cell? _ _ h0)).trans h0) ((hW.cell (p := ⟨a, 1, none⟩) (World.block_lt_of_cell? _ _ h1)).trans h1) ((hW.cell (p := ⟨b, 0, none⟩) (World.block_lt_of_cell? _ _ h2)).trans h2) ((hW.block _ (Array.getElem?_eq_some_iff.1 hi).1).trans hi)⟩
end
section
open Go.RowKit
namespace Pr
/-- each name of an expression is one of the program's -/
def has (ns : List Ld.Nme) (x : Ex) : Bool := (ordered (x.named true)).all fun s => decide (0 ≤ Ld.number ns s)
end Pr
set_option maxHeartbeats 2000000 in
set_option maxRecDepth 100000 in
theorem hasNames_any (ok : Nat → Prop) (ns : List Ld.Nme) (nv rv : Value) (x : Ex) (v : Value) (w : World) (hn : NamesAt w nv ns) (hr : ∃ a n c, rv = .slice a n c) (h : IsEx ok w x v) (hlen : x.size ≤ 1000000) :
    Calls Tryz.prog 34 #[.agg #[nv, rv], v] w fun e w' => e = .returned (.bool (Pr.has ns x)) ∧ Below w.heap.size w w' := by
  obtain ⟨tu, yu, rfl⟩ := IsEx.iface x v h
  have HN := hide hn
  have hr2 := hr
  obtain ⟨ra, rn, rc, rfl⟩ := hr
  obtain ⟨w1, hw1⟩ : ∃ w1, w1 = w.alloc (.cells #[nv, .slice ra rn rc] 83) := ⟨_, rfl⟩
  have hb1 : Below w.heap.size w w1 := by rw [hw1]; exact (Below.refl _ _).alloc (Nat.le_refl _) _
  have hB : w1.heap[w.heap.size]? = some (.cells #[nv, .slice ra rn rc] 83 (0, 0)) := by rw [hw1]; exact heap_alloc_new _ _
  have HB := hide hB
  have HNM := hide (Names_any (fun _ => True) x _ w1 (IsEx.stay (Stay.below hb1) (fun g _ => trivial) x _ h) hlen)
  have hz1 : w1.heap.size = w.heap.size + 1 := by rw [hw1]; simp
  rw [hw1] at HNM
  have HW1 := hide hw1
  have HB1 := hide hb1
  obtain ⟨L, hL⟩ : ∃ L, L = ordered (x.named true) := ⟨_, rfl⟩
  have HAS : Hid (Pr.has ns x = L.all fun s => decide (0 ≤ Ld.number ns s)) := by show _ = _; rw [hL]; rfl
  rw [← hL] at HNM
  obtain ⟨na, nc, rfl, _⟩ := hn.slice
  clear hw1 hb1 hB hn h hL
  go_enter Tryz.func34, Tryz.ntmps34
  go_wp2_with fail
  refine HNM.out.mono ?_
  rintro e w2 ⟨sv, rfl, hs, hb2⟩
  rw [← HW1.out] at hb2
  have HS := hide hs
  have HB2 := hide hb2
  have HBW := hide (HB1.out.trans (hb2.mono HB1.out.size))
  obtain ⟨sa, sc, rfl⟩ : ∃ a c, sv = .slice a L.length c := by
    rcases hs.at with ⟨rfl, a, c, rfl⟩ | ⟨g, o, c, rfl, _⟩
    · exact ⟨_, _, rfl⟩
    · exact ⟨_, _, rfl⟩
  have hLl : L.length ≤ 1000000 := by
    rcases hs.at with ⟨rfl, _⟩ | ⟨g, o, c, _, _, h3, _⟩
    · simp
    · exact h3
  clear hs hb2 HNM
  go_wp2_with fail
  go_loopw [10] (fun i wr => ∃ j : Nat, j ≤ L.length ∧ i = .int .i64 (j : Int) ∧ Hid ((L.take j).all (fun s => decide (0 ≤ Ld.number ns s)) = true) ∧ Hid (Below w2.heap.size w2 wr)) (fun i _ => L.length - (intOf i).toNat)
  case atStart => exact ⟨0, Nat.zero_le _, rfl, rfl, Below.refl _ _⟩
  case round =>
    obtain ⟨j, hj, rfl, HT, HBR⟩ := hrel
    have hbw : Below w.heap.size w wr := HBW.out.trans (HBR.out.mono HBW.out.size)
    by_cases hlt : j < L.length
    · have hje := List.getElem?_eq_getElem hlt
      have HTS : Hid ((L.take (j + 1)).all (fun s => decide (0 ≤ Ld.number ns s)) = ((L.take j).all (fun s => decide (0 ≤ Ld.number ns s)) && decide (0 ≤ Ld.number ns L[j]))) := by
        show _ = _
        rw [List.take_succ_eq_append_getElem hlt, List.all_append]
        simp
      have HMN : Hid (Ld.number ns L[j] < 0 → (L.all fun s => decide (0 ≤ Ld.number ns s)) = false) := fun hneg => by
        rw [List.all_eq_false]
        exact ⟨L[j], List.getElem_mem hlt, by simp; omega⟩
      generalize L[j] = nm at *
      obtain ⟨g, o, rfl, hcell⟩ : ∃ g o, sa = some ⟨g, o, none⟩ ∧ wr.cell? ⟨g, o + j, none⟩ = some (.string ⟨nm.toArray⟩) := by
        rcases HS.out with ⟨h0, _⟩ | ⟨g, o, c, h1, _, _, h4⟩
        · have : L = [] := by simpa using h0
          rw [this] at hlt; simp at hlt
        · simp only [Value.slice.injEq] at h1
          have h5 := h4 j (toBA nm) (by rw [List.getElem?_map, hje]; rfl)
          exact ⟨g, o, h1.1, (HBR.out.cell (World.block_lt_of_cell? _ _ h5)).trans h5⟩
      have hcap : L.length ≤ sc := by
        rcases HS.out with ⟨h0, _⟩ | ⟨g', o', c, h1, h2, _⟩
        · have : L = [] := by simpa using h0
          rw [this]; simp
        · simp only [Value.slice.injEq] at h1
          rw [h1.2.2]; simpa using h2
      obtain ⟨b0, b1, _, _⟩ := two_cells ((HBR.out.block _ (by have := HB2.out.size; omega)).trans ((HB2.out.block _ (by omega)).trans HB.out))
      have HNU := hide (Number_any ns _ (.slice ra rn rc) nm wr (HN.out.below hbw) ⟨_, _, _, rfl⟩)
      have hji : (j : Int) < (L.length : Int) := by omega
      generalize Ld.number ns nm = u at *
      clear hje hbw
      go_wp2_with fail
      refine HNU.out.mono ?_
      rintro e w3 ⟨rfl, hb3⟩
      have HB3 := hide hb3
      clear hb3 HNU
      by_cases hu : u < 0
      · have HR := hide (HMN.out hu)
        go_wp2_with fail
        go_ret
        exact ⟨ret_bool (by rw [HAS.out, HR.out]), HBW.out.trans ((HBR.out.trans (HB3.out.mono HBR.out.size)).mono HBW.out.size)⟩
      · have HD : Hid (decide (0 ≤ u) = true) := decide_eq_true (by omega)
        go_wp2_with fail
        exact ⟨⟨j + 1, by omega, by go_num, (by show _ = _; rw [HTS.out, HT.out, HD.out]; rfl), HBR.out.trans (HB3.out.mono HBR.out.size)⟩, by simp [intOf]; omega⟩
    · have hjl : j = L.length := by omega
      have HR : Hid ((L.all fun s => decide (0 ≤ Ld.number ns s)) = true) := by
        have := HT.out
        rw [hjl, List.take_length] at this
        exact this
      subst hjl
      have HE := hide hbw
      clear hbw
      go_wp2_with fail
      go_ret
      exact ⟨ret_bool (by rw [HAS.out, HR.out]), HE.out⟩
end
section
open Go.RowKit
namespace Rf
set_option maxHeartbeats 8000000 in
set_option maxRecDepth 100000 in
theorem known_any (ns : List Ld.Nme) (nv rv : Value) (xs : List Ex) (gs : List Nat) (b c : Nat) (w : World) (hn : NamesAt w nv ns) (hr : ∃ a n c, rv = .slice a n c) (hL : RLaid w) (hc : ∀ (i g : Nat), gs[i]? = some g → w.cell? ⟨b, i, none⟩ = some (.pointer (some ⟨g, 0, none⟩))) (hx : ∀ (i : Nat) (x : Ex), xs[i]? = some x → ∃ g, gs[i]? = some g ∧ IsRx (fun _ => True) w x g ∧ x.size ≤ 1000000) (hlc : xs.length ≤ c) (hl : xs.length ≤ 10) :
    Calls Tryz.prog 13 #[.agg #[nv, rv], .slice (some ⟨b, 0, none⟩) xs.length c] w fun e w' => e = .returned (.bool (xs.all (Pr.has ns))) ∧ Below w.heap.size w w' := by
  obtain ⟨ra, rn, rc, rfl⟩ := hr
  obtain ⟨na, nc, rfl, _⟩ := hn.slice
  obtain ⟨q, hq⟩ : ∃ q, q = xs.length := ⟨_, rfl⟩
  obtain ⟨n, hnn⟩ : ∃ n, n = ns.length := ⟨_, rfl⟩
  rw [← hnn] at hn ⊢
  rw [← hq] at hlc hl ⊢
  obtain ⟨wA, hwA⟩ : ∃ wA, wA = w.alloc (.cells #[.slice na n nc, .slice ra rn rc] 45) := ⟨_, rfl⟩
  have hbA : Below w.heap.size w wA := by rw [hwA]; exact (Below.refl _ _).alloc (Nat.le_refl _) _
  have hA : wA.heap[w.heap.size]? = some (.cells #[.slice na n nc, .slice ra rn rc] 45 (0, 0)) := by rw [hwA]; exact heap_alloc_new _ _
  have hbt : ∀ {W}, Below wA.heap.size wA W → Below w.heap.size w W := fun h => hbA.trans (h.mono hbA.size)
  have HBT : Hid (∀ W, Below wA.heap.size wA W → Below w.heap.size w W) := fun W h => hbt h
  have HBOX : Hid (∀ W, Below wA.heap.size wA W → W.cell? ⟨w.heap.size, 0, none⟩ = some (.slice na n nc) ∧ W.cell? ⟨w.heap.size, 1, none⟩ = some (.slice ra rn rc)) := fun W hW => by
    have e := (hW.block w.heap.size (Array.getElem?_eq_some_iff.1 hA).1).trans hA
    exact ⟨by rw [Lib.cell_of_heap e]; rfl, by rw [Lib.cell_of_heap e]; rfl⟩
  have HPT : Hid (∀ W, Below wA.heap.size wA W → ∀ (i : Nat) (x : Ex), xs[i]? = some x → ∃ g, W.cell? ⟨b, i, none⟩ = some (.pointer (some ⟨g, 0, none⟩)) ∧ IsRx (fun _ => True) W x g ∧ x.size ≤ 1000000) := fun W hW i x hxi => by
    obtain ⟨g, h1, h2, h3⟩ := hx i x hxi
    have h4 := hc i g h1
    exact ⟨g, ((hbt hW).cell (World.block_lt_of_cell? _ _ h4)).trans h4, IsRx.stay (Stay.below (hbt hW)) (fun _ h => h) x g h2, h3⟩
  have HNU : Hid (∀ W s, Below wA.heap.size wA W → Calls Tryz.prog 23 #[.agg #[.slice na n nc, .slice ra rn rc], .string ⟨s.toArray⟩] W fun e w' => e = .returned (.int .i64 (Ld.number ns s)) ∧ Below W.heap.size W w') := fun W s hW => rNumber_any ns _ _ s W (hn.below (hbt hW)) ⟨_, _, _, rfl⟩
  have HL : Hid (∀ W, Below wA.heap.size wA W → RLaid W) := fun W hW => hL.below (hbt hW)
  have HQ := hide hq
  have HWA := hide hwA
  clear hn hL hc hx hbA hA hbt hwA hq hnn
  go_enter Tryz.func13, Tryz.ntmps13
  go_wp2_with fail
  rw [← HWA.out]
  go_loopw [5] (fun i wr => ∃ k : Nat, k ≤ q ∧ i = .int .i64 (k : Int) ∧ Hid ((xs.take k).all (Pr.has ns) = true) ∧ Hid (Below wA.heap.size wA wr)) (fun i _ => q - (intOf i).toNat)
  case atStart => exact ⟨0, Nat.zero_le _, rfl, rfl, Below.refl _ _⟩
  case round =>
    obtain ⟨k, hk, rfl, HAL, HB⟩ := hrel
    obtain ⟨wo, hwo⟩ : ∃ wo, wo = wr := ⟨_, rfl⟩
    subst hwo
    by_cases hlt : k < q
    · have hki : (k : Int) < (q : Int) := by omega
      have hkx : k < xs.length := by rw [← HQ.out]; exact hlt
      obtain ⟨g, cg, hxg, hsz⟩ := HPT.out wo HB.out k _ (List.getElem?_eq_getElem hkx)
      obtain ⟨ml, hml⟩ := (HL.out wo HB.out).len
      have HNM := hide (RNames_any _ xs[k] g ml wo hxg hsz (World.block_lt_of_cell? _ _ hml) hml)
      have HSU : Hid ((xs.take (k + 1)).all (Pr.has ns) = Pr.has ns xs[k]) := by
        show _ = _
        rw [List.take_succ_eq_append_getElem hkx, List.all_append, HAL.out]
        simp
      have HNO : Hid (Pr.has ns xs[k] = false → xs.all (Pr.has ns) = false) := fun h => by
        rw [List.all_eq_false]
        exact ⟨_, List.getElem_mem hkx, by rw [h]; exact Bool.false_ne_true⟩
      generalize xs[k] = x at *
      clear hml hxg hsz hkx
      go_wp2_with fail
      refine HNM.out.mono ?_
      rintro e w3 ⟨sv, rfl, hss, hb3⟩
      obtain ⟨sa, sc, rfl, hsl, hsc⟩ := hss.at_
      obtain ⟨L, hLL⟩ : ∃ L, L = (ordered (x.named true)).length := ⟨_, rfl⟩
      have HLL := hide hLL
      rw [← hLL] at hsc hsl ⊢
      have HCE := hide hsc
      have HB3 : Hid (Below wA.heap.size wA w3) := HB.out.trans (hb3.mono HB.out.size)
      clear hsc hb3 hss HNM hLL cg
      go_wp2_with fail
      go_loopw [6] (fun i wr => ∃ z : Nat, z ≤ L ∧ i = .int .i64 (z : Int) ∧ Hid (((ordered (x.named true)).take z).all (fun s => decide (0 ≤ Ld.number ns s)) = true) ∧ Hid (Below w3.heap.size w3 wr)) (fun i _ => L - (intOf i).toNat)
      case atStart => exact ⟨0, Nat.zero_le _, rfl, rfl, Below.refl _ _⟩
      case round =>
        obtain ⟨z, hz, rfl, HZL, HZB⟩ := hrel
        obtain ⟨wi, hwi⟩ : ∃ wi, wi = wr := ⟨_, rfl⟩
        subst hwi
        have HBI : Hid (Below wA.heap.size wA wi) := HB3.out.trans (HZB.out.mono HB3.out.size)
        by_cases hzL : z < L
        · have hzi : (z : Int) < (L : Int) := by omega
          have hzl : z < (ordered (x.named true)).length := by rw [← HLL.out]; exact hzL
          obtain ⟨gz, oz, hsa, hcp, cz⟩ := HCE.out z _ (List.getElem?_eq_getElem hzl)
          subst hsa
          have cz2 := (HZB.out.cell (World.block_lt_of_cell? _ _ cz)).trans cz
          have HZS : Hid (((ordered (x.named true)).take (z + 1)).all (fun s => decide (0 ≤ Ld.number ns s)) = decide (0 ≤ Ld.number ns (ordered (x.named true))[z])) := by
            show _ = _
            rw [List.take_succ_eq_append_getElem hzl, List.all_append, HZL.out]
            simp
          have HZN : Hid (Ld.number ns (ordered (x.named true))[z] < 0 → Pr.has ns x = false) := fun h => by
            unfold Pr.has
            rw [List.all_eq_false]
            exact ⟨_, List.getElem_mem hzl, by simp; omega⟩
          have HNU2 : Hid (∀ W, Below wi.heap.size wi W → Calls Tryz.prog 23 #[.agg #[.slice na n nc, .slice ra rn rc], .string ⟨(ordered (x.named true))[z].toArray⟩] W fun e w' => e = .returned (.int .i64 (Ld.number ns (ordered (x.named true))[z])) ∧ Below W.heap.size W w') := fun W hW => HNU.out W _ (HBI.out.trans (hW.mono HBI.out.size))
          generalize (ordered (x.named true))[z] = s at *
          have HKE : Hid (∀ W, Below wi.heap.size wi W → W.cell? ⟨w.heap.size, 0, none⟩ = some (.slice na n nc) ∧ W.cell? ⟨w.heap.size, 1, none⟩ = some (.slice ra rn rc) ∧ W.cell? ⟨gz, oz + z, none⟩ = some (.string ⟨s.toArray⟩)) := fun W hW => by
            have h := HBOX.out W (HBI.out.trans (hW.mono HBI.out.size))
            exact ⟨h.1, h.2, (hW.cell (World.block_lt_of_cell? _ _ cz2)).trans cz2⟩
          obtain ⟨x0, x1, x2⟩ := HKE.out wi (Below.refl _ _)
          have HDR : Hid (Below wi.heap.size wi wi.drew) := ⟨rfl, rfl, rfl, Nat.le_refl _, fun _ _ => rfl⟩
          clear cz hzl
          go_wp2_with fail
          go_region_held3 (fun W => W.cell? ⟨w.heap.size, 0, none⟩ = some (.slice na n nc) ∧ W.cell? ⟨w.heap.size, 1, none⟩ = some (.slice ra rn rc) ∧ W.cell? ⟨gz, oz + z, none⟩ = some (.string ⟨s.toArray⟩)) ((refine HKE.out _ ?_; first | exact HDR.out | exact HB6.out | exact Below.refl _ _)) ((go_at_call 23; (with_reducible refine (HNU2.out _ HDR.out).mono ?_); rintro e w6 ⟨rfl, hb6⟩; have HB6 : Hid (Below wi.heap.size wi w6) := HDR.out.trans hb6; clear hb6))
          obtain ⟨y, hy⟩ : ∃ y, y = Ld.number ns s := ⟨_, rfl⟩
          have HY := hide hy
          rw [← hy] at HZS HZN ⊢
          clear hy
          by_cases hy0 : y < 0
          · have HF : Hid (xs.all (Pr.has ns) = false) := HNO.out (HZN.out hy0)
            have HBF := hide (HBT.out w6 (HBI.out.trans (HB6.out.mono HBI.out.size)))
            go_wp2_with fail
            go_ret
            exact ⟨ret_bool HF.out.symm, HBF.out⟩
          · have HZ2 : Hid (((ordered (x.named true)).take (z + 1)).all (fun s => decide (0 ≤ Ld.number ns s)) = true) := by show _ = _; rw [HZS.out]; simp; omega
            have HBF : Hid (Below w3.heap.size w3 w6) := HZB.out.trans (HB6.out.mono HZB.out.size)
            go_wp2_with fail
            go_roundw
            case rel => exact ⟨z + 1, by omega, by go_num, HZ2.out, HBF.out⟩
            case measure => simp [intOf]; omega
        · obtain rfl : z = L := by omega
          have HH : Hid (Pr.has ns x = true) := by
            have h := HZL.out
            rw [List.take_of_length_le (by rw [← HLL.out]; exact Nat.le_refl _)] at h
            exact h
          have hzi : ¬ (z : Int) < (z : Int) := by omega
          go_wp2_with fail
          go_roundw
          case rel => exact ⟨k + 1, by omega, by go_num, by rw [HSU.out]; exact HH.out, HBI.out⟩
          case measure => simp [intOf]; omega
    · obtain rfl : k = q := by omega
      have HF : Hid (xs.all (Pr.has ns) = true) := by
        have h := HAL.out
        rw [List.take_of_length_le (by rw [← HQ.out]; exact Nat.le_refl _)] at h
        exact h
      have HBF := hide (HBT.out wo HB.out)
      have hki : ¬ (k : Int) < (k : Int) := by omega
      go_wp2_with fail
      go_ret
      exact ⟨ret_bool HF.out.symm, HBF.out⟩
end Rf
end
end Go.Proofs.YtgldbliohpfljaaGreatDoor
