/-
  The walk of the statements' own read. The walk of SliceTidy: a program that is made tidy does the same, scan by scan, and has no more rungs.
-/
import Derived.Test.YtgoabhclnicepaaGreatDoorKeInputsAll
import Derived.Test.YtgoabhclnicepaaGreatDoorLdParseW
import Derived.Test.YtgoabhclnicepaaGreatDoorRfMathAll
import Derived.Test.YtgoabhclnicepaaGreatDoorMcCloneNAll
import Derived.Test.YtgoabhclnicepaaGreatDoorEvEvalAll
import Derived.Deep.QuietTactic
import Derived.BigQuiet
namespace Go.Proofs.YtgoabhclnicepaaGreatDoor
section
open Go.RowKit
def prgOf : (Nat × Option Nat) ⊕ Ld.Prg → Option Ld.Prg
  | .inr p => some p
  | .inl _ => none
/-- a program of few scans -/
def readP (s : ByteArray) : Option Ld.Prg := if 1500 < s.size then none else prgOf (Ld.parse s.data.toList)
def KRead (w : World) (r : Option Ld.Prg) (e : Ending) (w' : World) : Prop :=
  Below w.heap.size w w' ∧ match r with
    | none => e = .returned (.tuple #[.agg #[.slice none 0 0, .slice none 0 0], .bool false])
    | some p => ∃ v, e = .returned (.tuple #[v, .bool true]) ∧ IsPrg w' p v ∧ Ld.check p = none
/-- a block in which slices alone lie -/
def Slices (w : World) (b : Nat) : Prop := ∀ i u, w.cell? ⟨b, i, none⟩ = some u → ∃ a n c, u = .slice a n c
theorem IsEx.off {ok : Nat → Prop} {w : World} {b : Nat} (hb : Slices w b) : ∀ (x : Ex) (v : Value), IsEx ok w x v → IsEx (fun g => ok g ∧ g ≠ b) w x v := by
  intro x
  induction x using Ex.ind with
  | h k nm l ih =>
    intro v h
    have hrow : ∀ g, Row w g (l.map fun x => IsEx ok w x) → Row w g (l.map fun x => IsEx (fun g => ok g ∧ g ≠ b) w x) := by
      intro g hr i P hP
      rw [List.getElem?_map] at hP
      cases hl : l[i]? with
      | none => rw [hl] at hP; simp at hP
      | some y =>
        rw [hl] at hP
        simp only [Option.map_some, Option.some.injEq] at hP
        obtain ⟨u, hu, hx⟩ := hr i (IsEx ok w y) (by rw [List.getElem?_map, hl]; rfl)
        exact ⟨u, hu, by rw [← hP]; exact ih y (List.mem_of_getElem? hl) u hx⟩
    have hlist : ∀ t, IsList ok w t l.length (l.map fun x => IsEx ok w x) v → IsList (fun g => ok g ∧ g ≠ b) w t l.length (l.map fun x => IsEx (fun g => ok g ∧ g ≠ b) w x) v := by
      rintro t ⟨h1, h2, g, cap, h3, h4, h5, h6⟩
      refine ⟨h1, h2, g, cap, h3, h4, ⟨h5, ?_⟩, hrow g h6⟩
      intro e
      subst e
      have hl : l[0]? = some (l[0]'(by omega)) := List.getElem?_eq_getElem _
      obtain ⟨u, hu, hx⟩ := h6 0 (IsEx ok w (l[0]'(by omega))) (by rw [List.getElem?_map, hl]; rfl)
      obtain ⟨a, n, c, rfl⟩ := hb 0 u hu
      obtain ⟨_, _, hy⟩ := IsEx.iface _ _ hx
      cases hy
    match k, h with
    | 0, h => simp only [IsEx] at h ⊢; exact h
    | 1, h => simp only [IsEx] at h ⊢; exact h
    | 2, h => simp only [IsEx] at h ⊢; exact h
    | 3, h => simp only [IsEx] at h ⊢; exact h
    | 4, h => simp only [IsEx] at h ⊢; exact h
    | 5, h =>
      simp only [IsEx] at h ⊢
      obtain ⟨h1, h2, u, h3, h4⟩ := h
      refine ⟨h1, h2, u, h3, ?_⟩
      intro P hP
      rw [List.getElem?_map] at hP
      cases hl : l[0]? with
      | none => rw [hl] at hP; simp at hP
      | some y =>
        rw [hl] at hP
        simp only [Option.map_some, Option.some.injEq] at hP
        rw [← hP]
        exact ih y (List.mem_of_getElem? hl) u (h4 _ (by rw [List.getElem?_map, hl]; rfl))
    | 6, h => simp only [IsEx] at h ⊢; exact ⟨h.1, hlist _ h.2⟩
    | 7, h => simp only [IsEx] at h ⊢; exact ⟨h.1, hlist _ h.2⟩
    | n + 8, h => simp only [IsEx] at h
/-- a program stands where a block turns in which slices alone lie -/
theorem IsPrg.off {w w' : World} {p : Ld.Prg} {v : Value} (h : IsPrg w p v) (b : Nat) (hb : Slices w b) (hk : ∀ k, k ≠ b → w'.heap[k]? = w.heap[k]?) : IsPrg w' p v := by
  have hc : ∀ g i, g ≠ b → w'.cell? ⟨g, i, none⟩ = w.cell? ⟨g, i, none⟩ := fun g i hg => World.cell?_of_block (w' := w') (w := w) (hk g hg)
  obtain ⟨nv, rv, h1, h2, h3⟩ := h
  refine ⟨nv, rv, h1, ?_, ?_⟩
  · rcases h2 with h2 | ⟨g, cap, e1, e2, e3, e4⟩
    · exact .inl h2
    · refine .inr ⟨g, cap, e1, e2, e3, fun i n hi => ?_⟩
      obtain ⟨f1, f2, f3, f4⟩ := e4 i n hi
      have hg : g ≠ b := by
        intro e
        subst e
        obtain ⟨_, _, _, hx⟩ := hb _ _ f1
        cases hx
      exact ⟨(hc g _ hg).trans f1, (hc g _ hg).trans f2, (hc g _ hg).trans f3, f4⟩
  · rcases h3 with h3 | ⟨g, cap, e1, e2, e3, e4⟩
    · exact .inl h3
    · refine .inr ⟨g, cap, e1, e2, e3, fun i n hi => ?_⟩
      obtain ⟨u, f1, f2, f3, f4, f5, f6⟩ := e4 i n hi
      have hg : g ≠ b := by
        intro e
        subst e
        obtain ⟨_, _, _, hx⟩ := hb _ _ f1
        cases hx
      refine ⟨u, (hc g _ hg).trans f1, (hc g _ hg).trans f2, (hc g _ hg).trans f3, f4, f5, ?_⟩
      cases hcd : n.cond with
      | none => rw [hcd] at f6; exact f6
      | some x =>
        rw [hcd] at f6
        exact ⟨IsEx.stay (fun g i u hg hc2 => (hc g i hg.2).trans hc2) (fun _ _ => trivial) x u (IsEx.off hb x u f6.1), f6.2⟩
theorem slices_two {w : World} {b : Nat} {x y : Value} {t : TypeId} (h : w.heap[b]? = some (.cells #[x, y] t (0, 0))) (hx : ∃ a n c, x = .slice a n c) (hy : ∃ a n c, y = .slice a n c) : Slices w b := by
  intro i u hu
  rw [Lib.cell_of_heap h] at hu
  match i, hu with
  | 0, hu => simp at hu; subst hu; exact hx
  | 1, hu => simp at hu; subst hu; exact hy
  | n + 2, hu => simp at hu
set_option maxHeartbeats 4000000 in
set_option maxRecDepth 100000 in
theorem kread_any (s : ByteArray) (w : World) (hs : s.size ≤ maxLen) (hL : Laid w) :
    Calls Tryz.prog 5 #[.string s] w (KRead w (readP s)) := by
  have hs' := hs
  unfold maxLen at hs'
  by_cases q1 : 1500 < s.size
  · have q1' : (1500 : Int) < (s.size : Int) := by omega
    have HR : Hid (readP s = none) := by show _ = _; rw [readP, if_pos q1]
    go_enter Tryz.func5, Tryz.ntmps5
    go_wp2_with fail
    refine bodyPost_ret_by (v := .tuple #[.agg #[.slice none 0 0, .slice none 0 0], .bool false]) ?_ rfl ?_
    · simp [results, Tryz.results5, go_sem]
    · rw [HR.out]; exact ⟨(Below.refl _ _).alloc (Nat.le_refl _) _, rfl⟩
  have q1' : ¬ (1500 : Int) < (s.size : Int) := by omega
  have HP := hide (LParse_any s.data.toList (w.alloc (.cells #[.slice none 0 0, .slice none 0 0] 26)) (by unfold maxLen; rw [show s.data.toList.length = s.size from rfl]; exact hs') (hL.below ((Below.refl _ _).alloc (Nat.le_refl _) _)))
  change Hid (Calls Tryz.prog 17 #[.string s] _ (LParsed _ (Ld.parse s.data.toList))) at HP
  obtain ⟨T, hT⟩ : ∃ T, T = Ld.parse s.data.toList := ⟨_, rfl⟩
  have HR : Hid (readP s = prgOf T) := by show _ = _; rw [readP, if_neg q1, hT]
  have HT := hide hT
  rw [← hT] at HP
  clear hT q1 hL
  obtain ⟨wA, hwA⟩ : ∃ wA, wA = w.alloc (.cells #[.slice none 0 0, .slice none 0 0] 26) := ⟨_, rfl⟩
  have HWA := hide hwA
  go_enter Tryz.func5, Tryz.ntmps5
  go_wp2_with fail
  refine HP.out.mono ?_
  intro e w1 hq
  rw [← hwA] at hq
  clear HP
  match T, hq, HT, HR with
  | .inl (err, pl), hq, _, HR =>
    obtain ⟨hb1, u, rfl, hu⟩ := hq
    obtain ⟨tu, yu, hiu⟩ : ∃ tu yu, u = .iface tu yu := by
      match pl, hu with
      | none, h => exact ⟨_, _, h⟩
      | some i, ⟨a, h, _⟩ => exact ⟨_, _, h⟩
    subst hiu
    have hz := hb1.size
    have hsA : wA.heap.size = w.heap.size + 1 := by rw [hwA]; simp
    obtain ⟨wB, hwB⟩ : ∃ wB, wB = w1.alloc (.cells #[.slice none 0 0, .slice none 0 0] 26) := ⟨_, rfl⟩
    have hbB : Below w1.heap.size w1 wB := by rw [hwB]; exact (Below.refl _ _).alloc (Nat.le_refl _) _
    have hA : wB.heap[w.heap.size]? = some (.cells #[.slice none 0 0, .slice none 0 0] 26 (0, 0)) := (hbB.block _ (by omega)).trans ((hb1.block _ (by omega)).trans (by rw [hwA]; exact heap_alloc_new _ _))
    have hB : wB.heap[w1.heap.size]? = some (.cells #[.slice none 0 0, .slice none 0 0] 26 (0, 0)) := by rw [hwB]; exact heap_alloc_new _ _
    have y0 : wB.cell? ⟨w.heap.size, 0, none⟩ = some (.slice none 0 0) := by rw [Lib.cell_of_heap hA]; rfl
    have y1 : wB.cell? ⟨w.heap.size, 1, none⟩ = some (.slice none 0 0) := by rw [Lib.cell_of_heap hA]; rfl
    have y2 : wB.frozen? ⟨w.heap.size, 0, none⟩ = false := Lib.frozen_of_heap hA 0
    have y3 : wB.frozen? ⟨w.heap.size, 1, none⟩ = false := Lib.frozen_of_heap hA 1
    have y4 : wB.cell? ⟨w1.heap.size, 0, none⟩ = some (.slice none 0 0) := by rw [Lib.cell_of_heap hB]; rfl
    have y5 : wB.cell? ⟨w1.heap.size, 1, none⟩ = some (.slice none 0 0) := by rw [Lib.cell_of_heap hB]; rfl
    have hne : w1.heap.size ≠ w.heap.size := by omega
    have HBB : Hid (Below w.heap.size w wB) := by
      have hbA : Below w.heap.size w wA := by rw [hwA]; exact (Below.refl _ _).alloc (Nat.le_refl _) _
      exact hbA.trans ((hb1.trans (hbB.mono hb1.size)).mono (by omega))
    have HB1 := hide hb1
    have HB2 := hide hbB
    have HAB := hide hA
    have hlt1 : w.heap.size < wB.heap.size := by have := hbB.size; omega
    clear hb1 hA hB hwA hbB
    go_wp2_with fail
    rw [← hwB]
    clear hwB
    go_region
    all_goals go_wp2_with fail
    all_goals
      refine bodyPost_ret_by (v := .tuple #[.agg #[.slice none 0 0, .slice none 0 0], .bool false]) ?_ rfl ?_
      · simp [results, Tryz.results5, go_sem, y0, y1]
      · rw [HR.out]
        refine ⟨?_, rfl⟩
        exact ((HBB.out.setCell (p := ⟨w.heap.size, 0, none⟩) (Nat.le_refl _) _).setCell (p := ⟨w.heap.size, 1, none⟩) (Nat.le_refl _) _).drew
  | .inr p, hq, HT, HR =>
    obtain ⟨hb1, v, rfl, hp1, hex⟩ := hq
    have HP1 := hide hp1
    have HCK := hide (Ld.parse_check _ p HT.out.symm)
    obtain ⟨nv, rv, rfl, hn, hr⟩ := hp1
    obtain ⟨na, nc, rfl, _⟩ := hn.slice
    obtain ⟨ra, rc, rfl, _⟩ := hr.slice
    obtain ⟨n, hnn⟩ : ∃ n, n = p.names.length := ⟨_, rfl⟩
    obtain ⟨m, hmm⟩ : ∃ m, m = p.rungs.length := ⟨_, rfl⟩
    rw [← hnn, ← hmm] at HP1 ⊢
    clear hnn hmm hn hr hex
    have hz := hb1.size
    have hsA : wA.heap.size = w.heap.size + 1 := by rw [hwA]; simp
    obtain ⟨wB, hwB⟩ : ∃ wB, wB = w1.alloc (.cells #[.slice na n nc, .slice ra m rc] 26) := ⟨_, rfl⟩
    have hbB : Below w1.heap.size w1 wB := by rw [hwB]; exact (Below.refl _ _).alloc (Nat.le_refl _) _
    have hA : wB.heap[w.heap.size]? = some (.cells #[.slice none 0 0, .slice none 0 0] 26 (0, 0)) := (hbB.block _ (by omega)).trans ((hb1.block _ (by omega)).trans (by rw [hwA]; exact heap_alloc_new _ _))
    have hB : wB.heap[w1.heap.size]? = some (.cells #[.slice na n nc, .slice ra m rc] 26 (0, 0)) := by rw [hwB]; exact heap_alloc_new _ _
    have y0 : wB.cell? ⟨w.heap.size, 0, none⟩ = some (.slice none 0 0) := by rw [Lib.cell_of_heap hA]; rfl
    have y1 : wB.cell? ⟨w.heap.size, 1, none⟩ = some (.slice none 0 0) := by rw [Lib.cell_of_heap hA]; rfl
    have y2 : wB.frozen? ⟨w.heap.size, 0, none⟩ = false := Lib.frozen_of_heap hA 0
    have y3 : wB.frozen? ⟨w.heap.size, 1, none⟩ = false := Lib.frozen_of_heap hA 1
    have y4 : wB.cell? ⟨w1.heap.size, 0, none⟩ = some (.slice na n nc) := by rw [Lib.cell_of_heap hB]; rfl
    have y5 : wB.cell? ⟨w1.heap.size, 1, none⟩ = some (.slice ra m rc) := by rw [Lib.cell_of_heap hB]; rfl
    have hne : w1.heap.size ≠ w.heap.size := by omega
    have HBB : Hid (Below w.heap.size w wB) := by
      have hbA : Below w.heap.size w wA := by rw [hwA]; exact (Below.refl _ _).alloc (Nat.le_refl _) _
      exact hbA.trans ((hb1.trans (hbB.mono hb1.size)).mono (by omega))
    have HB1 := hide hb1
    have HB2 := hide hbB
    have HAB := hide hA
    have hlt1 : w.heap.size < wB.heap.size := by have := hbB.size; omega
    clear hb1 hA hB hwA hbB
    go_wp2_with fail
    rw [← hwB]
    clear hwB
    go_region
    all_goals go_wp2_with fail
    all_goals
      refine bodyPost_ret_by (v := .tuple #[.agg #[.slice na n nc, .slice ra m rc], .bool true]) ?_ rfl ?_
      · simp [results, Tryz.results5, go_sem, y0, y1]
      · rw [HR.out]
        refine ⟨?_, _, rfl, ?_, HCK.out⟩
        · exact ((HBB.out.setCell (p := ⟨w.heap.size, 0, none⟩) (Nat.le_refl _) _).setCell (p := ⟨w.heap.size, 1, none⟩) (Nat.le_refl _) _).drew
        · exact (HP1.out.below HB2.out).off w.heap.size (slices_two HAB.out ⟨_, _, _, rfl⟩ ⟨_, _, _, rfl⟩) (fun k hk => (Below.heap_setCell _ _ _ _ (fun e => hk e)).trans (Below.heap_setCell _ _ _ _ (fun e => hk e)))
end
section
open Go.RowKit
namespace Sl
theorem read_par (s : ByteArray) (p : Ld.Prg) (h : readP s = some p) : Ld.Par p.rungs := by
  unfold readP at h
  split at h
  · cases h
  · cases hp : Ld.parse s.data.toList with
    | inl e => rw [hp] at h; cases h
    | inr q =>
      rw [hp] at h
      simp only [prgOf, Option.some.injEq] at h
      rw [← h]
      exact Ld.parse_par _ q hp
theorem state_bools {W : World} {gi gc : Nat} {s : Sc.St} {n : Nat} (h : StAt W gi gc s) (hn : s.is.length = n) (hl : n ≤ 1000000) : Bools W (slV gi n) s.is := by
  subst hn
  exact ⟨some ⟨gi, 0, none⟩, s.is.length, rfl, hl, fun i b hi => ⟨gi, rfl, by rw [Lib.cell_of_heap h.bi]; simp [hi, boolV]⟩⟩
theorem state_ints {W : World} {gi gc : Nat} {s : Sc.St} {n : Nat} (h : StAt W gi gc s) (hn : s.ct.length = n) (hc : ∀ c, c ∈ s.ct → 0 ≤ c ∧ c ≤ 7) : Ints W (slV gc n) s.ct := by
  subst hn
  refine .inr ⟨gc, 0, s.ct.length, rfl, Nat.le_refl _, fun k x hx => ⟨by rw [Nat.zero_add, Lib.cell_of_heap h.bc]; simp [hx, iV], ?_⟩⟩
  have := hc x (List.mem_of_getElem? hx)
  exact ⟨by omega, by omega⟩
theorem plays_get (p : Ld.Prg) (ins : List (List Bool)) (c i : Nat) (hi : i < c) : (Sc.plays p ins c)[i]? = some (Sc.after p (ins.take (i + 1))) := by
  unfold Sc.plays
  rw [List.getElem?_map, List.getElem?_range hi, Option.map_some]
set_option maxHeartbeats 8000000 in
set_option maxRecDepth 100000 in
theorem sliceTidy_any (s : ByteArray) (l : List Int) (lv : Value) (w : World) (hs : s.size ≤ maxLen) (hl : Ints w lv l) (hlm : l.length ≤ maxLen) (hL : Laid w) :
    Calls Tryz.prog 4 #[.string s, lv] w fun e w' => e = .returned (.bool true) ∧ Below w.heap.size w w' := by
  unfold maxLen at hlm
  have HR := hide (kread_any s w hs hL)
  have HRP := hide (read_par s)
  have HLI := hide hl
  have HL := hide hL
  obtain ⟨la, lc, rfl⟩ := hl.slice
  obtain ⟨c, hcc⟩ : ∃ c, c = l.length := ⟨_, rfl⟩
  have HC := hide hcc
  rw [← hcc] at HLI hlm ⊢
  clear hl hcc hL
  obtain ⟨R, hR⟩ : ∃ R, R = readP s := ⟨_, rfl⟩
  rw [← hR] at HR HRP
  clear hR
  go_enter Tryz.func4, Tryz.ntmps4
  go_wp2_with fail
  refine HR.out.mono ?_
  intro e w1 hq
  clear HR
  match R, HRP, hq with
  | none, _, ⟨hb1, he⟩ =>
    subst he
    have hb2 : Below w.heap.size w (w1.alloc (.cells #[.slice none 0 0, .slice none 0 0] 26)) := hb1.alloc hb1.size _
    have HB2 := hide hb2
    have HSL := hide (sliced_any _ (HL.out.below hb2))
    clear hb1 hb2
    go_wp2_with fail
    refine HSL.out.mono ?_
    rintro e w3 ⟨rfl, hb3⟩
    have HB3 := hide (HB2.out.trans (hb3.mono HB2.out.size))
    clear hb3 HSL
    go_wp2_with fail
    go_ret
    exact ⟨rfl, HB3.out⟩
  | some p, HRP, ⟨hb1, v, he, hp1, hck⟩ =>
    subst he
    have hpar := HRP.out p rfl
    have HPAR := hide hpar
    have HWF := hide (par_wf hpar)
    have HB1 := hide hb1
    have HP1 := hide hp1
    have HCK := hide hck
    have hkl : (Ld.kindL p.names 1).length ≤ 12 := Nat.le_trans (Ld.placesTo_le _ _ _) (Ld.check_names p hck).1
    have h12 := (Ld.check_names p hck).1
    have h40 := (Ld.check_names p hck).2.1
    have hfew := tidy_fewer p
    obtain ⟨nv, rv, rfl, hn, hr⟩ := hp1
    have HNA := hide hn
    obtain ⟨na, nc, rfl, _⟩ := hn.slice
    obtain ⟨ra, rc, rfl, _⟩ := hr.slice
    obtain ⟨n, hnn⟩ : ∃ n, n = p.names.length := ⟨_, rfl⟩
    obtain ⟨m, hmm⟩ : ∃ m, m = p.rungs.length := ⟨_, rfl⟩
    have HN := hide hnn
    rw [← hnn] at HP1 HNA h12 ⊢
    rw [← hmm] at HP1 h40 hfew ⊢
    clear hnn hmm hn hr hck hb1 HRP hpar
    obtain ⟨wA, hwA⟩ : ∃ wA, wA = w1.alloc (.cells #[.slice na n nc, .slice ra m rc] 26) := ⟨_, rfl⟩
    have hbA : Below w1.heap.size w1 wA := by rw [hwA]; exact (Below.refl _ _).alloc (Nat.le_refl _) _
    have hsA : wA.heap.size = w1.heap.size + 1 := by rw [hwA]; simp
    have hA : wA.heap[w1.heap.size]? = some (.cells #[.slice na n nc, .slice ra m rc] 26 (0, 0)) := by rw [hwA]; exact heap_alloc_new _ _
    have hbwA : Below w.heap.size w wA := HB1.out.trans (hbA.mono HB1.out.size)
    have HSL := hide (sliced_any wA (HL.out.below hbwA))
    have HBWA := hide hbwA
    have HTI := hide (STidy_any p _ wA (HP1.out.below hbA) HCK.out HPAR.out (show Pow wA from (HL.out.below hbwA).pows))
    rw [hwA] at HTI HSL
    have HWA := hide hwA
    have HBA := hide hbA
    have HA := hide hA
    clear hwA hbA hA hbwA
    by_cases q1 : 40 < c
    · have q1' : (40 : Int) < (c : Int) := by omega
      go_wp2_with fail
      refine HSL.out.mono ?_
      rintro e w3 ⟨rfl, hb3⟩
      rw [← HWA.out] at hb3
      have HB3 := hide (HBWA.out.trans (hb3.mono HBWA.out.size))
      clear hb3 HSL
      go_wp2_with fail
      go_ret
      exact ⟨rfl, HB3.out⟩
    have q1' : ¬ (40 : Int) < (c : Int) := by omega
    have q40 : c ≤ 40 := by omega
    clear q1 HSL
    go_wp2_with fail
    refine HTI.out.mono ?_
    rintro e w2 ⟨pv, rfl, hpq, hb2⟩
    rw [← HWA.out] at hb2
    have HPQ := hide hpq
    obtain ⟨nv2, rv2, rfl, hn2, hr2⟩ := hpq
    obtain ⟨na2, nc2, rfl, _⟩ := hn2.slice
    obtain ⟨ra2, rc2, rfl, _⟩ := hr2.slice
    have hzn : (tidy p).names.length = n := HN.out.symm
    obtain ⟨m2, hm2⟩ : ∃ m2, m2 = (tidy p).rungs.length := ⟨_, rfl⟩
    rw [hzn, ← hm2] at HPQ ⊢
    rw [← hm2] at hfew
    have hz2 := hb2.size
    obtain ⟨wC, hwC⟩ : ∃ wC, wC = w2.alloc (.cells #[.slice na2 n nc2, .slice ra2 m2 rc2] 26) := ⟨_, rfl⟩
    have hbC : Below w2.heap.size w2 wC := by rw [hwC]; exact (Below.refl _ _).alloc (Nat.le_refl _) _
    have hsC : wC.heap.size = w2.heap.size + 1 := by rw [hwC]; simp
    have hC : wC.heap[w2.heap.size]? = some (.cells #[.slice na2 n nc2, .slice ra2 m2 rc2] 26 (0, 0)) := by rw [hwC]; exact heap_alloc_new _ _
    have HBX : Hid (∀ (W : World), Below wC.heap.size wC W → (W.cell? ⟨w1.heap.size, 0, none⟩ = some (.slice na n nc) ∧ W.cell? ⟨w1.heap.size, 1, none⟩ = some (.slice ra m rc)) ∧ (W.cell? ⟨w2.heap.size, 0, none⟩ = some (.slice na2 n nc2) ∧ W.cell? ⟨w2.heap.size, 1, none⟩ = some (.slice ra2 m2 rc2)) ∧ Below w2.heap.size w2 W ∧ Below w1.heap.size w1 W ∧ Below w.heap.size w W) := by
      intro W hW
      have h1 : Below w2.heap.size w2 W := hbC.trans (hW.mono hbC.size)
      have h2 : Below wA.heap.size wA W := hb2.trans (h1.mono hb2.size)
      have e0 := (h2.block w1.heap.size (by omega)).trans HA.out
      have e1 := (hW.block w2.heap.size (by omega)).trans hC
      exact ⟨⟨by rw [Lib.cell_of_heap e0]; rfl, by rw [Lib.cell_of_heap e0]; rfl⟩, ⟨by rw [Lib.cell_of_heap e1]; rfl, by rw [Lib.cell_of_heap e1]; rfl⟩, h1, HBA.out.trans (h2.mono HBA.out.size), HBWA.out.trans (h2.mono HBWA.out.size)⟩
    obtain ⟨_, _, _, _, hwCw⟩ := HBX.out wC (Below.refl _ _)
    have HSL := hide (sliced_any wC (HL.out.below hwCw))
    rw [hwC] at HSL
    have HWC := hide hwC
    have hw12 : w1.heap.size < w2.heap.size := by omega
    clear hn2 hr2 hb2 HTI hwC hbC hC hwCw hm2
    go_wp2_with fail
    refine HSL.out.mono ?_
    rintro e w3 ⟨rfl, hb3⟩
    rw [← HWC.out] at hb3
    have HB3 := hide hb3
    have hz3 := hb3.size
    obtain ⟨⟨a0, a1⟩, ⟨a2, a3⟩, _, hb31, _⟩ := HBX.out w3 hb3
    have HKI := hide (Kind_any p.names (.slice na n nc) (.slice ra m rc) 1 w3 (HNA.out.below hb31) ⟨_, _, _, rfl⟩)
    obtain ⟨q, hqq⟩ : ∃ q, q = (Ld.kindL p.names 1).length := ⟨_, rfl⟩
    have HQ := hide hqq
    rw [← hqq] at HKI hkl
    have hfi : ¬ (m : Int) < (m2 : Int) := by omega
    clear hqq hb3 HSL hb31
    go_wp2_with fail
    refine HKI.out.mono ?_
    rintro e w4 ⟨kv, rfl, hown, hb4⟩
    obtain ⟨ka, kc, rfl⟩ := own_slice hown
    have hbC4 : Below wC.heap.size wC w4 := HB3.out.trans (hb4.mono HB3.out.size)
    have HB4 := hide hbC4
    obtain ⟨_, _, _, _, hbw4⟩ := HBX.out w4 hbC4
    have HIN := hide (kinputs_any l _ q w4 (HLI.out.below hbw4) (by rw [← HC.out]; omega) hkl)
    clear hown hb4 hbC4 hbw4 HKI a0 a1 a2 a3
    go_wp2_with fail
    refine HIN.out.mono ?_
    rintro e w5 ⟨iv, rfl, hins, hb5⟩
    have hbC5 : Below wC.heap.size wC w5 := HB4.out.trans (hb5.mono HB4.out.size)
    have HB5 := hide hbC5
    have HINS := hide hins
    obtain ⟨ia, ic, rfl⟩ := hins.slice
    obtain ⟨⟨a0, a1⟩, ⟨a2, a3⟩, _, hb51, _⟩ := HBX.out w5 hbC5
    obtain ⟨ins, hii⟩ : ∃ ins, ins = l.map fun x => bitsTo x q := ⟨_, rfl⟩
    rw [← hii] at HINS ⊢
    have hil : ins.length = c := by rw [hii, List.length_map]; exact HC.out.symm
    have HIQ : Hid (∀ i, i ∈ ins → i.length = (Ld.kindL p.names 1).length) := fun i hi => by
      rw [hii] at hi
      obtain ⟨x, _, rfl⟩ := List.mem_map.1 hi
      rw [bitsTo_len]; exact HQ.out
    have HPL := hide (Play_any p _ _ ins w5 (HP1.out.below hb51) HCK.out HINS.out (by omega) HIQ.out)
    have HIL := hide hil
    have hz5 := hbC5.size
    rw [← HN.out] at HPL
    rw [hil] at HINS HPL ⊢
    clear hins hii hb5 hbC5 HIN hil hb51
    go_wp2_with fail
    refine HPL.out.mono ?_
    rintro e w6 ⟨u1, rfl, hs1, hb6⟩
    have hsl : (Sc.plays p ins c).length = c := Sc.plays_len _ _ _
    have HS1 := hide hs1
    obtain ⟨sa, sc, rfl⟩ := hs1.slice
    rw [hsl] at HS1 ⊢
    have HW6 := hide hb6
    have hbC6 : Below wC.heap.size wC w6 := HB5.out.trans (hb6.mono HB5.out.size)
    have HB6 := hide hbC6
    obtain ⟨_, ⟨d2, d3⟩, hb62, _, _⟩ := HBX.out w6 hbC6
    have HPL2 := hide (Play_any (tidy p) _ _ ins w6 (HPQ.out.below hb62) (check_tidy p HWF.out HCK.out) (HINS.out.below hb6) (by rw [HIL.out]; omega) HIQ.out)
    rw [HIL.out, plays_tidy p HCK.out HWF.out ins HIQ.out c, hzn] at HPL2
    have hz6 := hbC6.size
    clear hs1 hb6 hbC6 HPL a0 a1 a2 a3 hb62
    go_wp2_with fail
    refine HPL2.out.mono ?_
    rintro e w7 ⟨u2, rfl, hs2, hb7⟩
    have HS2 := hide hs2
    obtain ⟨ta, tc, rfl⟩ := hs2.slice
    rw [hsl] at HS2 ⊢
    have HB7 := hide (HB6.out.trans (hb7.mono HB6.out.size))
    have HS1' := hide (HS1.out.below hb7)
    clear hs2 hb7 HPL2 d2 d3 hsl HS1
    go_wp2_with fail
    go_loopw [14] (fun i wr => ∃ k : Nat, k ≤ c ∧ i = .int .i64 (k : Int) ∧ Hid (Below w7.heap.size w7 wr)) (fun i _ => c - (intOf i).toNat)
    case atStart => exact ⟨0, Nat.zero_le _, rfl, Below.refl _ _⟩
    case round =>
      obtain ⟨k, hk, rfl, HBR⟩ := hrel
      have HBC := hide (HB7.out.trans (HBR.out.mono HB7.out.size))
      by_cases hlt : k < c
      · have hpa := plays_get p ins c k hlt
        have hbd := Sc.after_bd p HCK.out (ins.take (k + 1)) (fun i hi => HIQ.out i (List.mem_of_mem_take hi))
        have hbs := hbd.small HCK.out
        obtain ⟨g, hsa, hca, gi, gc, c0, c1, hst⟩ : ∃ g, sa = some ⟨g, 0, none⟩ ∧ c ≤ sc ∧ ∃ gi gc, wr.cell? ⟨g, k * 2, none⟩ = some (slV gi n) ∧ wr.cell? ⟨g, k * 2 + 1, none⟩ = some (slV gc n) ∧ StAt wr gi gc (Sc.after p (ins.take (k + 1))) := by
          rcases HS1'.out.below HBR.out with ⟨h0, _⟩ | ⟨g, cap, h1, h2, h3⟩
          · rw [h0] at hpa; simp at hpa
          · simp only [Value.slice.injEq] at h1
            rw [Sc.plays_len] at h1 h2
            obtain ⟨gi, gc, h4, h5, h6⟩ := h3 k _ hpa
            exact ⟨g, h1.1, by rw [h1.2.2]; exact h2, gi, gc, h4, h5, h6⟩
        obtain ⟨g2, hta, htc, gi2, gc2, c2, c3, hst2⟩ : ∃ g, ta = some ⟨g, 0, none⟩ ∧ c ≤ tc ∧ ∃ gi gc, wr.cell? ⟨g, k * 2, none⟩ = some (slV gi n) ∧ wr.cell? ⟨g, k * 2 + 1, none⟩ = some (slV gc n) ∧ StAt wr gi gc (Sc.after p (ins.take (k + 1))) := by
          rcases HS2.out.below HBR.out with ⟨h0, _⟩ | ⟨g, cap, h1, h2, h3⟩
          · rw [h0] at hpa; simp at hpa
          · simp only [Value.slice.injEq] at h1
            rw [Sc.plays_len] at h1 h2
            obtain ⟨gi, gc, h4, h5, h6⟩ := h3 k _ hpa
            exact ⟨g, h1.1, by rw [h1.2.2]; exact h2, gi, gc, h4, h5, h6⟩
        subst hsa
        subst hta
        have li : (Sc.after p (ins.take (k + 1))).is.length = n := by rw [hbd.li]; exact HN.out.symm
        have lk : (Sc.after p (ins.take (k + 1))).ct.length = n := by rw [hbd.lc]; exact HN.out.symm
        have HSB : Hid (∀ r, Calls Tryz.prog 15 #[slV gi n, slV gi2 n] (wr.drewN r) fun e w' => e = .returned (.bool true) ∧ ∃ m, w' = (wr.drewN r).drewN m) := fun r => sameBQ_any _ _ _ (wr.drewN r) (state_bools (W := wr.drewN r) ⟨hst.bi, hst.bc⟩ li (by omega)) (state_bools (W := wr.drewN r) ⟨hst2.bi, hst2.bc⟩ li (by omega))
        have HSI : Hid (∀ r, Calls Tryz.prog 16 #[slV gc n, slV gc2 n] (wr.drewN r) fun e w' => e = .returned (.bool true) ∧ ∃ m, w' = (wr.drewN r).drewN m) := fun r => sameIQ_any _ _ _ (wr.drewN r) (state_ints (W := wr.drewN r) ⟨hst.bi, hst.bc⟩ lk hbs) (state_ints (W := wr.drewN r) ⟨hst2.bi, hst2.bc⟩ lk hbs) (by rw [lk]; omega)
        unfold slV at c0 c1 c2 c3 HSB HSI
        clear hst hst2 hbd hbs hpa li lk
        go_wp2_with fail
        go_quiet (first | (go_at_call 15; refine Calls.quiet_of (HSB.out _)) | (go_at_call 16; refine Calls.quiet_of (HSI.out _)))
        go_wp2_with fail
        go_roundw
        case rel => exact ⟨k + 1, by omega, by go_num, HBR.out.trans ⟨rfl, rfl, rfl, Nat.le_refl _, fun _ _ => rfl⟩⟩
        case measure => simp [intOf]; omega
      · have hkc : c = k := by omega
        subst hkc
        obtain ⟨_, _, _, _, hbw⟩ := HBX.out wr HBC.out
        have HF := hide hbw
        clear hbw
        go_wp2_with fail
        go_ret
        exact ⟨rfl, HF.out⟩
end Sl
end
end Go.Proofs.YtgoabhclnicepaaGreatDoor
