/-
  The walks of the statements' own read and scanned.
-/
import Derived.Test.YtlgbihmncoeanaaGreatDoorKeInputsAll
import Derived.Test.YtlgbihmncoeanaaGreatDoorScLitAll
namespace Go.Proofs.YtlgbihmncoeanaaGreatDoor
open Go.RowKit
def prgOf : (Nat × Option Nat) ⊕ Ld.Prg → Option Ld.Prg
  | .inr p => some p
  | .inl _ => none
/-- a program of few scans -/
def readP (s : ByteArray) : Option Ld.Prg := if 1500 < s.size then none else prgOf (Ld.parse s.data.toList)
def KRead (w : World) (r : Option Ld.Prg) (e : Ending) (w' : World) : Prop :=
  Below w.heap.size w w' ∧ match r with
    | none => e = .returned (.tuple #[.agg #[.slice none 0 0, .slice none 0 0], .bool false])
    | some p => ∃ v, e = .returned (.tuple #[v, .bool true]) ∧ IsPrg w' p v ∧ Ld.check p = none
/-- a block in which slices alone lie -/
def Slices (w : World) (b : Nat) : Prop := ∀ i u, w.cell? ⟨b, i, none⟩ = some u → ∃ a n c, u = .slice a n c
theorem IsEx.off {ok : Nat → Prop} {w : World} {b : Nat} (hb : Slices w b) : ∀ (x : Ex) (v : Value), IsEx ok w x v → IsEx (fun g => ok g ∧ g ≠ b) w x v := by
  intro x
  induction x using Ex.ind with
  | h k nm l ih =>
    intro v h
    have hrow : ∀ g, Row w g (l.map fun x => IsEx ok w x) → Row w g (l.map fun x => IsEx (fun g => ok g ∧ g ≠ b) w x) := by
      intro g hr i P hP
      rw [List.getElem?_map] at hP
      cases hl : l[i]? with
      | none => rw [hl] at hP; simp at hP
      | some y =>
        rw [hl] at hP
        simp only [Option.map_some, Option.some.injEq] at hP
        obtain ⟨u, hu, hx⟩ := hr i (IsEx ok w y) (by rw [List.getElem?_map, hl]; rfl)
        exact ⟨u, hu, by rw [← hP]; exact ih y (List.mem_of_getElem? hl) u hx⟩
    have hlist : ∀ t, IsList ok w t l.length (l.map fun x => IsEx ok w x) v → IsList (fun g => ok g ∧ g ≠ b) w t l.length (l.map fun x => IsEx (fun g => ok g ∧ g ≠ b) w x) v := by
      rintro t ⟨h1, h2, g, cap, h3, h4, h5, h6⟩
      refine ⟨h1, h2, g, cap, h3, h4, ⟨h5, ?_⟩, hrow g h6⟩
      intro e
      subst e
      have hl : l[0]? = some (l[0]'(by omega)) := List.getElem?_eq_getElem _
      obtain ⟨u, hu, hx⟩ := h6 0 (IsEx ok w (l[0]'(by omega))) (by rw [List.getElem?_map, hl]; rfl)
      obtain ⟨a, n, c, rfl⟩ := hb 0 u hu
      obtain ⟨_, _, hy⟩ := IsEx.iface _ _ hx
      cases hy
    match k, h with
    | 0, h => simp only [IsEx] at h ⊢; exact h
    | 1, h => simp only [IsEx] at h ⊢; exact h
    | 2, h => simp only [IsEx] at h ⊢; exact h
    | 3, h => simp only [IsEx] at h ⊢; exact h
    | 4, h => simp only [IsEx] at h ⊢; exact h
    | 5, h =>
      simp only [IsEx] at h ⊢
      obtain ⟨h1, h2, u, h3, h4⟩ := h
      refine ⟨h1, h2, u, h3, ?_⟩
      intro P hP
      rw [List.getElem?_map] at hP
      cases hl : l[0]? with
      | none => rw [hl] at hP; simp at hP
      | some y =>
        rw [hl] at hP
        simp only [Option.map_some, Option.some.injEq] at hP
        rw [← hP]
        exact ih y (List.mem_of_getElem? hl) u (h4 _ (by rw [List.getElem?_map, hl]; rfl))
    | 6, h => simp only [IsEx] at h ⊢; exact ⟨h.1, hlist _ h.2⟩
    | 7, h => simp only [IsEx] at h ⊢; exact ⟨h.1, hlist _ h.2⟩
    | n + 8, h => simp only [IsEx] at h
/-- a program stands where a block turns in which slices alone lie -/
theorem IsPrg.off {w w' : World} {p : Ld.Prg} {v : Value} (h : IsPrg w p v) (b : Nat) (hb : Slices w b) (hk : ∀ k, k ≠ b → w'.heap[k]? = w.heap[k]?) : IsPrg w' p v := by
  have hc : ∀ g i, g ≠ b → w'.cell? ⟨g, i, none⟩ = w.cell? ⟨g, i, none⟩ := fun g i hg => World.cell?_of_block (w' := w') (w := w) (hk g hg)
  obtain ⟨nv, rv, h1, h2, h3⟩ := h
  refine ⟨nv, rv, h1, ?_, ?_⟩
  · rcases h2 with h2 | ⟨g, cap, e1, e2, e3, e4⟩
    · exact .inl h2
    · refine .inr ⟨g, cap, e1, e2, e3, fun i n hi => ?_⟩
      obtain ⟨f1, f2, f3, f4⟩ := e4 i n hi
      have hg : g ≠ b := by
        intro e
        subst e
        obtain ⟨_, _, _, hx⟩ := hb _ _ f1
        cases hx
      exact ⟨(hc g _ hg).trans f1, (hc g _ hg).trans f2, (hc g _ hg).trans f3, f4⟩
  · rcases h3 with h3 | ⟨g, cap, e1, e2, e3, e4⟩
    · exact .inl h3
    · refine .inr ⟨g, cap, e1, e2, e3, fun i n hi => ?_⟩
      obtain ⟨u, f1, f2, f3, f4, f5, f6⟩ := e4 i n hi
      have hg : g ≠ b := by
        intro e
        subst e
        obtain ⟨_, _, _, hx⟩ := hb _ _ f1
        cases hx
      refine ⟨u, (hc g _ hg).trans f1, (hc g _ hg).trans f2, (hc g _ hg).trans f3, f4, f5, ?_⟩
      cases hcd : n.cond with
      | none => rw [hcd] at f6; exact f6
      | some x =>
        rw [hcd] at f6
        exact ⟨IsEx.stay (fun g i u hg hc2 => (hc g i hg.2).trans hc2) (fun _ _ => trivial) x u (IsEx.off hb x u f6.1), f6.2⟩
theorem slices_two {w : World} {b : Nat} {x y : Value} {t : TypeId} (h : w.heap[b]? = some (.cells #[x, y] t (0, 0))) (hx : ∃ a n c, x = .slice a n c) (hy : ∃ a n c, y = .slice a n c) : Slices w b := by
  intro i u hu
  rw [Lib.cell_of_heap h] at hu
  match i, hu with
  | 0, hu => simp at hu; subst hu; exact hx
  | 1, hu => simp at hu; subst hu; exact hy
  | n + 2, hu => simp at hu
set_option maxHeartbeats 4000000 in
set_option maxRecDepth 100000 in
theorem kread_any (s : ByteArray) (w : World) (hs : s.size ≤ maxLen) (hL : Laid w) :
    Calls Tryz.prog 42 #[.string s] w (KRead w (readP s)) := by
  have hs' := hs
  unfold maxLen at hs'
  by_cases q1 : 1500 < s.size
  · have q1' : (1500 : Int) < (s.size : Int) := by omega
    have HR : Hid (readP s = none) := by show _ = _; rw [readP, if_pos q1]
    go_enter Tryz.func42, Tryz.ntmps42
    go_wp2_with fail
    refine bodyPost_ret_by (v := .tuple #[.agg #[.slice none 0 0, .slice none 0 0], .bool false]) ?_ rfl ?_
    · simp [results, Tryz.results42, go_sem]
    · rw [HR.out]; exact ⟨(Below.refl _ _).alloc (Nat.le_refl _) _, rfl⟩
  have q1' : ¬ (1500 : Int) < (s.size : Int) := by omega
  have HP := hide (LParse_any s.data.toList (w.alloc (.cells #[.slice none 0 0, .slice none 0 0] 28)) (by unfold maxLen; rw [show s.data.toList.length = s.size from rfl]; exact hs') (hL.below ((Below.refl _ _).alloc (Nat.le_refl _) _)))
  change Hid (Calls Tryz.prog 29 #[.string s] _ (LParsed _ (Ld.parse s.data.toList))) at HP
  obtain ⟨T, hT⟩ : ∃ T, T = Ld.parse s.data.toList := ⟨_, rfl⟩
  have HR : Hid (readP s = prgOf T) := by show _ = _; rw [readP, if_neg q1, hT]
  have HT := hide hT
  rw [← hT] at HP
  clear hT q1 hL
  obtain ⟨wA, hwA⟩ : ∃ wA, wA = w.alloc (.cells #[.slice none 0 0, .slice none 0 0] 28) := ⟨_, rfl⟩
  have HWA := hide hwA
  go_enter Tryz.func42, Tryz.ntmps42
  go_wp2_with fail
  refine HP.out.mono ?_
  intro e w1 hq
  rw [← hwA] at hq
  clear HP
  match T, hq, HT, HR with
  | .inl (err, pl), hq, _, HR =>
    obtain ⟨hb1, u, rfl, hu⟩ := hq
    obtain ⟨tu, yu, hiu⟩ : ∃ tu yu, u = .iface tu yu := by
      match pl, hu with
      | none, h => exact ⟨_, _, h⟩
      | some i, ⟨a, h, _⟩ => exact ⟨_, _, h⟩
    subst hiu
    have hz := hb1.size
    have hsA : wA.heap.size = w.heap.size + 1 := by rw [hwA]; simp
    obtain ⟨wB, hwB⟩ : ∃ wB, wB = w1.alloc (.cells #[.slice none 0 0, .slice none 0 0] 28) := ⟨_, rfl⟩
    have hbB : Below w1.heap.size w1 wB := by rw [hwB]; exact (Below.refl _ _).alloc (Nat.le_refl _) _
    have hA : wB.heap[w.heap.size]? = some (.cells #[.slice none 0 0, .slice none 0 0] 28 (0, 0)) := (hbB.block _ (by omega)).trans ((hb1.block _ (by omega)).trans (by rw [hwA]; exact heap_alloc_new _ _))
    have hB : wB.heap[w1.heap.size]? = some (.cells #[.slice none 0 0, .slice none 0 0] 28 (0, 0)) := by rw [hwB]; exact heap_alloc_new _ _
    have y0 : wB.cell? ⟨w.heap.size, 0, none⟩ = some (.slice none 0 0) := by rw [Lib.cell_of_heap hA]; rfl
    have y1 : wB.cell? ⟨w.heap.size, 1, none⟩ = some (.slice none 0 0) := by rw [Lib.cell_of_heap hA]; rfl
    have y2 : wB.frozen? ⟨w.heap.size, 0, none⟩ = false := Lib.frozen_of_heap hA 0
    have y3 : wB.frozen? ⟨w.heap.size, 1, none⟩ = false := Lib.frozen_of_heap hA 1
    have y4 : wB.cell? ⟨w1.heap.size, 0, none⟩ = some (.slice none 0 0) := by rw [Lib.cell_of_heap hB]; rfl
    have y5 : wB.cell? ⟨w1.heap.size, 1, none⟩ = some (.slice none 0 0) := by rw [Lib.cell_of_heap hB]; rfl
    have hne : w1.heap.size ≠ w.heap.size := by omega
    have HBB : Hid (Below w.heap.size w wB) := by
      have hbA : Below w.heap.size w wA := by rw [hwA]; exact (Below.refl _ _).alloc (Nat.le_refl _) _
      exact hbA.trans ((hb1.trans (hbB.mono hb1.size)).mono (by omega))
    have HB1 := hide hb1
    have HB2 := hide hbB
    have HAB := hide hA
    have hlt1 : w.heap.size < wB.heap.size := by have := hbB.size; omega
    clear hb1 hA hB hwA hbB
    go_wp2_with fail
    rw [← hwB]
    clear hwB
    go_region
    all_goals go_wp2_with fail
    all_goals
      refine bodyPost_ret_by (v := .tuple #[.agg #[.slice none 0 0, .slice none 0 0], .bool false]) ?_ rfl ?_
      · simp [results, Tryz.results42, go_sem, y0, y1]
      · rw [HR.out]
        refine ⟨?_, rfl⟩
        exact ((HBB.out.setCell (p := ⟨w.heap.size, 0, none⟩) (Nat.le_refl _) _).setCell (p := ⟨w.heap.size, 1, none⟩) (Nat.le_refl _) _).drew
  | .inr p, hq, HT, HR =>
    obtain ⟨hb1, v, rfl, hp1, hex⟩ := hq
    have HP1 := hide hp1
    have HCK := hide (Ld.parse_check _ p HT.out.symm)
    obtain ⟨nv, rv, rfl, hn, hr⟩ := hp1
    obtain ⟨na, nc, rfl, _⟩ := hn.slice
    obtain ⟨ra, rc, rfl, _⟩ := hr.slice
    obtain ⟨n, hnn⟩ : ∃ n, n = p.names.length := ⟨_, rfl⟩
    obtain ⟨m, hmm⟩ : ∃ m, m = p.rungs.length := ⟨_, rfl⟩
    rw [← hnn, ← hmm] at HP1 ⊢
    clear hnn hmm hn hr hex
    have hz := hb1.size
    have hsA : wA.heap.size = w.heap.size + 1 := by rw [hwA]; simp
    obtain ⟨wB, hwB⟩ : ∃ wB, wB = w1.alloc (.cells #[.slice na n nc, .slice ra m rc] 28) := ⟨_, rfl⟩
    have hbB : Below w1.heap.size w1 wB := by rw [hwB]; exact (Below.refl _ _).alloc (Nat.le_refl _) _
    have hA : wB.heap[w.heap.size]? = some (.cells #[.slice none 0 0, .slice none 0 0] 28 (0, 0)) := (hbB.block _ (by omega)).trans ((hb1.block _ (by omega)).trans (by rw [hwA]; exact heap_alloc_new _ _))
    have hB : wB.heap[w1.heap.size]? = some (.cells #[.slice na n nc, .slice ra m rc] 28 (0, 0)) := by rw [hwB]; exact heap_alloc_new _ _
    have y0 : wB.cell? ⟨w.heap.size, 0, none⟩ = some (.slice none 0 0) := by rw [Lib.cell_of_heap hA]; rfl
    have y1 : wB.cell? ⟨w.heap.size, 1, none⟩ = some (.slice none 0 0) := by rw [Lib.cell_of_heap hA]; rfl
    have y2 : wB.frozen? ⟨w.heap.size, 0, none⟩ = false := Lib.frozen_of_heap hA 0
    have y3 : wB.frozen? ⟨w.heap.size, 1, none⟩ = false := Lib.frozen_of_heap hA 1
    have y4 : wB.cell? ⟨w1.heap.size, 0, none⟩ = some (.slice na n nc) := by rw [Lib.cell_of_heap hB]; rfl
    have y5 : wB.cell? ⟨w1.heap.size, 1, none⟩ = some (.slice ra m rc) := by rw [Lib.cell_of_heap hB]; rfl
    have hne : w1.heap.size ≠ w.heap.size := by omega
    have HBB : Hid (Below w.heap.size w wB) := by
      have hbA : Below w.heap.size w wA := by rw [hwA]; exact (Below.refl _ _).alloc (Nat.le_refl _) _
      exact hbA.trans ((hb1.trans (hbB.mono hb1.size)).mono (by omega))
    have HB1 := hide hb1
    have HB2 := hide hbB
    have HAB := hide hA
    have hlt1 : w.heap.size < wB.heap.size := by have := hbB.size; omega
    clear hb1 hA hB hwA hbB
    go_wp2_with fail
    rw [← hwB]
    clear hwB
    go_region
    all_goals go_wp2_with fail
    all_goals
      refine bodyPost_ret_by (v := .tuple #[.agg #[.slice na n nc, .slice ra m rc], .bool true]) ?_ rfl ?_
      · simp [results, Tryz.results42, go_sem, y0, y1]
      · rw [HR.out]
        refine ⟨?_, _, rfl, ?_, HCK.out⟩
        · exact ((HBB.out.setCell (p := ⟨w.heap.size, 0, none⟩) (Nat.le_refl _) _).setCell (p := ⟨w.heap.size, 1, none⟩) (Nat.le_refl _) _).drew
        · exact (HP1.out.below HB2.out).off w.heap.size (slices_two HAB.out ⟨_, _, _, rfl⟩ ⟨_, _, _, rfl⟩) (fun k hk => (Below.heap_setCell _ _ _ _ (fun e => hk e)).trans (Below.heap_setCell _ _ _ _ (fun e => hk e)))
theorem bools_one {W : World} {g : Nat} {b : Bool} (h : W.heap[g]? = some (.cells #[.bool b] 4 (0, 0))) : Bools W (.slice (some ⟨g, 0, none⟩) 1 1) [b] := by
  refine ⟨_, _, rfl, by simp, fun i x hx => ⟨g, rfl, ?_⟩⟩
  match i, hx with
  | 0, hx => simp only [List.getElem?_cons_zero, Option.some.injEq] at hx; subst hx; rw [Lib.cell_of_heap h]; rfl
  | n + 1, hx => simp at hx
set_option maxHeartbeats 8000000 in
set_option maxRecDepth 100000 in
theorem scanned_any (w : World) (hL : Laid w) : Calls Tryz.prog 44 #[] w fun e w' => e = .returned (.bool true) ∧ Below w.heap.size w w' := by
  have HP := hide (LParse_any [105, 110, 112, 117, 116, 32, 97, 10, 116, 105, 109, 101, 114, 32, 116, 32, 50, 10, 114, 117, 110, 32, 116, 32, 61, 32, 97, 10] w (by decide) hL)
  rw [Ld.lit2_parse] at HP
  clear hL
  go_enter Tryz.func44, Tryz.ntmps44
  go_wp2_with fail
  refine HP.out.mono ?_
  rintro e w1 ⟨hb1, v, rfl, hp1, _⟩
  have HB1 := hide hb1
  have HP1 := hide hp1
  obtain ⟨nv, rv, rfl, hn, hr⟩ := hp1
  obtain ⟨na, nc, rfl, _⟩ := hn.slice
  obtain ⟨ra, rc, rfl, _⟩ := hr.slice
  clear hb1 hn hr HP
  have l1 : Ld.lit2.names.length = 2 := rfl
  have l2 : Ld.lit2.rungs.length = 1 := rfl
  rw [l1, l2] at HP1 ⊢
  obtain ⟨wA, hwA⟩ : ∃ wA, wA = w1.alloc (.cells #[.slice na 2 nc, .slice ra 1 rc] 28) := ⟨_, rfl⟩
  obtain ⟨w2, hw2⟩ : ∃ w2, w2 = wA.alloc (.cells #[.bool true] 4) := ⟨_, rfl⟩
  obtain ⟨w3, hw3⟩ : ∃ w3, w3 = w2.alloc (.cells #[.bool true] 4) := ⟨_, rfl⟩
  obtain ⟨w4, hw4⟩ : ∃ w4, w4 = w3.alloc (.cells #[.bool false] 4) := ⟨_, rfl⟩
  obtain ⟨w5, hw5⟩ : ∃ w5, w5 = w4.alloc (.cells #[.slice (some ⟨w1.heap.size + 1, 0, none⟩) 1 1, .slice (some ⟨w1.heap.size + 1 + 1, 0, none⟩) 1 1, .slice (some ⟨w1.heap.size + 1 + 1 + 1, 0, none⟩) 1 1] 83) := ⟨_, rfl⟩
  have sA : wA.heap.size = w1.heap.size + 1 := by rw [hwA]; simp
  have s2 : w2.heap.size = w1.heap.size + 1 + 1 := by rw [hw2]; simp [sA]
  have s3 : w3.heap.size = w1.heap.size + 1 + 1 + 1 := by rw [hw3]; simp [s2]
  have s4 : w4.heap.size = w1.heap.size + 1 + 1 + 1 + 1 := by rw [hw4]; simp [s3]
  have s5 : w5.heap.size = w1.heap.size + 1 + 1 + 1 + 1 + 1 := by rw [hw5]; simp [s4]
  have bA : Below w1.heap.size w1 wA := by rw [hwA]; exact (Below.refl _ _).alloc (Nat.le_refl _) _
  have b2 : Below wA.heap.size wA w2 := by rw [hw2]; exact (Below.refl _ _).alloc (Nat.le_refl _) _
  have b3 : Below w2.heap.size w2 w3 := by rw [hw3]; exact (Below.refl _ _).alloc (Nat.le_refl _) _
  have b4 : Below w3.heap.size w3 w4 := by rw [hw4]; exact (Below.refl _ _).alloc (Nat.le_refl _) _
  have b5 : Below w4.heap.size w4 w5 := by rw [hw5]; exact (Below.refl _ _).alloc (Nat.le_refl _) _
  have h2 : w2.heap[w1.heap.size + 1]? = some (.cells #[.bool true] 4 (0, 0)) := by rw [← sA, hw2]; exact heap_alloc_new _ _
  have h3 : w3.heap[w1.heap.size + 1 + 1]? = some (.cells #[.bool true] 4 (0, 0)) := by rw [← s2, hw3]; exact heap_alloc_new _ _
  have h4 : w4.heap[w1.heap.size + 1 + 1 + 1]? = some (.cells #[.bool false] 4 (0, 0)) := by rw [← s3, hw4]; exact heap_alloc_new _ _
  have h5 : w5.heap[w1.heap.size + 1 + 1 + 1 + 1]? = some (.cells #[.slice (some ⟨w1.heap.size + 1, 0, none⟩) 1 1, .slice (some ⟨w1.heap.size + 1 + 1, 0, none⟩) 1 1, .slice (some ⟨w1.heap.size + 1 + 1 + 1, 0, none⟩) 1 1] 83 (0, 0)) := by rw [← s4, hw5]; exact heap_alloc_new _ _
  have h2' := (b5.block _ (by omega)).trans ((b4.block _ (by omega)).trans ((b3.block _ (by omega)).trans h2))
  have h3' := (b5.block _ (by omega)).trans ((b4.block _ (by omega)).trans h3)
  have h4' := (b5.block _ (by omega)).trans h4
  have hbW : Below w1.heap.size w1 w5 := bA.trans ((b2.trans ((b3.trans ((b4.trans (b5.mono (by omega))).mono (by omega))).mono (by omega))).mono (by omega))
  have HIN : Hid (InsAt w5 (.slice (some ⟨w1.heap.size + 1 + 1 + 1 + 1, 0, none⟩) 3 3) [[true], [true], [false]]) := by
    refine .inr ⟨_, _, rfl, by decide, fun i l hl => ?_⟩
    match i, hl with
    | 0, hl => simp at hl; subst hl; exact ⟨_, by rw [Lib.cell_of_heap h5]; rfl, bools_one h2'⟩
    | 1, hl => simp at hl; subst hl; exact ⟨_, by rw [Lib.cell_of_heap h5]; rfl, bools_one h3'⟩
    | 2, hl => simp at hl; subst hl; exact ⟨_, by rw [Lib.cell_of_heap h5]; rfl, bools_one h4'⟩
    | n + 3, hl => simp at hl
  have HPL := hide (Play_any Ld.lit2 _ _ [[true], [true], [false]] w5 (HP1.out.below hbW) Ld.lit2_check HIN.out (by decide) (fun i hi => by
    rw [Ld.lit2_inputs]
    simp only [List.mem_cons, List.not_mem_nil, or_false] at hi
    rcases hi with rfl | rfl | rfl <;> rfl))
  have HBW := hide hbW
  have HW5 : Hid (w5 = ((((w1.alloc (.cells #[.slice na 2 nc, .slice ra 1 rc] 28)).alloc (.cells #[.bool true] 4)).alloc (.cells #[.bool true] 4)).alloc (.cells #[.bool false] 4)).alloc (.cells #[.slice (some ⟨w1.heap.size + 1, 0, none⟩) 1 1, .slice (some ⟨w1.heap.size + 1 + 1, 0, none⟩) 1 1, .slice (some ⟨w1.heap.size + 1 + 1 + 1, 0, none⟩) 1 1] 83)) := by
    show _ = _
    rw [hw5, hw4, hw3, hw2, hwA]
  rw [HW5.out] at HPL
  rw [show Sc.plays Ld.lit2 [[true], [true], [false]] [[true], [true], [false]].length = [⟨[true, false], [0, 1]⟩, ⟨[true, true], [0, 2]⟩, ⟨[false, false], [0, 0]⟩] from Sc.lit2_plays, l1] at HPL
  clear hwA hw2 hw3 hw4 hw5 bA b2 b3 b4 b5 h2 h3 h4 h5 h2' h3' h4' hbW HIN l1 l2 sA s2 s3 s4 s5
  go_wp2_with fail
  refine HPL.out.mono ?_
  rintro e w6 ⟨u, rfl, hss, hb6⟩
  rw [← HW5.out] at hb6
  have HB6 := hide (HBW.out.trans (hb6.mono HBW.out.size))
  clear hb6 HPL HW5
  rcases hss with ⟨h0, _⟩ | ⟨g, cap, rfl, hcap, hat⟩
  · cases h0
  obtain ⟨gi0, gc0, c0, c1, st0⟩ := hat 0 _ rfl
  obtain ⟨gi1, gc1, c2, c3, st1⟩ := hat 1 _ rfl
  obtain ⟨gi2, gc2, c4, c5, st2⟩ := hat 2 _ rfl
  have k0 : w6.cell? ⟨gi0, 1, none⟩ = some (.bool false) := st0.cellI 1 (by decide)
  have k1 : w6.cell? ⟨gi1, 1, none⟩ = some (.bool true) := st1.cellI 1 (by decide)
  have k2 : w6.cell? ⟨gc1, 1, none⟩ = some (.int .i64 2) := st1.cellC 1 (by decide)
  have k3 : w6.cell? ⟨gi2, 1, none⟩ = some (.bool false) := st2.cellI 1 (by decide)
  unfold slV at c0 c1 c2 c3 c4 c5
  change w6.cell? ⟨g, 0, none⟩ = _ at c0
  change w6.cell? ⟨g, 2, none⟩ = _ at c2
  change w6.cell? ⟨g, 3, none⟩ = _ at c3
  change w6.cell? ⟨g, 4, none⟩ = _ at c4
  change 3 ≤ cap at hcap
  clear hat st0 st1 st2 c1 c5
  go_wp2_with fail
  go_ret
  exact ⟨rfl, HB1.out.trans (HB6.out.mono HB1.out.size)⟩
end Go.Proofs.YtlgbihmncoeanaaGreatDoor
