/-
  Plain facts: one program and its text; what is read has nothing wrong; how long a read program's parts are. The walk of the statements' own read.
-/
import Derived.Test.YtdmnikbhkpcdpaaGreatDoorLdBack
import Derived.ProofKit
import Derived.Test.YtdmnikbhkpcdpaaGreatDoorMcRowAll
import Derived.Test.YtdmnikbhkpcdpaaGreatDoorLdParseW
namespace Go.Proofs.YtdmnikbhkpcdpaaGreatDoor
section
namespace Ld
def litA : Ex := ⟨2, [97], []⟩
def lit : Prg := ⟨[⟨[97], 1, 0⟩, ⟨[109], 2, 0⟩], [⟨2, [109], some litA⟩]⟩
theorem checked_check (r : Rdg) (p : Prg) (h : checked r = .inr p) : check p = none := by
  unfold checked at h
  split at h
  · rename_i h1; cases h; exact h1
  · cases h
  · cases h
/-- what is read has nothing wrong -/
theorem parse_check (l : List UInt8) (p : Prg) (h : parse l = .inr p) : check p = none := by
  unfold parse at h
  split at h
  · cases h
  · split at h
    · cases h
    · exact checked_check _ p h
theorem litA_text : litA.text = [97] := by simp [litA, Ex.text]
theorem litA_parse : Ex.parse [97] = .inr litA := by kernel_rfl
theorem litA_named : litA.named true = [[97]] := by simp [litA, Ex.named]
theorem lit_check : check lit = none := by
  have h0 : number lit.names [97] = 0 := by kernel_rfl
  have h1 : number lit.names [109] = 1 := by kernel_rfl
  have n1 : Nm.name [97] = true := by kernel_rfl
  have n2 : Nm.name [109] = true := by kernel_rfl
  have a0 : nameAt lit.names 0 = 0 := by rw [nameAt_at _ _ (by decide)]; show wrongN lit.names 0 ⟨[97], 1, 0⟩ = 0; simp [wrongN, n1, h0, mayCount, counted]
  have a1 : nameAt lit.names 1 = 0 := by rw [nameAt_at _ _ (by decide)]; show wrongN lit.names 1 ⟨[109], 2, 0⟩ = 0; simp [wrongN, n2, h1, mayCount, counted]
  have hk : known lit.names litA = true := by simp [known, litA_named, h0]
  have hka : kindAt lit.names 1 = 2 := rfl
  have b0 : rungAt lit 0 = 0 := by rw [rungAt_at _ _ (by decide)]; show wrongR lit.names ⟨2, [109], some litA⟩ = 0; simp [wrongR, h1, hka, kindOf, hk]
  have hb : bad (nameAt lit.names) 2 = none := by simp [bad, a0, a1]
  have hc : bad (rungAt lit) 1 = none := by simp [bad, b0]
  have e1 : lit.names.length = 2 := rfl
  have e2 : lit.rungs.length = 1 := rfl
  simp [check, e1, e2, hb, hc]
theorem lit_text : text lit = [105, 110, 112, 117, 116, 32, 97, 10, 99, 111, 105, 108, 32, 109, 10, 115, 101, 116, 32, 109, 32, 61, 32, 97, 10] := by
  rw [text, if_pos lit_check]
  simp [lit, linesT, nameT, rungT, headT, condT, litA_text, counted, nameW, rungW, ended]
theorem lit_parse : parse [105, 110, 112, 117, 116, 32, 97, 10, 99, 111, 105, 108, 32, 109, 10, 115, 101, 116, 32, 109, 32, 61, 32, 97, 10] = .inr lit := by
  have h := parse_text lit lit_check (fun r hr x hx => ?_) (by rw [lit_text]; decide) (fun r hr => ?_)
  · rw [lit_text] at h; exact h
  · simp only [lit, List.mem_singleton] at hr
    subst hr
    cases hx
    exact ⟨_, litA_parse⟩
  · simp only [lit, List.mem_singleton] at hr
    subst hr
    show litA.text.length ≤ _
    rw [litA_text]; decide
theorem lit_number : number lit.names [109] = 1 := by kernel_rfl
end Ld
end
section
open Go.RowKit
def prgOf : (Nat × Option Nat) ⊕ Ld.Prg → Option Ld.Prg
  | .inr p => some p
  | .inl _ => none
/-- a program of few scans -/
def readP (s : ByteArray) : Option Ld.Prg := if 1500 < s.size then none else prgOf (Ld.parse s.data.toList)
def KRead (w : World) (r : Option Ld.Prg) (e : Ending) (w' : World) : Prop :=
  Below w.heap.size w w' ∧ match r with
    | none => e = .returned (.tuple #[.agg #[.slice none 0 0, .slice none 0 0], .bool false])
    | some p => ∃ v, e = .returned (.tuple #[v, .bool true]) ∧ IsPrg w' p v ∧ Ld.check p = none
/-- a block in which slices alone lie -/
def Slices (w : World) (b : Nat) : Prop := ∀ i u, w.cell? ⟨b, i, none⟩ = some u → ∃ a n c, u = .slice a n c
theorem IsEx.off {ok : Nat → Prop} {w : World} {b : Nat} (hb : Slices w b) : ∀ (x : Ex) (v : Value), IsEx ok w x v → IsEx (fun g => ok g ∧ g ≠ b) w x v := by
  intro x
  induction x using Ex.ind with
  | h k nm l ih =>
    intro v h
    have hrow : ∀ g, Row w g (l.map fun x => IsEx ok w x) → Row w g (l.map fun x => IsEx (fun g => ok g ∧ g ≠ b) w x) := by
      intro g hr i P hP
      rw [List.getElem?_map] at hP
      cases hl : l[i]? with
      | none => rw [hl] at hP; simp at hP
      | some y =>
        rw [hl] at hP
        simp only [Option.map_some, Option.some.injEq] at hP
        obtain ⟨u, hu, hx⟩ := hr i (IsEx ok w y) (by rw [List.getElem?_map, hl]; rfl)
        exact ⟨u, hu, by rw [← hP]; exact ih y (List.mem_of_getElem? hl) u hx⟩
    have hlist : ∀ t, IsList ok w t l.length (l.map fun x => IsEx ok w x) v → IsList (fun g => ok g ∧ g ≠ b) w t l.length (l.map fun x => IsEx (fun g => ok g ∧ g ≠ b) w x) v := by
      rintro t ⟨h1, h2, g, cap, h3, h4, h5, h6⟩
      refine ⟨h1, h2, g, cap, h3, h4, ⟨h5, ?_⟩, hrow g h6⟩
      intro e
      subst e
      have hl : l[0]? = some (l[0]'(by omega)) := List.getElem?_eq_getElem _
      obtain ⟨u, hu, hx⟩ := h6 0 (IsEx ok w (l[0]'(by omega))) (by rw [List.getElem?_map, hl]; rfl)
      obtain ⟨a, n, c, rfl⟩ := hb 0 u hu
      obtain ⟨_, _, hy⟩ := IsEx.iface _ _ hx
      cases hy
    match k, h with
    | 0, h => simp only [IsEx] at h ⊢; exact h
    | 1, h => simp only [IsEx] at h ⊢; exact h
    | 2, h => simp only [IsEx] at h ⊢; exact h
    | 3, h => simp only [IsEx] at h ⊢; exact h
    | 4, h => simp only [IsEx] at h ⊢; exact h
    | 5, h =>
      simp only [IsEx] at h ⊢
      obtain ⟨h1, h2, u, h3, h4⟩ := h
      refine ⟨h1, h2, u, h3, ?_⟩
      intro P hP
      rw [List.getElem?_map] at hP
      cases hl : l[0]? with
      | none => rw [hl] at hP; simp at hP
      | some y =>
        rw [hl] at hP
        simp only [Option.map_some, Option.some.injEq] at hP
        rw [← hP]
        exact ih y (List.mem_of_getElem? hl) u (h4 _ (by rw [List.getElem?_map, hl]; rfl))
    | 6, h => simp only [IsEx] at h ⊢; exact ⟨h.1, hlist _ h.2⟩
    | 7, h => simp only [IsEx] at h ⊢; exact ⟨h.1, hlist _ h.2⟩
    | n + 8, h => simp only [IsEx] at h
/-- a program stands where a block turns in which slices alone lie -/
theorem IsPrg.off {w w' : World} {p : Ld.Prg} {v : Value} (h : IsPrg w p v) (b : Nat) (hb : Slices w b) (hk : ∀ k, k ≠ b → w'.heap[k]? = w.heap[k]?) : IsPrg w' p v := by
  have hc : ∀ g i, g ≠ b → w'.cell? ⟨g, i, none⟩ = w.cell? ⟨g, i, none⟩ := fun g i hg => World.cell?_of_block (w' := w') (w := w) (hk g hg)
  obtain ⟨nv, rv, h1, h2, h3⟩ := h
  refine ⟨nv, rv, h1, ?_, ?_⟩
  · rcases h2 with h2 | ⟨g, cap, e1, e2, e3, e4⟩
    · exact .inl h2
    · refine .inr ⟨g, cap, e1, e2, e3, fun i n hi => ?_⟩
      obtain ⟨f1, f2, f3, f4⟩ := e4 i n hi
      have hg : g ≠ b := by
        intro e
        subst e
        obtain ⟨_, _, _, hx⟩ := hb _ _ f1
        cases hx
      exact ⟨(hc g _ hg).trans f1, (hc g _ hg).trans f2, (hc g _ hg).trans f3, f4⟩
  · rcases h3 with h3 | ⟨g, cap, e1, e2, e3, e4⟩
    · exact .inl h3
    · refine .inr ⟨g, cap, e1, e2, e3, fun i n hi => ?_⟩
      obtain ⟨u, f1, f2, f3, f4, f5, f6⟩ := e4 i n hi
      have hg : g ≠ b := by
        intro e
        subst e
        obtain ⟨_, _, _, hx⟩ := hb _ _ f1
        cases hx
      refine ⟨u, (hc g _ hg).trans f1, (hc g _ hg).trans f2, (hc g _ hg).trans f3, f4, f5, ?_⟩
      cases hcd : n.cond with
      | none => rw [hcd] at f6; exact f6
      | some x =>
        rw [hcd] at f6
        exact ⟨IsEx.stay (fun g i u hg hc2 => (hc g i hg.2).trans hc2) (fun _ _ => trivial) x u (IsEx.off hb x u f6.1), f6.2⟩
theorem slices_two {w : World} {b : Nat} {x y : Value} {t : TypeId} (h : w.heap[b]? = some (.cells #[x, y] t (0, 0))) (hx : ∃ a n c, x = .slice a n c) (hy : ∃ a n c, y = .slice a n c) : Slices w b := by
  intro i u hu
  rw [Lib.cell_of_heap h] at hu
  match i, hu with
  | 0, hu => simp at hu; subst hu; exact hx
  | 1, hu => simp at hu; subst hu; exact hy
  | n + 2, hu => simp at hu
set_option maxHeartbeats 4000000 in
set_option maxRecDepth 100000 in
theorem kread_any (s : ByteArray) (w : World) (hs : s.size ≤ maxLen) (hL : Laid w) :
    Calls Tryz.prog 33 #[.string s] w (KRead w (readP s)) := by
  have hs' := hs
  unfold maxLen at hs'
  by_cases q1 : 1500 < s.size
  · have q1' : (1500 : Int) < (s.size : Int) := by omega
    have HR : Hid (readP s = none) := by show _ = _; rw [readP, if_pos q1]
    go_enter Tryz.func33, Tryz.ntmps33
    go_wp2_with fail
    refine bodyPost_ret_by (v := .tuple #[.agg #[.slice none 0 0, .slice none 0 0], .bool false]) ?_ rfl ?_
    · simp [results, Tryz.results33, go_sem]
    · rw [HR.out]; exact ⟨(Below.refl _ _).alloc (Nat.le_refl _) _, rfl⟩
  have q1' : ¬ (1500 : Int) < (s.size : Int) := by omega
  have HP := hide (LParse_any s.data.toList (w.alloc (.cells #[.slice none 0 0, .slice none 0 0] 30)) (by unfold maxLen; rw [show s.data.toList.length = s.size from rfl]; exact hs') (hL.below ((Below.refl _ _).alloc (Nat.le_refl _) _)))
  change Hid (Calls Tryz.prog 70 #[.string s] _ (LParsed _ (Ld.parse s.data.toList))) at HP
  obtain ⟨T, hT⟩ : ∃ T, T = Ld.parse s.data.toList := ⟨_, rfl⟩
  have HR : Hid (readP s = prgOf T) := by show _ = _; rw [readP, if_neg q1, hT]
  have HT := hide hT
  rw [← hT] at HP
  clear hT q1 hL
  obtain ⟨wA, hwA⟩ : ∃ wA, wA = w.alloc (.cells #[.slice none 0 0, .slice none 0 0] 30) := ⟨_, rfl⟩
  have HWA := hide hwA
  go_enter Tryz.func33, Tryz.ntmps33
  go_wp2_with fail
  refine HP.out.mono ?_
  intro e w1 hq
  rw [← hwA] at hq
  clear HP
  match T, hq, HT, HR with
  | .inl (err, pl), hq, _, HR =>
    obtain ⟨hb1, u, rfl, hu⟩ := hq
    obtain ⟨tu, yu, hiu⟩ : ∃ tu yu, u = .iface tu yu := by
      match pl, hu with
      | none, h => exact ⟨_, _, h⟩
      | some i, ⟨a, h, _⟩ => exact ⟨_, _, h⟩
    subst hiu
    have hz := hb1.size
    have hsA : wA.heap.size = w.heap.size + 1 := by rw [hwA]; simp
    obtain ⟨wB, hwB⟩ : ∃ wB, wB = w1.alloc (.cells #[.slice none 0 0, .slice none 0 0] 30) := ⟨_, rfl⟩
    have hbB : Below w1.heap.size w1 wB := by rw [hwB]; exact (Below.refl _ _).alloc (Nat.le_refl _) _
    have hA : wB.heap[w.heap.size]? = some (.cells #[.slice none 0 0, .slice none 0 0] 30 (0, 0)) := (hbB.block _ (by omega)).trans ((hb1.block _ (by omega)).trans (by rw [hwA]; exact heap_alloc_new _ _))
    have hB : wB.heap[w1.heap.size]? = some (.cells #[.slice none 0 0, .slice none 0 0] 30 (0, 0)) := by rw [hwB]; exact heap_alloc_new _ _
    have y0 : wB.cell? ⟨w.heap.size, 0, none⟩ = some (.slice none 0 0) := by rw [Lib.cell_of_heap hA]; rfl
    have y1 : wB.cell? ⟨w.heap.size, 1, none⟩ = some (.slice none 0 0) := by rw [Lib.cell_of_heap hA]; rfl
    have y2 : wB.frozen? ⟨w.heap.size, 0, none⟩ = false := Lib.frozen_of_heap hA 0
    have y3 : wB.frozen? ⟨w.heap.size, 1, none⟩ = false := Lib.frozen_of_heap hA 1
    have y4 : wB.cell? ⟨w1.heap.size, 0, none⟩ = some (.slice none 0 0) := by rw [Lib.cell_of_heap hB]; rfl
    have y5 : wB.cell? ⟨w1.heap.size, 1, none⟩ = some (.slice none 0 0) := by rw [Lib.cell_of_heap hB]; rfl
    have hne : w1.heap.size ≠ w.heap.size := by omega
    have HBB : Hid (Below w.heap.size w wB) := by
      have hbA : Below w.heap.size w wA := by rw [hwA]; exact (Below.refl _ _).alloc (Nat.le_refl _) _
      exact hbA.trans ((hb1.trans (hbB.mono hb1.size)).mono (by omega))
    have HB1 := hide hb1
    have HB2 := hide hbB
    have HAB := hide hA
    have hlt1 : w.heap.size < wB.heap.size := by have := hbB.size; omega
    clear hb1 hA hB hwA hbB
    go_wp2_with fail
    rw [← hwB]
    clear hwB
    go_region
    all_goals go_wp2_with fail
    all_goals
      refine bodyPost_ret_by (v := .tuple #[.agg #[.slice none 0 0, .slice none 0 0], .bool false]) ?_ rfl ?_
      · simp [results, Tryz.results33, go_sem, y0, y1]
      · rw [HR.out]
        refine ⟨?_, rfl⟩
        exact ((HBB.out.setCell (p := ⟨w.heap.size, 0, none⟩) (Nat.le_refl _) _).setCell (p := ⟨w.heap.size, 1, none⟩) (Nat.le_refl _) _).drew
  | .inr p, hq, HT, HR =>
    obtain ⟨hb1, v, rfl, hp1, hex⟩ := hq
    have HP1 := hide hp1
    have HCK := hide (Ld.parse_check _ p HT.out.symm)
    obtain ⟨nv, rv, rfl, hn, hr⟩ := hp1
    obtain ⟨na, nc, rfl, _⟩ := hn.slice
    obtain ⟨ra, rc, rfl, _⟩ := hr.slice
    obtain ⟨n, hnn⟩ : ∃ n, n = p.names.length := ⟨_, rfl⟩
    obtain ⟨m, hmm⟩ : ∃ m, m = p.rungs.length := ⟨_, rfl⟩
    rw [← hnn, ← hmm] at HP1 ⊢
    clear hnn hmm hn hr hex
    have hz := hb1.size
    have hsA : wA.heap.size = w.heap.size + 1 := by rw [hwA]; simp
    obtain ⟨wB, hwB⟩ : ∃ wB, wB = w1.alloc (.cells #[.slice na n nc, .slice ra m rc] 30) := ⟨_, rfl⟩
    have hbB : Below w1.heap.size w1 wB := by rw [hwB]; exact (Below.refl _ _).alloc (Nat.le_refl _) _
    have hA : wB.heap[w.heap.size]? = some (.cells #[.slice none 0 0, .slice none 0 0] 30 (0, 0)) := (hbB.block _ (by omega)).trans ((hb1.block _ (by omega)).trans (by rw [hwA]; exact heap_alloc_new _ _))
    have hB : wB.heap[w1.heap.size]? = some (.cells #[.slice na n nc, .slice ra m rc] 30 (0, 0)) := by rw [hwB]; exact heap_alloc_new _ _
    have y0 : wB.cell? ⟨w.heap.size, 0, none⟩ = some (.slice none 0 0) := by rw [Lib.cell_of_heap hA]; rfl
    have y1 : wB.cell? ⟨w.heap.size, 1, none⟩ = some (.slice none 0 0) := by rw [Lib.cell_of_heap hA]; rfl
    have y2 : wB.frozen? ⟨w.heap.size, 0, none⟩ = false := Lib.frozen_of_heap hA 0
    have y3 : wB.frozen? ⟨w.heap.size, 1, none⟩ = false := Lib.frozen_of_heap hA 1
    have y4 : wB.cell? ⟨w1.heap.size, 0, none⟩ = some (.slice na n nc) := by rw [Lib.cell_of_heap hB]; rfl
    have y5 : wB.cell? ⟨w1.heap.size, 1, none⟩ = some (.slice ra m rc) := by rw [Lib.cell_of_heap hB]; rfl
    have hne : w1.heap.size ≠ w.heap.size := by omega
    have HBB : Hid (Below w.heap.size w wB) := by
      have hbA : Below w.heap.size w wA := by rw [hwA]; exact (Below.refl _ _).alloc (Nat.le_refl _) _
      exact hbA.trans ((hb1.trans (hbB.mono hb1.size)).mono (by omega))
    have HB1 := hide hb1
    have HB2 := hide hbB
    have HAB := hide hA
    have hlt1 : w.heap.size < wB.heap.size := by have := hbB.size; omega
    clear hb1 hA hB hwA hbB
    go_wp2_with fail
    rw [← hwB]
    clear hwB
    go_region
    all_goals go_wp2_with fail
    all_goals
      refine bodyPost_ret_by (v := .tuple #[.agg #[.slice na n nc, .slice ra m rc], .bool true]) ?_ rfl ?_
      · simp [results, Tryz.results33, go_sem, y0, y1]
      · rw [HR.out]
        refine ⟨?_, _, rfl, ?_, HCK.out⟩
        · exact ((HBB.out.setCell (p := ⟨w.heap.size, 0, none⟩) (Nat.le_refl _) _).setCell (p := ⟨w.heap.size, 1, none⟩) (Nat.le_refl _) _).drew
        · exact (HP1.out.below HB2.out).off w.heap.size (slices_two HAB.out ⟨_, _, _, rfl⟩ ⟨_, _, _, rfl⟩) (fun k hk => (Below.heap_setCell _ _ _ _ (fun e => hk e)).trans (Below.heap_setCell _ _ _ _ (fun e => hk e)))
end
end Go.Proofs.YtdmnikbhkpcdpaaGreatDoor
