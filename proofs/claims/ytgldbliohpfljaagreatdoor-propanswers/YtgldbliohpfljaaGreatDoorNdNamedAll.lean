/-
  The walk of the document's ExprParse: what it reads of a text is what the plain function 'parse' says. Plain mathematics of chapter 1: names put one by one where they belong are the names in order, each once. The sizes of the first parts of a list: plain. An expression of the document's, later. The walk of the document's named: each name is put where it belongs. The walk of the document's named: a name is put where it belongs. The walks of the document's named, Names and Edges: the names in order, each once.
-/
import Derived.Test.YtgldbliohpfljaaGreatDoorRpPieceAll
import Derived.Test.YtgldbliohpfljaaGreatDoorErAsAll
import Derived.Test.YtgldbliohpfljaaGreatDoorLdCheckAll
import Derived.Test.YtgldbliohpfljaaGreatDoorLdRepAll
import Derived.Laws.CopyOwn
import Derived.Deep.RegionLaw
import Derived.WalkMore
import Derived.Laws.EntriesVeiled
namespace Go.Proofs.YtgldbliohpfljaaGreatDoor
section
open Go.RowKit
def faultV (err pl : Int) : Value := .agg #[.int .i64 err, .int .i64 pl]
/-- What ExprParse comes to in memory: a fault, or an expression; nothing that was there has turned. -/
def ParsedR (w : World) (r : (Nat × Option Nat) ⊕ Ex) (e : Ending) (w' : World) : Prop :=
  Below w.heap.size w w' ∧
  match r with
  | .inl (err, none) => e = .returned (.tuple #[.pointer none, faultV (err : Int) (-1)]) ∧ err ≠ 0
  | .inl (err, some p) => e = .returned (.tuple #[.pointer none, faultV (err : Int) (p : Int)]) ∧ err ≠ 0
  | .inr x => ∃ g, e = .returned (.tuple #[.pointer (some ⟨g, 0, none⟩), faultV 0 (-1)]) ∧ IsRx (fun g => w.heap.size ≤ g) w' x g
/-- the document's Fine, as it is laid -/
def Fine (w : World) : Prop := w.cell? ⟨0, 0, none⟩ = some (.int .i64 0) ∧ w.cell? ⟨0, 1, none⟩ = some (.int .i64 (-1))
theorem Fine.below {w w' : World} (h : Fine w) (hb : Below w.heap.size w w') : Fine w' :=
  ⟨(hb.cell (World.block_lt_of_cell? _ _ h.1)).trans h.1, (hb.cell (World.block_lt_of_cell? _ _ h.2)).trans h.2⟩
set_option maxHeartbeats 1000000 in
set_option maxRecDepth 100000 in
theorem rbare_any (n : Int) (w : World) : Calls Tryz.prog 43 #[.int .i64 n] w fun e w' => e = .returned (faultV n (-1)) ∧ Below w.heap.size w w' := by
  go_enter Tryz.func43, Tryz.ntmps43
  go_wp2
  refine bodyPost_ret_by (v := faultV n (-1)) ?_ rfl ⟨rfl, ?_⟩
  · simp [results, Tryz.results43, go_sem, faultV]
  · exact (Below.refl _ _).alloc (Nat.le_refl _) _
theorem below_drew1 {B : Nat} {a w : World} (h : Below B a w) : Below B a w.drew := ⟨h.os, h.tape, h.output, h.size, h.block⟩
/-- a fault's box -/
structure Box (B : Nat) (w : World) : Prop where
  c0 : w.cell? ⟨B, 0, none⟩ = some (.int .i64 0)
  c1 : w.cell? ⟨B, 1, none⟩ = some (.int .i64 0)
  f0 : w.frozen? ⟨B, 0, none⟩ = false
  f1 : w.frozen? ⟨B, 1, none⟩ = false
theorem Box.put {B : Nat} {w : World} (h : Box B w) (x y : Int) : ((w.setCell ⟨B, 0, none⟩ (.int .i64 x)).setCell ⟨B, 1, none⟩ (.int .i64 y)).cell? ⟨B, 0, none⟩ = some (.int .i64 x) ∧ ((w.setCell ⟨B, 0, none⟩ (.int .i64 x)).setCell ⟨B, 1, none⟩ (.int .i64 y)).cell? ⟨B, 1, none⟩ = some (.int .i64 y) := by
  constructor
  · rw [World.cell?_setCell_other _ _ _ _ (by simp)]; exact World.cell?_setCell_same _ _ _ h.c0
  · exact World.cell?_setCell_same _ _ _ ((World.cell?_setCell_other _ _ _ _ (by simp)).trans h.c1)
theorem Box.of_block {B : Nat} {w w' : World} (h : Box B w) (e : w'.heap[B]? = w.heap[B]?) : Box B w' :=
  ⟨(World.cell?_of_block (w := w) e).trans h.c0, (World.cell?_of_block (w := w) e).trans h.c1, (World.frozen?_of_block (w := w) e).trans h.f0, (World.frozen?_of_block (w := w) e).trans h.f1⟩
theorem Box.new (w : World) : Box w.heap.size (w.alloc (.cells #[.int .i64 0, .int .i64 0] 93)) := by
  constructor <;> simp [go_sem]
set_option maxHeartbeats 4000000 in
set_option maxRecDepth 100000 in
theorem ExprParse_any (s : ByteArray) (w : World) (hs : s.size ≤ maxLen) (hf : Fine w) :
    Calls Tryz.prog 32 #[.string s] w (ParsedR w (Ex.parse s.data.toList)) := by
  unfold maxLen at hs
  have HL : Hid (s.data.toList.length = s.size) := by show _ = _; simp
  have hb1 : Below w.heap.size w (w.alloc (.cells #[.int .i64 0, .int .i64 0] 93)) := (Below.refl _ w).alloc (Nat.le_refl _) _
  have HBW := hide (fun (w' : World) (hb : Below w.heap.size w w') (x y : Int) => (hb.setCell (p := ⟨w.heap.size, 0, none⟩) (Nat.le_refl _) (.int .i64 x)).setCell (p := ⟨w.heap.size, 1, none⟩) (Nat.le_refl _) (.int .i64 y))
  by_cases h2 : 2000 < s.size
  · have h2' : (2000 : Int) < (s.size : Int) := by omega
    have HF : Hid (Ex.parse s.data.toList = .inl (4, none)) := parse_long _ (by rw [HL.out]; exact h2)
    have HB1 := hide hb1
    clear h2 hf hb1
    go_enter Tryz.func32, Tryz.ntmps32
    go_wp2_with fail
    refine (rbare_any 4 _).mono ?_
    rintro e w1 ⟨rfl, hb2⟩
    have hbox := (Box.new w).of_block (hb2.block w.heap.size (by simp))
    have HPUT := hide (hbox.put 4 (-1))
    have HB2 := hide (HB1.out.trans (hb2.mono (by simp)))
    obtain ⟨c0, c1, f0, f1⟩ := hbox
    unfold faultV
    clear hb2
    go_wp2_with fail
    refine bodyPost_ret_by (v := .tuple #[.pointer none, faultV 4 (-1)]) ?_ rfl ?_
    · simp [results, Tryz.results32, go_sem, faultV, HPUT.out.1, HPUT.out.2]
    · rw [HF.out]
      exact ⟨HBW.out _ HB2.out _ _, rfl, by decide⟩
  · have h2' : ¬ (2000 : Int) < (s.size : Int) := by omega
    have hs2 : s.size ≤ 2000 := by omega
    have HN : Hid (¬ 2000 < s.data.toList.length) := by rw [HL.out]; exact h2
    have HFI := hide hf
    have hA := Ex.pieceP_adv s.data.toList 20
    have HWA := hide (Ex.wholeP_adv s.data.toList _ hA)
    have hfa : ∀ o, (w.alloc o).cell? ⟨0, 0, none⟩ = some (.int .i64 0) := fun o => (World.cell?_alloc_old _ _ _ (Nat.ne_of_lt (World.block_lt_of_cell? _ _ hf.1))).trans hf.1
    have hfb : ∀ o, (w.alloc o).cell? ⟨0, 1, none⟩ = some (.int .i64 (-1)) := fun o => (World.cell?_alloc_old _ _ _ (Nat.ne_of_lt (World.block_lt_of_cell? _ _ hf.2))).trans hf.2
    have hrd : Rp (w.heap.size + 1) s 0 0 (-1) ((w.alloc (.cells #[.int .i64 0, .int .i64 0] 93)).alloc (.cells #[.string s, .int .i64 0, .int .i64 0, .int .i64 (-1)] 171)) := by
      constructor <;> simp [go_sem]
    have HC := hide (rwhole_any (w.heap.size + 1) s 20 0 _ hA _ (rpiece_any (w.heap.size + 1) s hs2 ((w.alloc (.cells #[.int .i64 0, .int .i64 0] 93)).alloc (.cells #[.string s, .int .i64 0, .int .i64 0, .int .i64 (-1)] 171)) 20 0 rfl) hs2 0 _ (Keep.refl _ _) hrd (Nat.zero_le _))
    have HB : Hid (∀ w', Keep (w.heap.size + 1) ((w.alloc (.cells #[.int .i64 0, .int .i64 0] 93)).alloc (.cells #[.string s, .int .i64 0, .int .i64 0, .int .i64 (-1)] 171)) w' → Below w.heap.size w w' ∧ Box w.heap.size w' ∧ Fine w') := fun w' hk => by
      have hbe : Below w.heap.size w w' := (hb1.alloc (by simp) _).trans (hk.below (by simp; omega) (by omega))
      refine ⟨hbe, ?_, HFI.out.below hbe⟩
      refine (Box.new w).of_block ((hk.block w.heap.size (by simp; omega) (by omega)).trans ?_)
      exact Below.heap_alloc _ _ _ (by simp)
    obtain ⟨T, hT⟩ : ∃ T, T = Ex.wholeP s.data.toList (Ex.pieceP s.data.toList 20) 0 := ⟨_, rfl⟩
    have HT := hide hT
    rw [← hT] at HC
    obtain ⟨hf0, hf1⟩ := hf
    clear hT hA hrd h2 hb1
    go_enter Tryz.func32, Tryz.ntmps32
    go_wp2_with fail
    refine HC.out.mono ?_
    intro e w1 hq
    obtain ⟨q0, he⟩ := hq.ptr
    subst he
    clear HC hf0 hf1 hfa hfb
    match T, hq, HT with
    | .inl (err, p), ⟨hk, q, i', _, hi', herr, hrp⟩, HT =>
      have HF := hide (parse_err _ HN.out err p HT.out.symm)
      have HBE := hide (HB.out _ hk).1
      have hbox := (HB.out _ hk).2.1
      have HPUT := hide (hbox.put (err : Int) (p : Int))
      have e1 : ((err : Int) == 0) = false := beq_eq_false_iff_ne.2 (by omega)
      have e2 : ((err : Int) != 0) = true := by simp; omega
      obtain ⟨c0, c1, c2, c3, f1, f2, f3⟩ := hrp
      obtain ⟨d0, d1, g0, g1⟩ := hbox
      clear hk
      go_wp2_with fail
      go_region
      all_goals
        go_wp2_with fail
        refine bodyPost_ret_by (v := .tuple #[.pointer none, faultV (err : Int) (p : Int)]) ?_ rfl ?_
        · simp [results, Tryz.results32, go_sem, faultV, HPUT.out.1, HPUT.out.2]
        · rw [HF.out]
          exact ⟨below_drew1 (HBW.out _ HBE.out _ _), rfl, herr⟩
    | .inr (x, m), ⟨hk, g, he, hx, hrp⟩, HT =>
      simp only [Ending.returned.injEq, Value.pointer.injEq] at he
      subst he
      have hm := (HWA.out 0 x m (Nat.zero_le _) HT.out.symm).2
      rw [HL.out] at hm
      have HX := hide hx
      have HK := hide hk
      have HNX := hide (rnext_any _ s m 0 (-1) w1 hrp hm hs2)
      have HMORE := hide (parse_more _ HN.out x m HT.out.symm)
      have HFINE := hide (parse_fine _ HN.out x m HT.out.symm)
      have hle := Ex.skip_le s.data.toList m (by rw [HL.out]; exact hm)
      have HSK : Hid (Ex.skip s.data.toList (Ex.skip s.data.toList m) = Ex.skip s.data.toList m) := skip_skip _ _ (by rw [HL.out]; exact hm)
      have HEND : Hid (¬ Ex.skip s.data.toList m < s.size → rsg s.data.toList (Ex.skip s.data.toList m) = 0) := fun h => rsg_end s _ h
      rw [HL.out] at HMORE HFINE hle
      obtain ⟨c0, c1, c2, c3, f1, f2, f3⟩ := hrp
      clear hk hx
      generalize Ex.skip s.data.toList m = q at *
      generalize rsg s.data.toList q = c at *
      go_wp2_with fail
      refine HNX.out.mono ?_
      rintro e w2 ⟨rfl, hr2, hk2⟩
      have HK2 := hide (HK.out.trans hk2)
      have HX2 : Hid (IsRx (fun g => w.heap.size ≤ g ∧ g ≠ w.heap.size ∧ g ≠ w.heap.size + 1) w2 x g) := by
        refine IsRx.stay (Stay.keep hk2 fun g hg e => ?_) (fun g hg => ⟨?_, ?_, ?_⟩) x g HX.out <;> simp at hg <;> omega
      have HR2 := hide hr2
      clear c0 c1 c2 c3 f1 f2 f3 HNX hk2
      have hbox := (HB.out _ HK2.out).2.1
      obtain ⟨c0, c1, c2, c3, f1, f2, f3⟩ := hr2
      by_cases hq : q < s.size
      · have hq' : (q : Int) < (s.size : Int) := by omega
        have HF := hide (HMORE.out hq)
        have HFL := hide (rfail_any _ s q (-1) 3 w2 HR2.out hle hs2)
        rw [HSK.out] at HFL
        clear HMORE HFINE HEND hbox
        cases hc0 : ((c : Int) != 0) with
        | true =>
          go_wp2_with fail
          refine HFL.out.mono ?_
          rintro e w3 ⟨rfl, hr3, hk3⟩
          have hk4 := HK2.out.trans hk3
          have hbox := (HB.out _ hk4).2.1
          have HBE := hide (HB.out _ hk4).1
          have HPUT := hide (hbox.put 3 (q : Int))
          clear c0 c1 c2 c3 f1 f2 f3 hk3 hk4 HFL
          obtain ⟨c0, c1, c2, c3, f1, f2, f3⟩ := hr3
          obtain ⟨d0, d1, g0, g1⟩ := hbox
          go_wp2_with fail
          go_region
          all_goals
            go_wp2_with fail
            refine bodyPost_ret_by (v := .tuple #[.pointer none, faultV 3 (q : Int)]) ?_ rfl ?_
            · simp [results, Tryz.results32, go_sem, faultV, HPUT.out.1, HPUT.out.2]
            · rw [HF.out]
              exact ⟨below_drew1 (HBW.out _ HBE.out _ _), rfl, by decide⟩
        | false =>
          go_wp2_with fail
          refine HFL.out.mono ?_
          rintro e w3 ⟨rfl, hr3, hk3⟩
          have hk4 := HK2.out.trans hk3
          have hbox := (HB.out _ hk4).2.1
          have HBE := hide (HB.out _ hk4).1
          have HPUT := hide (hbox.put 3 (q : Int))
          clear c0 c1 c2 c3 f1 f2 f3 hk3 hk4 HFL
          obtain ⟨c0, c1, c2, c3, f1, f2, f3⟩ := hr3
          obtain ⟨d0, d1, g0, g1⟩ := hbox
          go_wp2_with fail
          go_region
          all_goals
            go_wp2_with fail
            refine bodyPost_ret_by (v := .tuple #[.pointer none, faultV 3 (q : Int)]) ?_ rfl ?_
            · simp [results, Tryz.results32, go_sem, faultV, HPUT.out.1, HPUT.out.2]
            · rw [HF.out]
              exact ⟨below_drew1 (HBW.out _ HBE.out _ _), rfl, by decide⟩
      · have hc := HEND.out hq
        have hq' : ¬ (q : Int) < (s.size : Int) := by omega
        have HF := hide (HFINE.out hq)
        have HBE := hide (HB.out _ HK2.out).1
        have HPUT := hide (hbox.put 0 (-1))
        have hfi := (HB.out _ HK2.out).2.2
        obtain ⟨hfi0, hfi1⟩ := hfi
        obtain ⟨d0, d1, g0, g1⟩ := hbox
        clear HMORE HFINE HEND
        subst hc
        go_wp2_with fail
        go_region
        all_goals
          go_wp2_with fail
          refine bodyPost_ret_by (v := .tuple #[.pointer (some ⟨g, 0, none⟩), faultV 0 (-1)]) ?_ rfl ?_
          · simp [results, Tryz.results32, go_sem, faultV, HPUT.out.1, HPUT.out.2]
          · rw [HF.out]
            refine ⟨below_drew1 (HBW.out _ HBE.out _ _), g, rfl, ?_⟩
            refine IsRx.stay (fun g' i u hg hc => ?_) (fun g' hg => hg.1) x g HX2.out
            show ((w2.setCell ⟨w.heap.size, 0, none⟩ (.int .i64 0)).setCell ⟨w.heap.size, 1, none⟩ (.int .i64 (-1))).cell? ⟨g', i, none⟩ = some u
            rw [World.cell?_setCell_other _ _ _ _ (by first | (simp; done) | (simp; omega)), World.cell?_setCell_other _ _ _ _ (by first | (simp; done) | (simp; omega))]
            exact hc
end
section
theorem LU.tri (a b : List UInt8) (h : ¬ a < b) (hn : a ≠ b) : b < a := by
  rcases List.le_iff_lt_or_eq.1 (List.not_lt.1 h) with h1 | h1
  · exact h1
  · exact absurd h1.symm hn
theorem LU.trans {a b c : List UInt8} (h : a < b) (k : b < c) : a < c := List.lt_trans h k
theorem LU.irrefl (a : List UInt8) : ¬ a < a := List.lt_irrefl a
/-- a name put where it belongs -/
def ins : List (List UInt8) → List UInt8 → List (List UInt8)
  | [], n => [n]
  | a :: r, n => if a < n then a :: ins r n else if a = n then a :: r else n :: a :: r
theorem mem_ins (n x : List UInt8) : ∀ l, x ∈ ins l n ↔ x = n ∨ x ∈ l := by
  intro l
  induction l with
  | nil => simp [ins]
  | cons a r ih =>
    unfold ins
    split
    · rw [List.mem_cons, ih, List.mem_cons]
      constructor
      · rintro (h | h | h)
        · exact .inr (.inl h)
        · exact .inl h
        · exact .inr (.inr h)
      · rintro (h | h | h)
        · exact .inr (.inl h)
        · exact .inl h
        · exact .inr (.inr h)
    · split
      · next h => subst h; simp
      · simp
theorem ins_sorted (n : List UInt8) : ∀ l : List (List UInt8), l.Pairwise (· < ·) → (ins l n).Pairwise (· < ·) := by
  intro l
  induction l with
  | nil => simp [ins]
  | cons a r ih =>
    intro h
    rw [List.pairwise_cons] at h
    unfold ins
    split
    · next h1 =>
      rw [List.pairwise_cons]
      refine ⟨fun x hx => ?_, ih h.2⟩
      rcases (mem_ins n x r).1 hx with rfl | hx
      · exact h1
      · exact h.1 x hx
    · next h1 =>
      split
      · rw [List.pairwise_cons]; exact h
      · next h2 =>
        have h3 := LU.tri a n h1 h2
        rw [List.pairwise_cons]
        refine ⟨fun x hx => ?_, by rw [List.pairwise_cons]; exact h⟩
        rcases List.mem_cons.1 hx with rfl | hx
        · exact h3
        · exact LU.trans h3 (h.1 x hx)
/-- where it is put -/
theorem ins_at (n : List UInt8) : ∀ (l : List (List UInt8)) (k : Nat), k ≤ l.length → (∀ j, j < k → ∀ y, l[j]? = some y → y < n) → (∀ y, l[k]? = some y → ¬ y < n) →
    ins l n = if l[k]? = some n then l else l.take k ++ n :: l.drop k := by
  intro l
  induction l with
  | nil =>
    intro k hk _ _
    simp [ins]
  | cons a r ih =>
    intro k hk h1 h2
    match k, hk, h1, h2 with
    | 0, _, _, h2 =>
      have h3 := h2 a rfl
      unfold ins
      rw [if_neg h3]
      by_cases h4 : a = n
      · subst h4; simp
      · rw [if_neg h4, if_neg (by simpa using h4)]; rfl
    | k + 1, hk, h1, h2 =>
      have h3 := h1 0 (by omega) a rfl
      unfold ins
      rw [if_pos h3, ih k (by simpa using hk) (fun j hj y hy => h1 (j + 1) (by omega) y (by simpa using hy)) (fun y hy => h2 y (by simpa using hy))]
      simp only [List.getElem?_cons_succ, List.take_succ_cons, List.drop_succ_cons, List.cons_append]
      split <;> rfl
theorem ins_len (n : List UInt8) : ∀ l, (ins l n).length ≤ l.length + 1 := by
  intro l
  induction l with
  | nil => simp [ins]
  | cons a r ih =>
    unfold ins
    split
    · simp only [List.length_cons]; omega
    · split <;> simp only [List.length_cons] <;> omega
def insAll (l ns : List (List UInt8)) : List (List UInt8) := ns.foldl ins l
theorem insAll_append (l a b : List (List UInt8)) : insAll l (a ++ b) = insAll (insAll l a) b := by simp [insAll]
theorem insAll_len (ns : List (List UInt8)) : ∀ l, (insAll l ns).length ≤ l.length + ns.length := by
  induction ns with
  | nil => intro l; simp [insAll]
  | cons a r ih =>
    intro l
    have h1 := ih (ins l a)
    have h2 := ins_len a l
    simp only [insAll, List.foldl_cons, List.length_cons] at *
    omega
theorem mem_insAll (x : List UInt8) (ns : List (List UInt8)) : ∀ l, x ∈ insAll l ns ↔ x ∈ l ∨ x ∈ ns := by
  induction ns with
  | nil => intro l; simp [insAll]
  | cons a r ih =>
    intro l
    have h1 := ih (ins l a)
    simp only [insAll, List.foldl_cons] at *
    rw [h1, mem_ins, List.mem_cons]
    constructor
    · rintro ((h | h) | h)
      · exact .inr (.inl h)
      · exact .inl h
      · exact .inr (.inr h)
    · rintro (h | h | h)
      · exact .inl (.inr h)
      · exact .inl (.inl h)
      · exact .inr h
theorem insAll_sorted (ns : List (List UInt8)) : ∀ l : List (List UInt8), l.Pairwise (· < ·) → (insAll l ns).Pairwise (· < ·) := by
  induction ns with
  | nil => intro l h; exact h
  | cons a r ih =>
    intro l h
    exact ih (ins l a) (ins_sorted a l h)
/-- two rows in order with the same in them are one -/
theorem sorted_ext : ∀ (a b : List (List UInt8)), a.Pairwise (· < ·) → b.Pairwise (· < ·) → (∀ x, x ∈ a ↔ x ∈ b) → a = b := by
  intro a
  induction a with
  | nil =>
    intro b _ _ h
    match b, h with
    | [], _ => rfl
    | y :: s, h => exact absurd ((h y).2 (by simp)) (by simp)
  | cons x r ih =>
    intro b ha hb h
    match b, hb, h with
    | [], _, h => exact absurd ((h x).1 (by simp)) (by simp)
    | y :: s, hb, h =>
      rw [List.pairwise_cons] at ha hb
      have hxy : x = y := by
        rcases List.mem_cons.1 ((h x).1 (by simp)) with h1 | h1
        · exact h1
        · rcases List.mem_cons.1 ((h y).2 (by simp)) with h2 | h2
          · exact h2.symm
          · exact absurd (LU.trans (hb.1 x h1) (ha.1 y h2)) (LU.irrefl y)
      subst hxy
      rw [ih s ha.2 hb.2 fun z => ?_]
      constructor
      · intro hz
        rcases List.mem_cons.1 ((h z).1 (List.mem_cons_of_mem _ hz)) with h1 | h1
        · subst h1; exact absurd (ha.1 z hz) (LU.irrefl z)
        · exact h1
      · intro hz
        rcases List.mem_cons.1 ((h z).2 (List.mem_cons_of_mem _ hz)) with h1 | h1
        · subst h1; exact absurd (hb.1 z hz) (LU.irrefl z)
        · exact h1
theorem compactUpTo_sorted (d : Array (List UInt8)) (hd : ∀ i j, i < j → j < d.size → d[i]! ≤ d[j]!) : ∀ m, m ≤ d.size → (Lib.compactUpTo d m).Pairwise (· < ·) := by
  intro m
  induction m with
  | zero => intro _; simp [Lib.compactUpTo]
  | succ m ih =>
    intro hm
    rw [Lib.compactUpTo_succ, List.pairwise_append]
    refine ⟨ih (by omega), by split <;> simp, ?_⟩
    intro x hx y hy
    by_cases hk : Lib.keeps d m = true
    · rw [if_pos hk] at hy
      have hy := List.mem_singleton.1 hy
      subst hy
      unfold Lib.compactUpTo at hx
      rw [List.mem_map] at hx
      obtain ⟨i, hi, rfl⟩ := hx
      rw [List.mem_filter] at hi
      have him : i < m := List.mem_range.1 hi.1
      obtain ⟨m', rfl⟩ : ∃ m', m = m' + 1 := ⟨m - 1, by omega⟩
      have h1 : d[i]! ≤ d[m']! := by
        by_cases e : i = m'
        · subst e; exact List.le_refl _
        · exact hd i m' (by omega) (by omega)
      have h2 : d[m']! ≤ d[m' + 1]! := hd _ _ (by omega) (by omega)
      have h3 : d[m' + 1]! ≠ d[m']! := by
        intro e
        simp [Lib.keeps, e] at hk
      rcases List.le_iff_lt_or_eq.1 h2 with h4 | h4
      · rcases List.le_iff_lt_or_eq.1 h1 with h5 | h5
        · exact LU.trans h5 h4
        · rw [h5]; exact h4
      · exact absurd h4.symm h3
    · rw [if_neg hk] at hy
      simp at hy
theorem ordered_sorted (ns : List (List UInt8)) : (ordered ns).Pairwise (· < ·) := by
  unfold ordered Lib.compact
  have hp := List.pairwise_mergeSort (le := fun x y : List UInt8 => decide (x ≤ y)) (fun a b c h1 h2 => decide_eq_true (List.le_trans (of_decide_eq_true h1) (of_decide_eq_true h2))) (fun a b => by
    rcases List.le_total a b with h | h
    · simp [h]
    · simp [h]) ns
  refine compactUpTo_sorted _ (fun i j hij hj => ?_) _ (by simp)
  rw [List.pairwise_iff_getElem] at hp
  have hj2 : j < (ns.mergeSort fun x y => decide (x ≤ y)).length := by simpa using hj
  have := hp i j (by omega) hj2 hij
  rw [getElem!_pos _ i (by simpa using (by omega : i < (ns.mergeSort fun x y => decide (x ≤ y)).length)), getElem!_pos _ j hj]
  simpa using of_decide_eq_true this
/-- put one by one, they are in order, each once -/
theorem insAll_ordered (ns : List (List UInt8)) : insAll [] ns = ordered ns :=
  sorted_ext _ _ (insAll_sorted ns [] List.Pairwise.nil) (ordered_sorted ns) fun x => by rw [mem_insAll, mem_ordered]; simp
end
section
namespace Ex
theorem size_eq (k : Nat) (nm : List UInt8) (l : List Ex) : size ⟨k, nm, l⟩ = 1 + (l.map fun x => x.size).sum := by simp [size]
/-- the sizes of the first k, together -/
def sizes (l : List Ex) (k : Nat) : Nat := ((l.take k).map fun x => x.size).sum
theorem sizes_succ (l : List Ex) (k : Nat) (h : k < l.length) : sizes l (k + 1) = sizes l k + l[k].size := by
  unfold sizes
  rw [List.take_succ_eq_append_getElem h]
  simp only [List.map_append, List.sum_append, List.map_cons, List.map_nil, List.sum_cons, List.sum_nil, Nat.add_zero]
theorem sizes_le (l : List Ex) : ∀ j k, k + j = l.length → sizes l k ≤ sizes l l.length
  | 0, k, h => by
    have e : k = l.length := by omega
    rw [e]; exact Nat.le_refl _
  | j + 1, k, h => by
    have h1 := sizes_le l j (k + 1) (by omega)
    rw [sizes_succ l k (by omega)] at h1
    omega
theorem sizes_all (l : List Ex) : sizes l l.length = (l.map fun x => x.size).sum := by unfold sizes; rw [List.take_length]
end Ex
end
section
open Go.RowKit
theorem IsRx.later {ok : Nat → Prop} {w w' : World} {x : Ex} {g : Nat} (h : IsRx ok w x g) (hb : Below w.heap.size w w') : IsRx (fun _ => True) w' x g := IsRx.stay (Stay.below hb) (fun _ _ => trivial) x g h
end
section
open Go.RowKit
/-- the three variables that the closure holds: the kinds, the names so far, the closure itself -/
structure Sn (p : Nat) (kd : List UInt8) (ns : List (List UInt8)) (w : World) : Prop where
  k : w.heap[p]? = some (.cells #[.string ⟨kd.toArray⟩] 9 (0, 0))
  o : ∃ v, w.heap[p + 1]? = some (.cells #[v] 65 (0, 0)) ∧ w.ownsRow (p + 3) 9 1 v ns.length (ns.map strV)
  f : w.heap[p + 2]? = some (.cells #[.func (.func 142) #[] #[.pointer (some ⟨p, 0, none⟩), .pointer (some ⟨p + 1, 0, none⟩), .pointer (some ⟨p + 2, 0, none⟩)]] 261 (0, 0))
theorem Sn.drewN {p : Nat} {kd : List UInt8} {ns : List (List UInt8)} {w : World} (h : Sn p kd ns w) (n : Nat) : Sn p kd ns (w.drewN n) := by
  obtain ⟨v, h1, h2⟩ := h.o
  refine ⟨by rw [World.heap_drewN]; exact h.k, ⟨v, by rw [World.heap_drewN]; exact h1, ?_⟩, by rw [World.heap_drewN]; exact h.f⟩
  rcases h2 with ⟨h3, h4⟩
  refine ⟨h3, ?_⟩
  rw [World.heap_drewN]
  exact h4
theorem _root_.Go.RowKit.Below.drewM {p : Nat} {a w : World} (h : Below p a w) (n : Nat) : Below p a (w.drewN n) := ⟨h.os, h.tape, h.output, h.size, h.block⟩
theorem IsRx.low {p : Nat} {w w' : World} {x : Ex} {g : Nat} (h : IsRx (fun g => g < p) w x g) (hb : Below p w w') : IsRx (fun g => g < p) w' x g :=
  IsRx.stay (fun g i u hg hc => by rw [hb.cell (p := ⟨g, i, none⟩) hg]; exact hc) (fun g hg => hg) x g h
/-- the kinds of which names are asked for -/
def kindsOf (all : Bool) : List UInt8 := if all then [98, 105, 116, 94, 126] else [94, 126]
/-- the closure, at this expression -/
def NamedOK (x : Ex) : Prop := ∀ (all : Bool) (p g : Nat) (m : Int) (ns : List (List UInt8)) (w : World), IsRx (fun g => g < p) w x g → Sn p (kindsOf all) ns w → 4 < p → w.cell? ⟨4, 0, none⟩ = some (.int .i64 m) → ns.length + x.size ≤ 1000000 →
  Calls Tryz.prog 142 #[.pointer (some ⟨g, 0, none⟩), .pointer (some ⟨p, 0, none⟩), .pointer (some ⟨p + 1, 0, none⟩), .pointer (some ⟨p + 2, 0, none⟩)] w fun e w' => e = .returned (.tuple #[]) ∧ Sn p (kindsOf all) (insAll ns (x.named all)) w' ∧ Below p w w'
/-- what the world is, behind the names -/
theorem Sn.cells {p : Nat} {kd : List UInt8} {ns : List (List UInt8)} {w : World} (h : Sn p kd ns w) : w.cell? ⟨p, 0, none⟩ = some (.string ⟨kd.toArray⟩) ∧ w.cell? ⟨p + 2, 0, none⟩ = some (.func (.func 142) #[] #[.pointer (some ⟨p, 0, none⟩), .pointer (some ⟨p + 1, 0, none⟩), .pointer (some ⟨p + 2, 0, none⟩)]) :=
  ⟨by rw [Lib.cell_of_heap h.k]; rfl, by rw [Lib.cell_of_heap h.f]; rfl⟩
set_option maxHeartbeats 1000000 in
set_option maxRecDepth 100000 in
theorem named_none (k : Nat) (l : List Ex) (hk2 : k ≠ 2 ∧ k ≠ 3 ∧ k ≠ 4) (ih : ∀ y, y ∈ l → NamedOK y) : NamedOK ⟨k, [], l⟩ := by
  intro all p g m ns w h hs hmp hm hsz
  have HIH := hide ih
  have HS := hide hs
  have HM := hide hm
  have HNM := hide (Ex.named_of all k [] l hk2)
  rw [IsRx.def] at h
  obtain ⟨_, _, hl6, _, hn, sv, hsv, hof⟩ := h
  rw [Ex.size_eq] at hsz
  clear ih hs hm hk2
  rcases hof with ⟨h0, rfl⟩ | ⟨hpos, b, cap, rfl, hcap, hbp, hrow⟩
  · have hl : l = [] := List.length_eq_zero_iff.1 h0
    subst hl
    go_enter Tryz.func142, Tryz.ntmps142
    go_wp2_with fail
    go_quiet (fail)
    go_wp2_with fail
    go_loopw [76] (fun i wr => i = .int .i64 0 ∧ wr = w.drewN nq) (fun _ _ => 0)
    case atStart => exact ⟨rfl, rfl⟩
    case round =>
      obtain ⟨rfl, rfl⟩ := hrel
      go_wp2_with fail
      go_end0
      refine ⟨rfl, ?_, (Below.refl _ _).drewM nq⟩
      rw [HNM.out]
      exact HS.out.drewN nq
  · obtain ⟨n, hn'⟩ : ∃ n, n = l.length := ⟨_, rfl⟩
    have HN := hide hn'
    have HROW := hide hrow
    have HSZ := hide hsz
    rw [← hn'] at hcap hl6 hsv
    clear hn' hrow hsz hpos
    go_enter Tryz.func142, Tryz.ntmps142
    go_wp2_with fail
    go_quiet (fail)
    go_wp2_with fail
    go_loopw [76] (fun i wr => ∃ k : Nat, k ≤ n ∧ i = .int .i64 (k : Int) ∧ Sn p (kindsOf all) (insAll ns (Ex.nameds all l k)) wr ∧ Below p w wr) (fun i _ => n - (intOf i).toNat)
    case atStart => exact ⟨0, Nat.zero_le _, rfl, by simpa [Ex.nameds, insAll] using HS.out.drewN nq, (Below.refl _ _).drewM nq⟩
    case round =>
      obtain ⟨j, hj, rfl, hs, hb⟩ := hrel
      have HSR := hide hs
      have HB := hide hb
      have c3 := hs.cells.2
      clear hs hb
      by_cases hlt : j < n
      · have hjl : j < l.length := by rw [← HN.out]; exact hlt
        obtain ⟨gy, hcell0, hxu⟩ := HROW.out j (IsRx (fun g => g < p) w l[j]) (by rw [List.getElem?_map, List.getElem?_eq_getElem hjl]; rfl)
        have hcell : wr.cell? ⟨b, j, none⟩ = some (.pointer (some ⟨gy, 0, none⟩)) := by rw [HB.out.cell (p := ⟨b, j, none⟩) hbp]; exact hcell0
        have hle := Ex.nameds_le all l (l.length - j) j (by omega)
        have hdr : ((l.drop j).map fun x => x.size).sum = l[j].size + ((l.drop (j + 1)).map fun x => x.size).sum := by
          rw [List.drop_eq_getElem_cons hjl, List.map_cons, List.sum_cons]
        have hsz := HSZ.out
        have hil := insAll_len (Ex.nameds all l j) ns
        have HE := hide (HIH.out l[j] (List.getElem_mem hjl) all p gy m _ wr (hxu.low HB.out) HSR.out hmp (by rw [HB.out.cell (p := ⟨4, 0, none⟩) hmp]; exact HM.out) (by omega))
        have HJ := hide (Ex.nameds_succ all l j hjl)
        clear hxu hle hdr hsz hcell0 hil
        go_wp2_with fail
        refine HE.out.mono ?_
        rintro e w2 ⟨rfl, hs2, hb2⟩
        have HS2 := hide hs2
        have HB2 := hide hb2
        clear hs2 hb2
        go_wp2_with fail
        go_roundw
        case rel => exact ⟨j + 1, by omega, by go_num, by rw [HJ.out, insAll_append]; exact HS2.out, HB.out.trans HB2.out⟩
        case measure => simp [intOf]; omega
      · have hjn : j = n := by omega
        subst hjn
        go_wp2_with fail
        go_end0
        refine ⟨rfl, ?_, HB.out⟩
        rw [HNM.out]
        have := HSR.out
        rw [HN.out, Ex.nameds_all] at this
        exact this
theorem contains_not : Lib.contains (⟨(kindsOf false).toArray⟩ : ByteArray).data.toList (⟨(kindS 2).toArray⟩ : ByteArray).data.toList = false := by decide
theorem contains_is (all : Bool) (k : Nat) (h : (k = 2 ∧ all = true) ∨ k = 3 ∨ k = 4) : Lib.contains (⟨(kindsOf all).toArray⟩ : ByteArray).data.toList (⟨(kindS k).toArray⟩ : ByteArray).data.toList = true := by
  rcases h with ⟨rfl, rfl⟩ | rfl | rfl
  · decide
  · cases all <;> decide
  · cases all <;> decide
set_option maxHeartbeats 1000000 in
set_option maxRecDepth 100000 in
theorem named_not (nm : List UInt8) (hnm : nm ≠ []) (g p : Nat) (m : Int) (ns : List (List UInt8)) (w : World) (h : IsRx (fun g => g < p) w ⟨2, nm, []⟩ g) (hs : Sn p (kindsOf false) ns w) (hm : w.cell? ⟨4, 0, none⟩ = some (.int .i64 m)) :
    Calls Tryz.prog 142 #[.pointer (some ⟨g, 0, none⟩), .pointer (some ⟨p, 0, none⟩), .pointer (some ⟨p + 1, 0, none⟩), .pointer (some ⟨p + 2, 0, none⟩)] w fun e w' => e = .returned (.tuple #[]) ∧ Sn p (kindsOf false) ns w' ∧ Below p w w' := by
  have HS := hide hs
  have HM := hide hm
  rw [IsRx.def] at h
  obtain ⟨_, _, _, hk, hn, sv, hsv, hof⟩ := h
  have hc := hs.cells.1
  have HC := hide (fun n => Tryz.strings_Contains ⟨(kindsOf false).toArray⟩ ⟨(kindS 2).toArray⟩ m (w.drewN n) (by decide) (by rw [World.cell?_drewN]; exact hm))
  rw [contains_not] at HC
  generalize kindS 2 = kk at *
  generalize kindsOf false = kd at *
  have hne : ((⟨nm.toArray⟩ : ByteArray).toList.isEmpty) = false := by rw [ByteArray.toList_eq]; cases nm <;> simp_all
  clear hs hm hnm
  rcases hof with ⟨h0, rfl⟩ | ⟨hpos, b, cap, rfl, hcap, hbp, hrow⟩
  · generalize (⟨nm.toArray⟩ : ByteArray) = nb at *
    go_enter Tryz.func142, Tryz.ntmps142
    go_wp2_with fail
    go_quiet ((go_at_call 143; refine (HC.out _).mono ?_; rintro e w'' ⟨rfl, rfl⟩; exact ⟨rfl, _, rfl⟩))
    go_wp2_with fail
    go_loopw [76] (fun i wr => i = .int .i64 0 ∧ wr = w.drewN nq) (fun _ _ => 0)
    case atStart => exact ⟨rfl, rfl⟩
    case round =>
      obtain ⟨rfl, rfl⟩ := hrel
      go_wp2_with fail
      go_end0
      exact ⟨rfl, HS.out.drewN nq, (Below.refl _ _).drewM nq⟩
  · simp at hpos
end
section
open Go.RowKit
theorem ownsRow_shape {w : World} {B : Nat} {e : TypeId} {v : Value} {n : Nat} {xs : List Value} (h : w.ownsRow B e 1 v n xs) : ∃ a c, v = .slice a n c := by
  rcases h.2 with ⟨hv, hn⟩ | ⟨g, cap, cur, hv, _⟩
  · exact ⟨_, _, by rw [hv, hn]⟩
  · exact ⟨_, _, hv⟩
theorem put_list (L M : List Value) (n q cap : Nat) (u e : Value) (hM : M.length = n) (hq : q ≤ n) (hn : n + 1 ≤ cap) (hL : L.length = cap) (ht : L.take (n + 1) = M ++ [e]) :
    ((splice L (q + 1) (M.drop q)).set q u).take (n + 1) = M.take q ++ u :: M.drop q := by
  have h1 : L.take q = M.take q := by
    have : (L.take (n + 1)).take q = (M ++ [e]).take q := by rw [ht]
    rw [List.take_take, Nat.min_eq_left (by omega), List.take_append_of_le_length (by omega)] at this
    exact this
  have h2 : L.take (q + 1) = M.take q ++ [L[q]'(by omega)] := by
    rw [List.take_succ_eq_append_getElem (by omega), h1]
  unfold splice
  rw [h2]
  have hl : (M.take q).length = q := by rw [List.length_take]; omega
  have e1 : (M.take q ++ [L[q]'(by omega)] ++ (M.drop q ++ L.drop (q + 1 + (M.drop q).length))).set q u = M.take q ++ [u] ++ (M.drop q ++ L.drop (q + 1 + (M.drop q).length)) := by
    rw [List.append_assoc, List.set_append_right q u (by omega), hl, Nat.sub_self]
    simp
  rw [e1, ← List.append_assoc, List.take_append_of_le_length (by simp; omega), List.take_of_length_le (by simp; omega)]
  simp
theorem put_end {p q n g2 cap2 : Nat} {kd nm : List UInt8} {ns : List (List UInt8)} {cur2 : Array Value} {w1 w3 wc : World} (hN : n = ns.length) (hq : q ≤ n) (hS1 : Sn p kd ns w1) (hB3 : Below (p + 1) w1 w3) (hO3 : w3.heap[p + 1]? = some (.cells #[.slice (some ⟨g2, 0, none⟩) (n + 1) cap2] 65 (0, 0)))
    (hF3 : w3.heap[p + 2]? = w1.heap[p + 2]?) (hB4 : Below (p + 3) w3 wc) (hG4 : wc.heap[g2]? = some (.cells (splice cur2.toList (q + 1) ((ns.drop q).map strV)).toArray 9 (0, 0))) (hSL : (splice cur2.toList (q + 1) ((ns.drop q).map strV)).length = cap2)
    (hg : p + 3 ≤ g2) (hnc : n + 1 ≤ cap2) (hcm : cap2 ≤ maxLen) (hcs : cur2.size = cap2) (htk : cur2.toList.take (n + 1) = ns.map strV ++ [strV []]) :
    Sn p kd (ns.take q ++ nm :: ns.drop q) (wc.setCell ⟨g2, q, none⟩ (strV nm)) ∧ Below p w1 (wc.setCell ⟨g2, q, none⟩ (strV nm)) := by
  have hne : ∀ b, b < p + 3 → (wc.setCell ⟨g2, q, none⟩ (strV nm)).heap[b]? = w3.heap[b]? := fun b hb => by
    rw [Below.heap_setCell _ _ _ _ (by simp; omega), hB4.block b hb]
  refine ⟨⟨?_, ⟨.slice (some ⟨g2, 0, none⟩) (n + 1) cap2, ?_, ?_⟩, ?_⟩, ?_⟩
  · rw [hne p (by omega), hB3.block p (by omega)]; exact hS1.k
  · rw [hne (p + 1) (by omega)]; exact hO3
  · have hl : (ns.take q ++ nm :: ns.drop q).length = n + 1 := by simp; omega
    rw [hl]
    refine ⟨by rw [List.length_map, hl]; omega, .inr ⟨g2, cap2, (splice cur2.toList (q + 1) ((ns.drop q).map strV)).toArray.setIfInBounds q (strV nm), rfl, hg, heap_setCell_same wc g2 q _ _ _ hG4, hnc, hcm, by simp; simpa using hSL, ?_⟩⟩
    rw [Array.toList_setIfInBounds, Nat.mul_one]
    have := put_list cur2.toList (ns.map strV) n q cap2 (strV nm) (strV []) (by simp [hN]) hq hnc (by simp [hcs]) htk
    rw [← List.map_drop] at this
    rw [this]
    simp
  · rw [hne (p + 2) (by omega), hF3]; exact hS1.f
  · exact ((hB3.mono (by omega)).trans (hB4.mono (by omega))).setCell (by simp; omega) _
theorem wrap_next (q : Nat) (h : q < 2000000) : IntKind.i64.wrap ((q : Int) + 1) = (q : Int) + 1 := by
  rw [IntKind.wrap_i64]; omega
set_option maxHeartbeats 1000000 in
set_option maxRecDepth 100000 in
theorem named_put (all : Bool) (k : Nat) (hk0 : (k = 2 ∧ all = true) ∨ k = 3 ∨ k = 4) (nm : List UInt8) (hnm : nm ≠ []) (g p : Nat) (m : Int) (ns : List (List UInt8)) (w : World) (h : IsRx (fun g => g < p) w ⟨k, nm, []⟩ g) (hs : Sn p (kindsOf all) ns w) (hm : w.cell? ⟨4, 0, none⟩ = some (.int .i64 m)) (hlen : ns.length < 1000000) :
    Calls Tryz.prog 142 #[.pointer (some ⟨g, 0, none⟩), .pointer (some ⟨p, 0, none⟩), .pointer (some ⟨p + 1, 0, none⟩), .pointer (some ⟨p + 2, 0, none⟩)] w fun e w' => e = .returned (.tuple #[]) ∧ Sn p (kindsOf all) (ins ns nm) w' ∧ Below p w w' := by
  have HS := hide hs
  have HM := hide hm
  rw [IsRx.def] at h
  obtain ⟨_, _, _, hk, hn, sv, hsv, hof⟩ := h
  have hc := hs.cells.1
  have HC := hide (fun n => Tryz.strings_Contains ⟨(kindsOf all).toArray⟩ ⟨(kindS k).toArray⟩ m (w.drewN n) (by cases all <;> decide) (by rw [World.cell?_drewN]; exact hm))
  rw [contains_is all k hk0] at HC
  generalize kindS k = kk at *
  generalize kindsOf all = kd at *
  have hne : nm.isEmpty = false := by cases nm <;> simp_all
  obtain ⟨v, hb1, ho⟩ := hs.o
  obtain ⟨a, c, rfl⟩ := ownsRow_shape ho
  have hc1 : w.cell? ⟨p + 1, 0, none⟩ = some (.slice a ns.length c) := by rw [Lib.cell_of_heap hb1]; rfl
  have HO := hide ho
  have HB1 := hide hb1
  obtain ⟨n, hn'⟩ : ∃ n, n = ns.length := ⟨_, rfl⟩
  have HN := hide hn'
  rw [← hn'] at hc1 hlen
  clear hs hm hnm hb1 ho hn' hk0
  rcases hof with ⟨h0, rfl⟩ | ⟨hpos, b, cap, rfl, hcap, hbp, hrow⟩
  · go_enter Tryz.func142, Tryz.ntmps142
    go_wp2_with fail
    go_quiet ((go_at_call 143; refine (HC.out _).mono ?_; rintro e w'' ⟨rfl, rfl⟩; exact ⟨rfl, _, rfl⟩))
    clear HC hne hk hc
    go_upto_block 0 with fail
    go_cut [5] (fun t wx => ∃ q d : Nat, t = .int .i64 (q : Int) ∧ q ≤ n ∧ (∀ j, j < q → ∀ y, ns[j]? = some y → y < nm) ∧ (∀ y, ns[q]? = some y → ¬ y < nm) ∧ wx = w.drewN d)
    case first =>
      go_wp2_with fail
      go_loopw [5] (fun t wr => ∃ q d : Nat, t = .int .i64 (q : Int) ∧ q ≤ n ∧ Hid (∀ j, j < q → ∀ y, ns[j]? = some y → y < nm) ∧ wr = w.drewN d) (fun i _ => n - (intOf i).toNat)
      case atStart => exact ⟨0, nq, rfl, Nat.zero_le _, fun j hj => absurd hj (by omega), rfl⟩
      case round =>
        obtain ⟨q, d, rfl, hq, HQ, rfl⟩ := hrel
        by_cases hlt : q < n
        · have hlt' : (q : Int) < (n : Int) := by omega
          have hql : q < ns.length := by rw [← HN.out]; exact hlt
          obtain ⟨gr, hgr⟩ : ∃ gr, a = some ⟨gr, 0, none⟩ := by
            rcases HO.out.2 with ⟨hv, hz⟩ | ⟨g', cap', cur, hv, _⟩
            · omega
            · simp only [Value.slice.injEq] at hv; exact ⟨g', hv.1⟩
          have hcy : w.cell? ⟨gr, q, none⟩ = some (strV ns[q]) := by
            have := HO.out
            rw [hgr] at this
            rw [this.cellAt q (by omega), List.getElem?_map, List.getElem?_eq_getElem hql]; rfl
          have HY : Hid (ns[q]? = some ns[q]) := List.getElem?_eq_getElem hql
          subst hgr
          generalize ns[q] = y at *
          unfold strV at hcy
          clear hql
          by_cases hy : y < nm
          · have hyb : Op.bytesLess y nm = true := by rw [bytesLess_eq]; exact decide_eq_true hy
            have HYN := hide hy
            clear hy
            go_wp2_with fail
            go_quiet (fail)
            go_wp2_with fail
            go_roundw
            case rel =>
              refine ⟨q + 1, d + nq, by go_num, by omega, ?_, by first | rfl | simp⟩
              intro j hj z hz
              by_cases e : j = q
              · subst e; rw [HY.out] at hz; simp only [Option.some.injEq] at hz; rw [← hz]; exact HYN.out
              · exact HQ.out j (by omega) z hz
            case measure => simp [intOf]; omega
          · have hyb : Op.bytesLess y nm = false := by rw [bytesLess_eq]; exact decide_eq_false hy
            have HYN := hide hy
            clear hy
            go_wp2_with fail
            go_quiet (fail)
            go_wp2_with fail
            go_meet
            exact ⟨q, d + nq, rfl, hq, HQ.out, fun z hz => by rw [HY.out] at hz; simp only [Option.some.injEq] at hz; rw [← hz]; exact HYN.out, by first | rfl | simp⟩
        · have hlt' : ¬ (q : Int) < (n : Int) := by omega
          have hlb : decide ((q : Int) < (n : Int)) = false := decide_eq_false hlt'
          go_wp2_with fail
          go_quiet (fail)
          go_wp2_with fail
          go_meet
          exact ⟨q, d + nq, rfl, hq, HQ.out, fun z hz => by rw [List.getElem?_eq_none (by have := HN.out; omega)] at hz; simp at hz, by first | rfl | simp⟩
    case rest =>
      obtain ⟨q, d, rfl, hq, hq1, hq2, rfl⟩ := hcut
      have HI := hide (ins_at nm ns q (by have := HN.out; omega) hq1 hq2)
      clear hq1 hq2
      by_cases hqe : ns[q]? = some nm
      · have HE : Hid (ins ns nm = ns) := by show _ = _; rw [HI.out, if_pos hqe]
        have hql : q < ns.length := by
          by_cases h : q < ns.length
          · exact h
          · rw [List.getElem?_eq_none (by omega)] at hqe; simp at hqe
        obtain ⟨gr, hgr⟩ : ∃ gr, a = some ⟨gr, 0, none⟩ := by
          rcases HO.out.2 with ⟨hv, hz⟩ | ⟨g', cap', cur, hv, _⟩
          · omega
          · simp only [Value.slice.injEq] at hv; exact ⟨g', hv.1⟩
        have hcy : w.cell? ⟨gr, q, none⟩ = some (strV nm) := by
          have := HO.out
          rw [hgr] at this
          rw [this.cellAt q (by omega), List.getElem?_map, hqe]; rfl
        subst hgr
        unfold strV at hcy
        have hlt : q < n := by rw [HN.out]; exact hql
        have hlb : ((q : Int) == (n : Int)) = false := beq_eq_false_iff_ne.2 (by omega)
        clear hqe hql
        go_wp2_with fail
        go_quiet (fail)
        go_wp2_with fail
        go_loopw [76] (fun i wr => i = .int .i64 0 ∧ ∃ d, wr = w.drewN d) (fun _ _ => 0)
        case atStart => exact ⟨rfl, d + nq, by first | rfl | simp⟩
        case round =>
          obtain ⟨rfl, d2, rfl⟩ := hrel
          go_wp2_with fail
          go_end0
          exact ⟨rfl, by rw [HE.out]; exact HS.out.drewN d2, (Below.refl _ _).drewM d2⟩
      · have HE : Hid (ins ns nm = ns.take q ++ nm :: ns.drop q) := by show _ = _; rw [HI.out, if_neg hqe]
        go_upto_region 4 with fail
        go_cut [52] (fun t wx => t = .bool true ∧ ∃ d, wx = w.drewN d)
        case first =>
          by_cases hlt : q < n
          · have hql : q < ns.length := by rw [← HN.out]; exact hlt
            obtain ⟨gr, hgr⟩ : ∃ gr, a = some ⟨gr, 0, none⟩ := by
              rcases HO.out.2 with ⟨hv, hz⟩ | ⟨g', cap', cur, hv, _⟩
              · omega
              · simp only [Value.slice.injEq] at hv; exact ⟨g', hv.1⟩
            have hcy : w.cell? ⟨gr, q, none⟩ = some (strV ns[q]) := by
              have := HO.out
              rw [hgr] at this
              rw [this.cellAt q (by omega), List.getElem?_map, List.getElem?_eq_getElem hql]; rfl
            rw [List.getElem?_eq_getElem hql] at hqe
            subst hgr
            unfold strV at hcy
            have hlb : ((q : Int) == (n : Int)) = false := beq_eq_false_iff_ne.2 (by omega)
            generalize ns[q] = y at *
            have hyn : (y == nm) = false := beq_eq_false_iff_ne.2 (by intro e; exact hqe (by rw [e]))
            have hyn2 : (y != nm) = true := by simp [bne, hyn]
            clear hqe hql
            go_wp2_with fail
            go_quiet (fail)
            go_wp2_with fail
            go_meet
            exact ⟨rfl, d + nq, by first | rfl | simp⟩
          · have hqn : q = n := by omega
            subst hqn
            have hlb : ((q : Int) == (q : Int)) = true := beq_self_eq_true _
            go_wp2_with fail
            go_quiet (fail)
            go_wp2_with fail
            go_meet
            exact ⟨rfl, d + nq, by first | rfl | simp⟩
        case rest =>
          obtain ⟨rfl, d2, rfl⟩ := hcut
          clear hqe HI
          obtain ⟨w1, hw1⟩ : ∃ w1, w1 = w.drewN d2 := ⟨_, rfl⟩
          have HS1 : Hid (Sn p kd ns w1) := by show Sn _ _ _ _; rw [hw1]; exact HS.out.drewN d2
          have HBL : Hid (Below p w w1) := by show Below _ _ _; rw [hw1]; exact (Below.refl _ _).drewM d2
          rw [← hw1]
          have hc1' : w1.cell? ⟨p + 1, 0, none⟩ = some (.slice a n c) := by rw [hw1]; exact hc1
          have hn1 : w1.cell? ⟨g, 1, none⟩ = some (.string ⟨nm.toArray⟩) := by rw [hw1]; exact hn
          have hsv1 : w1.cell? ⟨g, 2, none⟩ = some (.slice none 0 0) := by rw [hw1]; exact hsv
          have HOW : Hid (w1.ownsRow (p + 3) 9 1 (.slice a n c) n (ns.map strV)) := by show World.ownsRow _ _ _ _ _ _ _; have := HO.out; rw [← HN.out] at this; rw [hw1]; exact this
          have HP1 : Hid (w1.heap[p + 1]? = some (.cells #[.slice a n c] 65 (0, 0))) := by show _ = _; have := HB1.out; rw [← HN.out] at this; rw [hw1]; exact this
          have hp1s : p + 2 < w1.heap.size := by have := HS1.out.f; exact (Array.getElem?_eq_some_iff.1 this).1
          clear hw1 hc1 hn hsv HO HB1 HS
          obtain ⟨i0, hi0, hz0, hz1, hz2⟩ := info_parts Tryz.infoStr
          have HO2 := hide (HOW.out.alloc (.cells #[.string ⟨#[]⟩] 9))
          go_wp2_with (at_builtin; refine wpList_append_own _ rfl _ _ 65 rfl (p + 3) 9 i0 (.string ⟨#[]⟩) 1 16 Tryz.underlying65 hi0 hz0 hz1 hz2 rfl (by decide) _ n (ns.map strV) rfl HO2.out ⟨w1.heap.size, 0, none⟩ 1 1 [.string ⟨#[]⟩] rfl rfl (cell_one_new _ _ _) ?c2 ?c3 ?c4 ?c5 ?_)
          case c2 => intro z hz; simp at hz; subst hz; rfl
          case c3 => unfold maxLen; omega
          case c4 => omega
          case c5 => simp; omega
          intro v' w2 hown' hgrow _
          have hB12 : Below (p + 3) w1 w2 := ((Below.refl _ _).alloc (by omega) _).grown hgrow (by simp; omega) (fun k hk => (HOW.out.lt k hk).1)
          obtain ⟨g2, cap2, cur2, rfl, hg2, hcur2, hnc2, hcm2, hcs2, htk2⟩ : ∃ g2 cap2 cur2, v' = .slice (some ⟨g2, 0, none⟩) (n + 1) cap2 ∧ p + 3 ≤ g2 ∧ w2.heap[g2]? = some (.cells cur2 9 (0, 0)) ∧ n + 1 ≤ cap2 ∧ cap2 ≤ maxLen ∧ cur2.size = cap2 ∧ cur2.toList.take (n + 1) = ns.map strV ++ [strV []] := by
            rcases hown'.2 with ⟨_, h0⟩ | ⟨g', cap', cur', hv, h1, h2, h3, h4, h5, h6⟩
            · omega
            · exact ⟨g', cap', cur', hv, h1, h2, h3, h4, by simpa using h5, by simpa [strV] using h6⟩
          have hp2 : w2.heap[p + 1]? = some (.cells #[.slice a n c] 65 (0, 0)) := by rw [hB12.block (p + 1) (by omega)]; exact HP1.out
          have d0 : w2.cell? ⟨p + 1, 0, none⟩ = some (.slice a n c) := by rw [Lib.cell_of_heap hp2]; rfl
          have f0 : w2.frozen? ⟨p + 1, 0, none⟩ = false := Lib.frozen_of_heap hp2 0
          obtain ⟨w3, hw3⟩ : ∃ w3, w3 = w2.setCell ⟨p + 1, 0, none⟩ (.slice (some ⟨g2, 0, none⟩) (n + 1) cap2) := ⟨_, rfl⟩
          have HB3 : Hid (Below (p + 1) w1 w3) := by show Below _ _ _; rw [hw3]; exact (hB12.mono (by omega)).setCell (by simp) _
          have HC3 : Hid (w3.heap[g2]? = some (.cells cur2 9 (0, 0))) := by show _ = _; rw [hw3, Below.heap_setCell _ _ _ _ (by simp; omega)]; exact hcur2
          have HO3 : Hid (w3.heap[p + 1]? = some (.cells #[.slice (some ⟨g2, 0, none⟩) (n + 1) cap2] 65 (0, 0))) := by show _ = _; rw [hw3]; simp [World.setCell, Array.getElem?_modify, hp2]
          have HF3 : Hid (w3.heap[p + 2]? = w1.heap[p + 2]?) := by show _ = _; rw [hw3, Below.heap_setCell _ _ _ _ (by simp), hB12.block (p + 2) (by omega)]
          have HG2 := hide hg2
          have HTK := hide htk2
          have HCS := hide hcs2
          have HW3 := hide hw3
          clear hown' hgrow hp2 hB12 hcur2 htk2 hcs2 HO2 HOW HP1 hc1' hg2
          go_upto_region 6 with fail
          rw [← HW3.out]
          clear d0 f0 hw3 HW3
          go_cut [63] (fun _ wx => wx.heap[g2]? = some (.cells (splice cur2.toList (q + 1) ((ns.drop q).map strV)).toArray 9 (0, 0)) ∧ Below (p + 3) w3 wx)
          case first =>
            have e0 : w3.cell? ⟨p + 1, 0, none⟩ = some (.slice (some ⟨g2, 0, none⟩) (n + 1) cap2) := by rw [Lib.cell_of_heap HO3.out]; rfl
            have hcl : ((ns.drop q).map strV).length = n - q := by simp [HN.out]
            have hwq : IntKind.i64.wrap ((q : Int) + 1) = (q : Int) + 1 := wrap_next q (by omega)
            have hqn : (q : Int) + 1 ≤ (n : Int) + 1 := by omega
            have hqn3 : (q : Int) ≤ (n : Int) := by omega
            have hqn2 : (q : Int) ≤ (n : Int) + 1 := by omega
            have hq0 : (0 : Int) ≤ (q : Int) + 1 := by omega
            have htn : ((q : Int) + 1).toNat = q + 1 := by omega
            have hcc : cap2 ≠ q := by omega
            have HK2 : Hid (∀ j v, ((ns.drop q).map strV)[j]? = some v → w3.drew.cell? ((⟨g2, q, none⟩ : Addr).add j) = some v) := by
              intro j v hj
              have hjl : j < n - q := by
                by_cases h : j < n - q
                · exact h
                · rw [List.getElem?_eq_none (by rw [hcl]; omega)] at hj; simp at hj
              have e1 : w3.cell? ⟨g2, q + j, none⟩ = some v := by
                rw [Lib.cell_of_heap HC3.out]
                have e2 : (cur2.toList.take (n + 1))[q + j]? = some v := by
                  rw [HTK.out, List.getElem?_append_left (by simp [← HN.out]; omega)]
                  rw [List.map_drop, List.getElem?_drop] at hj
                  exact hj
                rw [List.getElem?_take, if_pos (by omega)] at e2
                simpa using e2
              cases j <;> simpa [Addr.add] using e1
            have HK3 : Hid (∀ v ∈ (ns.drop q).map strV, v.oneCell' = true) := by
              intro v hv
              obtain ⟨y, _, rfl⟩ := List.mem_map.1 hv
              rfl
            have HCL := hide hcl
            clear hcl
            go_region_law (refine step_copy_splice rfl (.tmp 59) (.tmp 62) 65 65 rfl 9 Tryz.underlying65 (by kernel_rfl) _ _ _ _ _ _ rfl rfl g2 (q + 1) cur2.toList 9 (by rw [Array.toArray_toList]; exact HC3.out) ((ns.drop q).map strV) (by rw [HCL.out]; show _ = min _ _; omega) (fun h => ⟨if_neg (by rw [HCL.out] at h; omega), _, rfl, HK2.out⟩) (by rw [HCL.out, Array.length_toList, HCS.out]; omega) HK3.out (p + 3) _ (Below.refl _ _) HG2.out ?_; intro w4 hg4 hb4)
            all_goals (go_wp2_with fail)
            all_goals go_meet
            all_goals exact ⟨hg4.out, ⟨hb4.os, hb4.tape, hb4.output, hb4.size, hb4.block⟩⟩
          case rest =>
            obtain ⟨hg4, hb4⟩ := hcut
            have HG4 := hide hg4
            have HB4 := hide hb4
            have e0 : wc.cell? ⟨p + 1, 0, none⟩ = some (.slice (some ⟨g2, 0, none⟩) (n + 1) cap2) := by rw [hb4.cell (p := ⟨p + 1, 0, none⟩) (by simp), Lib.cell_of_heap HO3.out]; rfl
            have e1 : wc.cell? ⟨g, 1, none⟩ = some (.string ⟨nm.toArray⟩) := by rw [hb4.cell (p := ⟨g, 1, none⟩) (by simp; omega), HB3.out.cell (p := ⟨g, 1, none⟩) (by simp; omega)]; exact hn1
            have e2 : wc.cell? ⟨g, 2, none⟩ = some (.slice none 0 0) := by rw [hb4.cell (p := ⟨g, 2, none⟩) (by simp; omega), HB3.out.cell (p := ⟨g, 2, none⟩) (by simp; omega)]; exact hsv1
            have hsl : (splice cur2.toList (q + 1) ((ns.drop q).map strV)).length = cap2 := by
              rw [length_splice _ _ _ (by simp [← HN.out, HCS.out]; omega), Array.length_toList, HCS.out]
            have e3 : ∃ z, wc.cell? ⟨g2, q, none⟩ = some z := by
              rw [Lib.cell_of_heap hg4]
              exact ⟨_, Array.getElem?_eq_getElem (by rw [List.size_toArray, hsl]; omega)⟩
            obtain ⟨z, e3⟩ := e3
            have f3 : wc.frozen? ⟨g2, q, none⟩ = false := Lib.frozen_of_heap hg4 q
            have HSL := hide hsl
            have hqn : (q : Int) < (n : Int) + 1 := by omega
            have hg2' := HG2.out
            have e5 : (wc.setCell ⟨g2, q, none⟩ (.string ⟨nm.toArray⟩)).cell? ⟨g, 2, none⟩ = some (.slice none 0 0) := by rw [((Below.refl (p + 3) wc).setCell (p := ⟨g2, q, none⟩) (by simp; omega) _).cell (p := ⟨g, 2, none⟩) (by simp; omega)]; exact e2
            clear hg4 hb4 hsl
            go_wp2_with fail
            go_region
            go_wp2_with fail
            go_loopw [76] (fun i wr => i = .int .i64 0 ∧ ∃ d, wr = (wc.setCell ⟨g2, q, none⟩ (strV nm)).drewN d) (fun _ _ => 0)
            case atStart => exact ⟨rfl, 1, rfl⟩
            case round =>
              obtain ⟨rfl, d3, rfl⟩ := hrel
              go_wp2_with fail
              go_end0
              have hend := put_end (nm := nm) HN.out hq HS1.out HB3.out HO3.out HF3.out HB4.out HG4.out HSL.out HG2.out hnc2 hcm2 HCS.out HTK.out
              exact ⟨rfl, by rw [HE.out]; exact hend.1.drewN d3, (HBL.out.trans hend.2).drewM d3⟩
  · simp at hpos
end
section
open Go.RowKit
theorem rnamed_any (x : Ex) : NamedOK x := by
  induction x using Ex.ind with
  | h k nm l ih =>
    intro all p g m ns w h hs hmp hm hsz
    have h' := h
    rw [IsRx.def] at h'
    obtain ⟨_, hwf, _⟩ := h'
    rcases hwf with ⟨h1, rfl, h3⟩ | ⟨h1, h2, h3, h4⟩ | ⟨rfl, rfl, _⟩ | ⟨h1, h2, rfl, _⟩
    · exact named_none k l ⟨by omega, by omega, by omega⟩ ih all p g m ns w h hs hmp hm hsz
    · have hl : l = [] := List.length_eq_zero_iff.1 h4
      subst hl
      rw [Ex.size_eq] at hsz
      by_cases hb : k = 2 ∧ all = false
      · obtain ⟨rfl, rfl⟩ := hb
        have := named_not nm h3 g p m ns w h hs hm
        rw [Ex.named2]
        exact this
      · have hk : (k = 2 ∧ all = true) ∨ k = 3 ∨ k = 4 := by
          cases all
          · have : k ≠ 2 := fun e => hb ⟨e, rfl⟩
            omega
          · simp; omega
        have := named_put all k hk nm h3 g p m ns w h hs hm (by omega)
        have hn : Ex.named all ⟨k, nm, []⟩ = [nm] := by
          rcases hk with ⟨rfl, rfl⟩ | rfl | rfl
          · rw [Ex.named2]; rfl
          · rw [Ex.named3]
          · rw [Ex.named4]
        rw [hn]
        exact this
    · exact named_none 5 l (by decide) ih all p g m ns w h hs hmp hm hsz
    · exact named_none k l ⟨by omega, by omega, by omega⟩ ih all p g m ns w h hs hmp hm hsz
theorem owned_strs {w : World} {B : Nat} {v : Value} {ns : List (List UInt8)} (h : w.ownsRow B 9 1 v ns.length (ns.map strV)) (hl : ns.length ≤ 1000000) : Strs w v (ns.map toBA) := by
  rcases h.2 with ⟨hv, hn⟩ | ⟨g, cap, cur, hv, _, _, hnc, _⟩
  · exact .inl ⟨by simp [List.length_eq_zero_iff.1 hn], _, _, hv⟩
  · refine .inr ⟨g, 0, cap, by rw [hv]; simp, by simp; omega, by simp; omega, ?_⟩
    intro k s hk
    rw [List.getElem?_map] at hk
    cases e : ns[k]? with
    | none => rw [e] at hk; simp at hk
    | some y =>
      rw [e] at hk
      simp only [Option.map_some, Option.some.injEq] at hk
      subst hv
      have hkl : k < ns.length := by
        by_cases h : k < ns.length
        · exact h
        · rw [List.getElem?_eq_none (by omega)] at e; simp at e
      rw [Nat.zero_add, h.cellAt k (by omega), List.getElem?_map, e, ← hk]
      rfl
set_option maxHeartbeats 1000000 in
set_option maxRecDepth 100000 in
theorem Named_all (ok : Nat → Prop) (all : Bool) (x : Ex) (g : Nat) (m : Int) (w : World) (h : IsRx ok w x g) (hlen : x.size ≤ 1000000) (hmp : 4 < w.heap.size) (hm : w.cell? ⟨4, 0, none⟩ = some (.int .i64 m)) :
    Calls Tryz.prog 96 #[.pointer (some ⟨g, 0, none⟩), .string ⟨(kindsOf all).toArray⟩] w fun e w' => ∃ sv, e = .returned sv ∧ Strs w' sv ((ordered (x.named all)).map toBA) ∧ Below w.heap.size w w' := by
  have hmf : ∀ (fn : Fn) (first cap : Array Value) (w : World), (Instr.makeFunc fn first cap).run Tryz.prog w = .ok (.func fn first cap) w := fun _ _ _ _ => rfl
  obtain ⟨kd, hkd⟩ : ∃ kd, kd = kindsOf all := ⟨_, rfl⟩
  obtain ⟨wa, hwa⟩ : ∃ wa, wa = (w.alloc (.cells #[.string ⟨kd.toArray⟩] 9)).alloc (.cells #[.slice none 0 0] 65) := ⟨_, rfl⟩
  obtain ⟨F, hF⟩ : ∃ F, F = Value.func (.func 142) #[] #[.pointer (some ⟨w.heap.size, 0, none⟩), .pointer (some ⟨w.heap.size + 1, 0, none⟩), .pointer (some ⟨w.heap.size + 1 + 1, 0, none⟩)] := ⟨_, rfl⟩
  have hsa : wa.heap.size = w.heap.size + 1 + 1 := by rw [hwa]; simp
  have hba : Below w.heap.size w wa := by rw [hwa]; exact ((Below.refl _ w).alloc (Nat.le_refl _) _).alloc (by simp) _
  have hk1 : wa.heap[w.heap.size]? = some (.cells #[.string ⟨kd.toArray⟩] 9 (0, 0)) := by
    rw [hwa, Below.heap_alloc _ _ _ (by simp)]; exact heap_alloc_new _ _
  have ho1 : wa.heap[w.heap.size + 1]? = some (.cells #[.slice none 0 0] 65 (0, 0)) := by
    have := heap_alloc_new (w.alloc (.cells #[.string ⟨kd.toArray⟩] 9)) (.cells #[.slice none 0 0] 65)
    rw [World.size_alloc] at this
    rw [hwa]; exact this
  have hnew : (wa.alloc (.cells #[.nilFunc] 261)).heap[w.heap.size + 1 + 1]? = some (.cells #[.nilFunc] 261 (0, 0)) := by
    rw [← hsa]; exact heap_alloc_new _ _
  have s0 : (wa.alloc (.cells #[.nilFunc] 261)).cell? ⟨w.heap.size + 1 + 1, 0, none⟩ = some .nilFunc := by rw [Lib.cell_of_heap hnew]; rfl
  have s1 : (wa.alloc (.cells #[.nilFunc] 261)).frozen? ⟨w.heap.size + 1 + 1, 0, none⟩ = false := Lib.frozen_of_heap hnew 0
  obtain ⟨w3, hw3⟩ : ∃ w3, w3 = wa.alloc (.cells #[F] 261) := ⟨_, rfl⟩
  have hb3 : Below (w.heap.size + 1 + 1) wa w3 := by rw [hw3]; exact (Below.refl _ wa).alloc (by omega) _
  have hf3 : w3.heap[w.heap.size + 1 + 1]? = some (.cells #[F] 261 (0, 0)) := by rw [hw3, ← hsa]; exact heap_alloc_new _ _
  have hbw : Below w.heap.size w w3 := hba.trans (hb3.mono (by omega))
  have hs3 : Sn w.heap.size kd [] w3 := ⟨by rw [hb3.block _ (by omega)]; exact hk1, ⟨_, by rw [hb3.block _ (by omega)]; exact ho1, World.ownsRow_nil _ _ _ _⟩, by rw [← hF]; exact hf3⟩
  have hx3 : IsRx (fun g => g < w.heap.size) w3 x g := IsRx.stay (Stay.below hbw) (fun g hg => hg.2) x g (IsRx.lt x g h)
  have hm3 : w3.cell? ⟨4, 0, none⟩ = some (.int .i64 m) := by rw [hbw.cell (p := ⟨4, 0, none⟩) hmp]; exact hm
  have HC := hide (rnamed_any x all w.heap.size g m [] w3 hx3 (by rw [← hkd]; exact hs3) hmp hm3 (by simpa using hlen))
  rw [← hkd] at HC
  rw [← hkd]
  have HL := hide (insAll_len (x.named all) [])
  have HNL := hide (Ex.named_le all x)
  have HBW := hide hbw
  have HW3 := hide hw3
  have HWA := hide hwa
  have HF := hide hF
  have c3 : w3.cell? ⟨w.heap.size + 1 + 1, 0, none⟩ = some F := by rw [Lib.cell_of_heap hf3]; rfl
  rw [hw3, hF] at c3
  rw [hw3, hF] at HC
  rw [hwa] at s0 s1 c3 HC
  clear hsa hba hk1 ho1 hnew hb3 hf3 hbw hs3 hx3 hm3 hkd h hm hwa hF hw3
  go_enter Tryz.func96, Tryz.ntmps96
  go_wp2_with fail
  refine HC.out.mono ?_
  rintro e w1 ⟨rfl, hs, hb⟩
  obtain ⟨v, hp, ho⟩ := hs.o
  have c0 : w1.cell? ⟨w.heap.size + 1, 0, none⟩ = some v := by rw [Lib.cell_of_heap hp]; rfl
  have HO := hide ho
  have HB := hide hb
  obtain ⟨a, c, rfl⟩ := ownsRow_shape ho
  generalize hnn : (insAll [] (x.named all)).length = n at *
  have HNN := hide hnn
  clear hs hp ho hb hnn HC s0 s1 c3
  go_wp2_with fail
  go_ret
  refine ⟨.slice a n c, rfl, ?_, ?_⟩
  · rw [← insAll_ordered]
    exact owned_strs (B := w.heap.size + 3) (by rw [HNN.out]; exact HO.out) (by rw [HNN.out]; have h1 := HL.out; have h2 := HNL.out; simp only [List.length_nil] at h1; omega)
  · have := HB.out
    rw [← HWA.out, ← HF.out, ← HW3.out] at this
    exact HBW.out.trans this
set_option maxHeartbeats 1000000 in
set_option maxRecDepth 100000 in
theorem RNames_any (ok : Nat → Prop) (x : Ex) (g : Nat) (m : Int) (w : World) (h : IsRx ok w x g) (hlen : x.size ≤ 1000000) (hmp : 4 < w.heap.size) (hm : w.cell? ⟨4, 0, none⟩ = some (.int .i64 m)) :
    Calls Tryz.prog 44 #[.pointer (some ⟨g, 0, none⟩)] w fun e w' => ∃ sv, e = .returned sv ∧ Strs w' sv ((ordered (x.named true)).map toBA) ∧ Below w.heap.size w w' := by
  have HC := hide (Named_all ok true x g m w h hlen hmp hm)
  clear h hm
  go_enter Tryz.func44, Tryz.ntmps44
  go_wp2_with fail
  refine HC.out.mono ?_
  rintro e w1 ⟨sv, rfl, hs, hb⟩
  have HS := hide hs
  have HB := hide hb
  obtain ⟨a2, n2, c2, hsv2⟩ : ∃ a n c, sv = .slice a n c := by
    rcases hs with ⟨_, a, cap, h⟩ | ⟨g, o, cap, h, _⟩
    · exact ⟨_, _, _, h⟩
    · exact ⟨_, _, _, h⟩
  subst hsv2
  clear hs hb
  go_wp2_with fail
  go_ret
  exact ⟨.slice a2 n2 c2, rfl, HS.out, HB.out⟩
end
end Go.Proofs.YtgldbliohpfljaaGreatDoor
