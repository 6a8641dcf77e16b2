/-
  Plain mathematics of the document's own making tidy: part by part, as it is written there.
-/
import Derived.Test.YtpidknogiiclfaaGreatDoorTdGth
namespace Go.Proofs.YtpidknogiiclfaaGreatDoor
namespace Ex
theorem Gth.mem {k : Nat} {L U : List Ex} (h : Gth k L U false) (y : Ex) : y ∈ U ↔ y ∈ nc L := by
  rw [h.2 rfl, mem_addAll]; simp
theorem Gth.nodec {k : Nat} {L U : List Ex} (h : Gth k L U false) : ¬ dec k L := fun e => by simpa using h.1.2 e
theorem Gth.atOther {k : Nat} {L U : List Ex} (h : Gth k L U false) {y : Ex} (h2 : 2 ≤ y.kind) (ho : other y ∈ U) (M : List Ex) : gather k (L ++ [y] ++ M) = ⟨allK k, [], []⟩ := by
  refine gather_dec k _ (.inr ⟨y, ?_, ?_⟩)
  · rw [mem_nc]; exact ⟨by simp, h2⟩
  · have h1 := (h.mem _).1 ho
    rw [mem_nc] at h1 ⊢
    exact ⟨by simp [h1.1], h1.2⟩
theorem Gth.atAll {k : Nat} {L : List Ex} {t : Ex} (ht : t.kind = allK k) (M : List Ex) : gather k (L ++ [t] ++ M) = ⟨allK k, [], []⟩ := gather_dec k _ (.inl ⟨t, by simp, ht⟩)
theorem Gth.atNone {k : Nat} {L U : List Ex} (h : Gth k L U false) {t : Ex} (ht : t.kind = noneK k) (hL : ∀ y, y ∈ L → Td y) (hx : Td t) : Gth k (L ++ [t]) U false := by
  have h1 := h.step t hL hx
  rw [addS_const k U false t (by rw [ht]; exact noneK_le k)] at h1
  have e : (false || decide (t.kind = allK k)) = false := by
    rw [Bool.false_or, decide_eq_false_iff_not, ht]
    exact none_ne_all k
  rw [e] at h1
  exact h1
theorem Gth.atThere {k : Nat} {L U : List Ex} (h : Gth k L U false) {y : Ex} (h2 : 2 ≤ y.kind) (hy : y ∈ U) (hL : ∀ y, y ∈ L → Td y) (hx : Td y) : Gth k (L ++ [y]) U false := by
  have h1 := h.step y hL hx
  rw [addS_mem k U false y h2 hy] at h1
  exact h1
theorem Gth.atNew {k : Nat} {L U : List Ex} (h : Gth k L U false) {y : Ex} (h2 : 2 ≤ y.kind) (hy : y ∉ U) (ho : other y ∉ U) (hL : ∀ y, y ∈ L → Td y) (hx : Td y) : Gth k (L ++ [y]) (U ++ [y]) false := by
  have h1 := h.step y hL hx
  rw [addS_new k U false y h2 hy ho] at h1
  exact h1
end Ex
/-- a text is not much longer than its expression is great -/
theorem text_sizeR (x : Ex) : Ex.Wf x → x.text.length + 5 ≤ 20 * x.size := by
  induction x using Ex.ind with
  | h k nm l ih =>
    intro hw
    rw [Ex.Wf.def] at hw
    obtain ⟨hs, hl⟩ := hw
    rw [Ex.size_def]
    have hsum : ∀ (q : Nat) (r : List Ex), (∀ y, y ∈ r → y.text.length + 5 ≤ 20 * y.size) → ((r.map fun x => Ex.par (decide (q ≤ x.kind)) x.text).map List.length).sum + 3 * r.length ≤ 20 * (r.map fun x => x.size).sum := by
      intro q r
      induction r with
      | nil => intro _; simp
      | cons a r ihr =>
        intro h
        have h1 := h a (by simp)
        have h2 := ihr fun y hy => h y (by simp [hy])
        have h3 := (Ex.par_le (decide (q ≤ a.kind)) a.text).2
        simp only [List.map_cons, List.sum_cons, List.length_cons] at *
        omega
    rcases hs with ⟨h1, rfl, h3⟩ | ⟨h1, h2, h3, h4⟩ | ⟨rfl, rfl, h3⟩ | ⟨h1, h2, rfl, h4⟩
    · rcases Nat.le_one_iff_eq_zero_or_eq_one.1 h1 with rfl | rfl
      · simp [Ex.text]; omega
      · simp [Ex.text]; omega
    · have hn : nm.length ≤ 8 := by
        unfold Nm.name at h3
        simp only [Bool.and_eq_true, decide_eq_true_eq] at h3
        omega
      have hk : k = 2 ∨ k = 3 ∨ k = 4 := by omega
      rcases hk with rfl | rfl | rfl
      · simp [Ex.text]; omega
      · simp [Ex.text]; omega
      · simp [Ex.text]; omega
    · match l, h3, ih, hl with
      | [y], _, ih, hl =>
        have h5 := ih y (by simp) (hl y (by simp))
        have h6 := (Ex.par_le (decide (6 ≤ y.kind)) y.text).2
        rw [Ex.text5]
        simp only [List.length_cons, List.map_cons, List.map_nil, List.sum_cons, List.sum_nil]
        omega
    · have hne : l ≠ [] := by intro e; rw [e] at h4; simp at h4
      have hk : k = 6 ∨ k = 7 := by omega
      rcases hk with rfl | rfl
      · rw [Ex.text6]
        have h5 := Ex.join_len [32, 38, 32] rfl (l.map fun x => Ex.par (decide (6 ≤ x.kind)) x.text) (by simpa using hne)
        have h6 := hsum 6 l fun y hy => ih y hy (hl y hy)
        rw [List.length_map] at h5
        omega
      · rw [Ex.text7]
        have h5 := Ex.join_len [32, 124, 32] rfl (l.map fun x => Ex.par (decide (7 ≤ x.kind)) x.text) (by simpa using hne)
        have h6 := hsum 7 l fun y hy => ih y hy (hl y hy)
        rw [List.length_map] at h5
        omega
end Go.Proofs.YtpidknogiiclfaaGreatDoor
