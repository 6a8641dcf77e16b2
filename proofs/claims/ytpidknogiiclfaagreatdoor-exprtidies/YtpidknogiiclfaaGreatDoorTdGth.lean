/-
  Plain mathematics: parts of a list gathered one by one; how many texts are numbered on the way. Nothing of the program is named here.
-/
import Derived.Test.YtpidknogiiclfaaGreatDoorTdNum
namespace Go.Proofs.YtpidknogiiclfaaGreatDoor
namespace Ex
/-- what is left, and whether it is decided, behind one part more -/
def addS (k : Nat) (U : List Ex) (d : Bool) (x : Ex) : List Ex × Bool :=
  if x.kind ≤ 1 then (U, d || decide (x.kind = allK k)) else @ite _ (x ∈ U) (decMem x U) (U, d) (@ite _ (other x ∈ U) (decMem (other x) U) (U, true) (U ++ [x], d))
theorem addS_const (k : Nat) (U : List Ex) (d : Bool) (x : Ex) (h : x.kind ≤ 1) : addS k U d x = (U, d || decide (x.kind = allK k)) := by unfold addS; rw [if_pos h]
theorem addS_mem (k : Nat) (U : List Ex) (d : Bool) (x : Ex) (h : 2 ≤ x.kind) (hm : x ∈ U) : addS k U d x = (U, d) := by unfold addS; rw [if_neg (by omega), if_pos hm]
theorem addS_other (k : Nat) (U : List Ex) (d : Bool) (x : Ex) (h : 2 ≤ x.kind) (hm : x ∉ U) (ho : other x ∈ U) : addS k U d x = (U, true) := by unfold addS; rw [if_neg (by omega), if_neg hm, if_pos ho]
theorem addS_new (k : Nat) (U : List Ex) (d : Bool) (x : Ex) (h : 2 ≤ x.kind) (hm : x ∉ U) (ho : other x ∉ U) : addS k U d x = (U ++ [x], d) := by unfold addS; rw [if_neg (by omega), if_neg hm, if_neg ho]
/-- what has been gathered of these parts -/
def Gth (k : Nat) (L U : List Ex) (d : Bool) : Prop := (d = true ↔ dec k L) ∧ (d = false → U = addAll [] (nc L))
theorem Gth.nil (k : Nat) : Gth k [] [] false := by
  refine ⟨⟨by simp, ?_⟩, fun _ => rfl⟩
  rintro (⟨y, hy, _⟩ | ⟨y, hy, _⟩)
  · simp at hy
  · simp [nc] at hy
theorem Gth.rest {k : Nat} {L U : List Ex} (h : Gth k L U true) (M : List Ex) : Gth k (L ++ M) U true := by
  refine ⟨⟨fun _ => ?_, fun _ => rfl⟩, by simp⟩
  have := dec_mono k [] L M (h.1.1 rfl)
  simpa using this
theorem Gth.step {k : Nat} {L U : List Ex} {d : Bool} (h : Gth k L U d) (x : Ex) (hL : ∀ y, y ∈ L → Td y) (hx : Td x) : Gth k (L ++ [x]) (addS k U d x).1 (addS k U d x).2 := by
  have hs := dec_step k L x hL hx
  cases d with
  | true =>
    have hd := h.1.1 rfl
    have h2 : (addS k U true x).2 = true := by
      unfold addS
      split
      · simp
      · split
        · rfl
        · split <;> rfl
    rw [h2]
    exact ⟨⟨fun _ => hs.2 (.inl hd), fun _ => rfl⟩, by simp⟩
  | false =>
    have hnd : ¬ dec k L := fun e => by simpa using h.1.2 e
    have hU := h.2 rfl
    have hmem : ∀ y, y ∈ U ↔ y ∈ nc L := fun y => by rw [hU, mem_addAll]; simp
    by_cases hc : x.kind ≤ 1
    · rw [addS_const k U false x hc]
      have hn : nc (L ++ [x]) = nc L := by
        rw [nc_append]
        have : nc [x] = [] := by unfold nc; rw [List.filter_cons, if_neg (by simp; omega)]; rfl
        rw [this, List.append_nil]
      refine ⟨?_, fun _ => by rw [hn]; exact hU⟩
      rw [hs]
      simp only [Bool.false_or, decide_eq_true_eq]
      constructor
      · exact fun e => .inr (.inl e)
      · rintro (e | e | e)
        · exact absurd e hnd
        · exact e
        · omega
    · have h2 : 2 ≤ x.kind := by omega
      have hk : x.kind ≠ allK k := by have := allK_le k; omega
      have hn : nc (L ++ [x]) = nc L ++ [x] := by
        rw [nc_append]
        rw [nc_self [x] (by simpa using h2)]
      by_cases hm : x ∈ U
      · rw [addS_mem k U false x h2 hm]
        have hno : other x ∉ nc L := fun e => hnd (.inr ⟨x, (hmem x).1 hm, e⟩)
        refine ⟨?_, fun _ => ?_⟩
        · rw [hs]
          constructor
          · intro e; simp at e
          · rintro (e | e | e)
            · exact absurd e hnd
            · exact absurd e hk
            · exact absurd e.2 hno
        · rw [hn, addAll_append, ← hU, addAll_one_mem U x hm]
      · by_cases ho : other x ∈ U
        · rw [addS_other k U false x h2 hm ho]
          refine ⟨⟨fun _ => ?_, fun _ => rfl⟩, by simp⟩
          rw [hs]
          exact .inr (.inr ⟨h2, (hmem _).1 ho⟩)
        · rw [addS_new k U false x h2 hm ho]
          refine ⟨?_, fun _ => ?_⟩
          · rw [hs]
            constructor
            · intro e; simp at e
            · rintro (e | e | e)
              · exact absurd e hnd
              · exact absurd e hk
              · exact absurd ((hmem _).2 e.2) ho
          · rw [hn, addAll_append, ← hU, addAll_one_new U x hm]
theorem Gth.whole {k : Nat} {L U : List Ex} {d : Bool} (h : Gth k L U d) : gather k L = if d = true then ⟨allK k, [], []⟩ else wrap k U := by
  cases d with
  | true => rw [gather_dec k L (h.1.1 rfl)]; rfl
  | false => rw [gather_not k L (fun e => by simpa using h.1.2 e), h.2 rfl]; rfl
/-- the parts of a list that are added one behind the other -/
def addL (k : Nat) : List Ex → List Ex → Bool → List Ex × Bool
  | [], U, d => (U, d)
  | x :: r, U, d => addL k r (addS k U d x).1 (addS k U d x).2
theorem addL_snoc (k : Nat) (x : Ex) : ∀ (r U : List Ex) (d : Bool), addL k (r ++ [x]) U d = addS k (addL k r U d).1 (addL k r U d).2 x := by
  intro r
  induction r with
  | nil => intro U d; rfl
  | cons y t ih => intro U d; exact ih _ _
theorem Gth.list {k : Nat} {L U : List Ex} {d : Bool} (M : List Ex) (h : Gth k L U d) (hL : ∀ y, y ∈ L → Td y) (hM : ∀ y, y ∈ M → Td y) : Gth k (L ++ M) (addL k M U d).1 (addL k M U d).2 := by
  induction M generalizing L U d with
  | nil => simpa [addL] using h
  | cons x r ih =>
    have h1 := h.step x hL (hM x (by simp))
    have h2 := ih h1 (fun y hy => by
      rcases List.mem_append.1 hy with hy | hy
      · exact hL y hy
      · rw [List.mem_singleton.1 hy]; exact hM x (by simp)) (fun y hy => hM y (by simp [hy]))
    simpa [addL] using h2
/-- how many texts are numbered at the most -/
def cost : Ex → Nat
  | ⟨_, _, l⟩ => 1 + (l.map fun x => cost x + x.size).sum
theorem cost_def (k : Nat) (nm : List UInt8) (l : List Ex) : cost ⟨k, nm, l⟩ = 1 + (l.map fun x => cost x + x.size).sum := by simp [cost]
theorem cost_le (x : Ex) : cost x ≤ x.size * x.size := by
  induction x using Ex.ind with
  | h k nm l ih =>
    rw [cost_def, size_def]
    have hs : ∀ l : List Ex, (∀ x, x ∈ l → cost x ≤ x.size * x.size) → (l.map fun x => cost x + x.size).sum ≤ (l.map fun x => x.size).sum * (l.map fun x => x.size).sum + (l.map fun x => x.size).sum := by
      intro l
      induction l with
      | nil => intro _; simp
      | cons a r ihr =>
        intro h
        have h1 := h a (by simp)
        have h2 := ihr fun x hx => h x (by simp [hx])
        simp only [List.map_cons, List.sum_cons]
        generalize (r.map fun x => cost x + x.size).sum = p at *
        generalize (r.map fun x => x.size).sum = q at *
        generalize a.size = s at *
        generalize cost a = c at *
        have : (s + q) * (s + q) = s * s + s * q + (q * s + q * q) := by rw [Nat.add_mul, Nat.mul_add, Nat.mul_add]
        rw [this]
        have := Nat.zero_le (s * q)
        have := Nat.zero_le (q * s)
        omega
    have := hs l ih
    generalize (l.map fun x => cost x + x.size).sum = p at *
    generalize (l.map fun x => x.size).sum = q at *
    have e : (1 + q) * (1 + q) = 1 + q + (q + q * q) := by rw [Nat.add_mul, Nat.mul_add q 1 q]; omega
    rw [e]
    omega
theorem cost_pos (x : Ex) : 1 ≤ cost x := by obtain ⟨k, nm, l⟩ := x; rw [cost_def]; omega
/-- the parts that come of one are no more than it is great -/
theorem pieces_len (k : Nat) (x : Ex) (h : Wf x) : (pieces k x.tidy).length ≤ x.size := by
  have h1 := pieces_sum k x.tidy
  have h2 := size_tidy x h
  have h3 : ∀ L : List Ex, L.length ≤ (L.map fun x => x.size).sum := by
    intro L
    induction L with
    | nil => simp
    | cons a r ih =>
      have := size_pos a
      simp only [List.map_cons, List.sum_cons, List.length_cons]
      omega
  have := h3 (pieces k x.tidy)
  omega
theorem addS_len (k : Nat) (U : List Ex) (d : Bool) (x : Ex) : (addS k U d x).1.length ≤ U.length + 1 := by
  unfold addS
  split
  · simp
  · split
    · simp
    · split <;> simp
theorem addL_len (k : Nat) : ∀ (M U : List Ex) (d : Bool), (addL k M U d).1.length ≤ U.length + M.length := by
  intro M
  induction M with
  | nil => intro U d; simp [addL]
  | cons x r ih =>
    intro U d
    have h1 := ih (addS k U d x).1 (addS k U d x).2
    have h2 := addS_len k U d x
    show (addL k r (addS k U d x).1 (addS k U d x).2).1.length ≤ U.length + (x :: r).length
    simp only [List.length_cons]
    omega
end Ex
end Go.Proofs.YtpidknogiiclfaaGreatDoor
