/-
  Plain mathematics of the statements LassoPushes and LassoHolds: formulas that steps make, their sizes and depths, and what is wrong with them.
-/
import Derived.Test.YtmdblokmplbpmaaDoorLsForm
import Derived.Test.YtmdblokmplbpmaaDoorLsPushM
namespace Go.Proofs.YtmdblokmplbpmaaDoor
namespace Ls
/-- how deep parts stand within each other -/
def depth : Fm → Nat
  | ⟨_, _, _, l⟩ => 1 + (l.map fun x => depth x).foldr max 0
theorem depth_eq (z : Bool) (k : Int) (nm : List UInt8) (l : List Fm) : depth ⟨z, k, nm, l⟩ = 1 + (l.map depth).foldr max 0 := by rw [depth]
theorem max_le {l : List Fm} {n : Nat} (h : (l.map depth).foldr max 0 ≤ n) : ∀ x, x ∈ l → depth x ≤ n := by
  induction l with
  | nil => intro x hx; simp at hx
  | cons y r ih =>
    intro x hx
    simp only [List.map_cons, List.foldr_cons] at h
    rcases List.mem_cons.1 hx with rfl | hx
    · omega
    · exact ih (by omega) x hx
/-- all names are such -/
def nmd : Fm → Bool
  | ⟨_, k, nm, l⟩ => !(decide (k = 1) && !Nm.name nm) && ((l.map fun x => nmd x).all id)
theorem nmd_eq (z : Bool) (k : Int) (nm : List UInt8) (l : List Fm) : nmd ⟨z, k, nm, l⟩ = (!(decide (k = 1) && !Nm.name nm) && l.all nmd) := by
  rw [nmd]; simp [List.all_map, Function.comp_def]
/-- all is as it may be, but for names and how many and how deep they are -/
def wn : Fm → Bool
  | ⟨z, k, nm, l⟩ => decide (z = false ∧ 1 ≤ k ∧ k ≤ 10 ∧ l.length = partsOf k ∧ (k ≠ 1 → nm = [])) && ((l.map fun x => wn x).all id)
theorem wn_eq (z : Bool) (k : Int) (nm : List UInt8) (l : List Fm) : wn ⟨z, k, nm, l⟩ = (decide (z = false ∧ 1 ≤ k ∧ k ≤ 10 ∧ l.length = partsOf k ∧ (k ≠ 1 → nm = [])) && l.all wn) := by
  rw [wn]; simp [List.all_map, Function.comp_def]
theorem wn_parts {z : Bool} {k : Int} {nm : List UInt8} {l : List Fm} (h : wn ⟨z, k, nm, l⟩ = true) : (z = false ∧ 1 ≤ k ∧ k ≤ 10 ∧ l.length = partsOf k ∧ (k ≠ 1 → nm = [])) ∧ ∀ x, x ∈ l → wn x = true := by
  rw [wn_eq, Bool.and_eq_true, List.all_eq_true] at h
  exact ⟨of_decide_eq_true h.1, h.2⟩
theorem wn_mk {k : Int} {nm : List UInt8} {l : List Fm} (h1 : 1 ≤ k) (h2 : k ≤ 10) (h3 : l.length = partsOf k) (h5 : k ≠ 1 → nm = []) (h4 : ∀ x, x ∈ l → wn x = true) : wn ⟨false, k, nm, l⟩ = true := by
  rw [wn_eq, Bool.and_eq_true, List.all_eq_true]
  exact ⟨decide_eq_true ⟨rfl, h1, h2, h3, h5⟩, h4⟩
theorem wn_wf : ∀ (x : Fm), wn x = true → wf x = true := by
  intro x
  induction x using Fm.ind with
  | h z k nm l ih =>
    intro h
    obtain ⟨⟨rfl, h1, h2, h3, _⟩, h4⟩ := wn_parts h
    exact wf_mk h1 h2 h3 fun y hy => ih y hy (h4 y hy)
theorem tally_some (f : Fm → Nat × Nat) : ∀ (l : List Fm) (n : Nat), (∀ x, x ∈ l → (f x).2 = if nmd x = true then 0 else 5) → (tally (l.map f) n).2 = if l.all nmd = true then 0 else 5
  | [], n, _ => rfl
  | x :: r, n, h => by
    rw [List.map_cons, tally, h x (by simp)]
    cases hx : nmd x with
    | true =>
      rw [if_pos rfl, if_neg (by decide), tally_some f r _ (fun y hy => h y (by simp [hy]))]
      simp [hx]
    | false => simp [hx]
theorem count_names : ∀ (x : Fm) (a : Nat), wn x = true → depth x + a ≤ 20 → (count x a).2 = if nmd x = true then 0 else 5 := by
  intro x
  induction x using Fm.ind with
  | h z k nm l ih =>
    intro a h hd
    obtain ⟨⟨rfl, h1, h2, h3, h5⟩, h4⟩ := wn_parts h
    rw [depth_eq] at hd
    have hw : wrongN false k nm l.length a = if k = 1 ∧ Nm.name nm = false then 5 else 0 := by
      unfold wrongN
      rw [if_neg (by decide), if_neg (by omega), if_neg (by rintro (h | h | h); · omega
                                                            · omega
                                                            · exact h h3), if_neg (fun h => h.2 (h5 h.1))]
    rw [count_eq, hw, nmd_eq]
    by_cases hn : k = 1 ∧ Nm.name nm = false
    · rw [if_pos hn, if_pos (by decide)]
      simp [hn.1, hn.2]
    · rw [if_neg hn, if_neg (by decide), tally_some (fun x => count x (a + 1)) l 1 (fun y hy => ih y hy (a + 1) (h4 y hy) (by have := max_le (Nat.le_refl _) y hy; omega))]
      have e : (decide (k = 1) && !Nm.name nm) = false := by
        cases hb : Nm.name nm with
        | true => simp
        | false =>
          have : ¬ k = 1 := fun e => hn ⟨e, hb⟩
          simp [this]
      rw [e]
      simp
theorem count_named : ∀ (x : Fm) (a : Nat), wn x = true → depth x + a ≤ 20 → nmd x = true → ok x a = true := by
  intro x a h hd hn
  cases hk : ok x a with
  | true => rfl
  | false =>
    have h1 := count_bad x a hk
    rw [count_names x a h hd, hn] at h1
    exact absurd rfl h1
theorem right_law (x : Fm) (h : wn x = true) (hd : depth x ≤ 20) : right x = if nmd x = false then some 5 else if 100 < size x then some 4 else none := by
  unfold right
  rw [count_names x 0 h (by omega)]
  cases hn : nmd x with
  | false => simp
  | true =>
    have := count_ok x 0 (count_named x 0 h (by omega) hn)
    rw [this]
    simp
theorem wn_tru : wn tru = true := wn_mk (by decide) (by decide) (by decide) (fun _ => rfl) (fun y hy => by simp at hy)
theorem wn_get {xs : List Fm} (h : ∀ x, x ∈ xs → wn x = true) (i : Nat) : wn (xs.getD i tru) = true := by
  rw [List.getD_eq_getElem?_getD]
  cases hi : xs[i]? with
  | none => exact wn_tru
  | some y => exact h y (List.mem_of_getElem? hi)
theorem wn_step (xs : List Fm) (s : St) (h : ∀ x, x ∈ xs → wn x = true) : wn (stepF xs s) = true := by
  unfold stepF
  by_cases h2 : s.kind = 2
  · rw [if_pos h2]; exact wn_tru
  rw [if_neg h2]
  by_cases h3 : s.kind = 3 ∨ s.kind = 6 ∨ s.kind = 9 ∨ s.kind = 10
  · rw [if_pos h3]
    refine wn_mk (by omega) (by omega) ?_ (fun _ => rfl) (fun y hy => by obtain rfl := List.mem_singleton.1 hy; exact wn_get h _)
    rcases h3 with h | h | h | h <;> simp [h, partsOf]
  rw [if_neg h3]
  by_cases h4 : s.kind = 4 ∨ s.kind = 5 ∨ s.kind = 7 ∨ s.kind = 8
  · rw [if_pos h4]
    refine wn_mk (by omega) (by omega) ?_ (fun _ => rfl) (fun y hy => ?_)
    · rcases h4 with h | h | h | h <;> simp [h, partsOf]
    · rcases List.mem_cons.1 hy with rfl | hy
      · exact wn_get h _
      · obtain rfl := List.mem_singleton.1 hy; exact wn_get h _
  rw [if_neg h4]
  exact wn_mk (by omega) (by omega) (by decide) (fun h => absurd rfl h) (fun y hy => by simp at hy)
theorem wn_forms (l : List St) : ∀ k, ∀ x, x ∈ formsTo l k → wn x = true
  | 0, x, hx => by rw [formsTo] at hx; obtain rfl := List.mem_singleton.1 hx; exact wn_tru
  | k + 1, x, hx => by
    by_cases hk : k < l.length
    · rw [formsTo_succ l k hk] at hx
      rcases List.mem_append.1 hx with hx | hx
      · exact wn_forms l k x hx
      · obtain rfl := List.mem_singleton.1 hx
        exact wn_step _ _ (wn_forms l k)
    · rw [formsTo, List.getElem?_eq_none (by omega)] at hx
      exact wn_forms l k x hx
theorem wn_formula (l : List St) : wn (formula l) = true := wn_get (wn_forms l _) _
/-- how many parts, at most a million -/
def cap (n : Nat) : Nat := min n 1000000
theorem cap_one (a : Nat) : min (1 + cap a) 1000000 = cap (1 + a) := by unfold cap; omega
theorem cap_two (a b : Nat) : min (1 + cap a + cap b) 1000000 = cap (1 + a + b) := by unfold cap; omega
theorem depth_tru : depth tru = 1 := by unfold tru; rw [depth_eq]; rfl
theorem size_tru : size tru = 1 := by unfold tru; rw [size_eq]; rfl
theorem size_one (z : Bool) (k : Int) (nm : List UInt8) (x : Fm) : size ⟨z, k, nm, [x]⟩ = 1 + size x := by rw [size_eq]; simp
theorem size_two (z : Bool) (k : Int) (nm : List UInt8) (x y : Fm) : size ⟨z, k, nm, [x, y]⟩ = 1 + size x + size y := by rw [size_eq]; simp; omega
theorem size_no (z : Bool) (k : Int) (nm : List UInt8) : size ⟨z, k, nm, []⟩ = 1 := by rw [size_eq]; simp
theorem depth_one (z : Bool) (k : Int) (nm : List UInt8) (x : Fm) : depth ⟨z, k, nm, [x]⟩ = 1 + depth x := by rw [depth_eq]; simp
theorem depth_two (z : Bool) (k : Int) (nm : List UInt8) (x y : Fm) : depth ⟨z, k, nm, [x, y]⟩ = 1 + max (depth x) (depth y) := by rw [depth_eq]; simp
theorem depth_no (z : Bool) (k : Int) (nm : List UInt8) : depth ⟨z, k, nm, []⟩ = 1 := by rw [depth_eq]; simp
theorem depth_get {xs : List Fm} {n : Nat} (h1 : 1 ≤ n) (h : ∀ x, x ∈ xs → depth x ≤ n) (i : Nat) : depth (xs.getD i tru) ≤ n := by
  rw [List.getD_eq_getElem?_getD]
  cases hi : xs[i]? with
  | none => exact Nat.le_trans (Nat.le_of_eq depth_tru) h1
  | some y => exact h y (List.mem_of_getElem? hi)
theorem depth_forms (l : List St) : ∀ k, ∀ x, x ∈ formsTo l k → depth x ≤ k + 1
  | 0, x, hx => by rw [formsTo] at hx; obtain rfl := List.mem_singleton.1 hx; rw [depth_tru]; omega
  | k + 1, x, hx => by
    by_cases hk : k < l.length
    · rw [formsTo_succ l k hk] at hx
      rcases List.mem_append.1 hx with hx | hx
      · have := depth_forms l k x hx; omega
      · obtain rfl := List.mem_singleton.1 hx
        have hg := fun i => depth_get (by omega) (depth_forms l k) i
        unfold stepF
        by_cases h2 : l[k].kind = 2
        · rw [if_pos h2, depth_tru]; omega
        rw [if_neg h2]
        by_cases h3 : l[k].kind = 3 ∨ l[k].kind = 6 ∨ l[k].kind = 9 ∨ l[k].kind = 10
        · rw [if_pos h3, depth_one]
          have := hg (atN l[k].a (formsTo l k).length)
          omega
        rw [if_neg h3]
        by_cases h4 : l[k].kind = 4 ∨ l[k].kind = 5 ∨ l[k].kind = 7 ∨ l[k].kind = 8
        · rw [if_pos h4, depth_two]
          have h5 := hg (atN l[k].a (formsTo l k).length)
          have h6 := hg (atN l[k].b (formsTo l k).length)
          omega
        rw [if_neg h4, depth_no]; omega
    · rw [formsTo, List.getElem?_eq_none (by omega)] at hx
      have := depth_forms l k x hx; omega
theorem wf_leaf (k : Int) (nm : List UInt8) (no : Bool) (hk : k = 1 ∨ k = 2) : wf (leafP k nm no) = true := by
  have h0 : wf ⟨false, k, nm, []⟩ = true := wf_mk (by omega) (by omega) (by rcases hk with rfl | rfl <;> decide) (fun y hy => by simp at hy)
  unfold leafP
  cases no with
  | false => simpa using h0
  | true =>
    rw [if_pos rfl]
    exact wf_mk (by decide) (by decide) rfl fun y hy => by obtain rfl := List.mem_singleton.1 hy; exact h0
theorem nmd_leaf (k : Int) (nm : List UInt8) (no : Bool) : nmd (leafP k nm no) = nmd ⟨false, k, nm, []⟩ := by
  unfold leafP
  cases no with
  | false => simp
  | true => rw [if_pos rfl, nd, nmd_eq]; simp
theorem size_leaf (k : Int) (nm : List UInt8) (no : Bool) : size (leafP k nm no) ≤ 2 := by
  unfold leafP
  cases no with
  | false => rw [if_neg (by decide), size_no]; omega
  | true => rw [if_pos rfl, nd, size_one, size_no]; omega
theorem other_range {k : Int} (hk : k = 4 ∨ k = 5 ∨ k = 6 ∨ k = 7 ∨ k = 8) (no : Bool) : 1 ≤ (if no then other k else k) ∧ (if no then other k else k) ≤ 10 ∧ partsOf (if no then other k else k) = partsOf k ∧ (if no then other k else k) ≠ 1 := by
  rcases hk with rfl | rfl | rfl | rfl | rfl <;> cases no <;> decide
/-- pushed, it is of its kinds again; its names are the same; it is not much greater -/
theorem push_is : ∀ (x : Fm), wf x = true → ∀ no, wf (push x no) = true ∧ (nmd x = true → nmd (push x no) = true) ∧ size (push x no) ≤ 3 * size x := by
  intro x
  induction x using Fm.ind with
  | h z k nm l ih =>
    intro h no
    obtain ⟨⟨rfl, h1, h2, h3⟩, h4⟩ := wf_parts h
    rcases kinds h1 h2 with rfl | rfl | rfl | hk | hk
    · obtain ⟨y, rfl⟩ := one_part (h3.trans (by decide))
      obtain ⟨i1, i2, i3⟩ := ih y (by simp) (h4 y (by simp)) (!no)
      rw [push_not, size_one]
      exact ⟨i1, fun hn => i2 (by rw [nmd_eq] at hn; simpa using hn), by omega⟩
    · obtain ⟨y, rfl⟩ := one_part (h3.trans (by decide))
      obtain ⟨i1, i2, i3⟩ := ih y (by simp) (h4 y (by simp)) no
      rw [push_ever, size_one]
      have hl := size_leaf 2 [] no
      refine ⟨wf_mk (by cases no <;> decide) (by cases no <;> decide) (by cases no <;> rfl) fun x hx => ?_, fun hn => ?_, ?_⟩
      · rcases List.mem_cons.1 hx with rfl | hx
        · exact wf_leaf 2 [] no (.inr rfl)
        · obtain rfl := List.mem_singleton.1 hx; exact i1
      · have hy := i2 (by rw [nmd_eq] at hn; simpa using hn)
        have hle : nmd (leafP 2 [] no) = true := by rw [nmd_leaf, nmd_eq]; decide
        rw [nd, nmd_eq]
        cases no <;> simp [hle, hy]
      · rw [nd, size_two]; omega
    · obtain ⟨y, rfl⟩ := one_part (h3.trans (by decide))
      obtain ⟨i1, i2, i3⟩ := ih y (by simp) (h4 y (by simp)) no
      rw [push_always, size_one]
      have hl := size_leaf 2 [] (!no)
      refine ⟨wf_mk (by cases no <;> decide) (by cases no <;> decide) (by cases no <;> rfl) fun x hx => ?_, fun hn => ?_, ?_⟩
      · rcases List.mem_cons.1 hx with rfl | hx
        · exact wf_leaf 2 [] (!no) (.inr rfl)
        · obtain rfl := List.mem_singleton.1 hx; exact i1
      · have hy := i2 (by rw [nmd_eq] at hn; simpa using hn)
        have hle : nmd (leafP 2 [] (!no)) = true := by rw [nmd_leaf, nmd_eq]; decide
        rw [nd, nmd_eq]
        cases no <;> simp_all
      · rw [nd, size_two]; omega
    · rw [push_leaf _ _ _ _ _ hk]
      have hl := size_leaf k nm no
      have hsz : 1 ≤ size ⟨false, k, nm, l⟩ := by rw [size_eq]; omega
      refine ⟨wf_leaf k nm no hk, fun hn => ?_, by omega⟩
      rw [nmd_leaf]
      rw [nmd_eq, Bool.and_eq_true] at hn
      rw [nmd_eq, Bool.and_eq_true]
      exact ⟨hn.1, rfl⟩
    · rw [push_node _ _ _ _ _ hk]
      obtain ⟨o1, o2, o3, o4⟩ := other_range hk no
      refine ⟨wf_mk o1 o2 (by rw [List.length_map, o3]; exact h3) fun x hx => ?_, fun hn => ?_, ?_⟩
      · obtain ⟨y, hy, rfl⟩ := List.mem_map.1 hx
        exact (ih y hy (h4 y hy) no).1
      · rw [nmd_eq, Bool.and_eq_true, List.all_eq_true] at hn
        rw [nd, nmd_eq, Bool.and_eq_true, List.all_eq_true]
        refine ⟨by simp [o4], fun x hx => ?_⟩
        obtain ⟨y, hy, rfl⟩ := List.mem_map.1 hx
        exact (ih y hy (h4 y hy) no).2.1 (hn.2 y hy)
      · have hs : ∀ m : List Fm, (∀ y, y ∈ m → size (push y no) ≤ 3 * size y) → ((m.map fun y => push y no).map size).sum ≤ 3 * (m.map size).sum := by
          intro m
          induction m with
          | nil => intro _; simp
          | cons y r ihm =>
            intro hm
            have a1 := hm y (by simp)
            have a2 := ihm fun z hz => hm z (by simp [hz])
            simp only [List.map_cons, List.sum_cons]
            omega
        have := hs l fun y hy => (ih y hy (h4 y hy) no).2.2
        rw [nd, size_eq, size_eq]
        omega
theorem text_short : ∀ (x : Fm), wf x = true → nmd x = true → (textF x).length ≤ 8 * size x := by
  intro x
  induction x using Fm.ind with
  | h z k nm l ih =>
    intro h hn
    obtain ⟨⟨rfl, h1, h2, h3⟩, h4⟩ := wf_parts h
    rw [nmd_eq, Bool.and_eq_true, List.all_eq_true] at hn
    have hs := sign_len k
    rw [textF_eq, size_eq]
    unfold textK
    by_cases k1 : k = 1
    · rw [if_pos k1]
      have hb : Nm.name nm = true := by
        have := hn.1
        cases hc : Nm.name nm with
        | true => rfl
        | false => simp [k1, hc] at this
      have := name_len hb
      omega
    rw [if_neg k1]
    by_cases k2 : k = 2
    · rw [if_pos k2]
      simp; omega
    rw [if_neg k2]
    by_cases k3 : partsOf k = 1
    · rw [if_pos k3]
      obtain ⟨y, rfl⟩ := one_part (h3.trans k3)
      have := ih y (by simp) (h4 y (by simp)) (hn.2 y (by simp))
      simp; omega
    · rw [if_neg k3]
      have k4 : partsOf k = 2 := by
        have := partsOf_le k
        have : partsOf k ≠ 0 := by unfold partsOf; split <;> (try split) <;> omega
        omega
      obtain ⟨y, z, rfl⟩ := two_parts (h3.trans k4)
      have i1 := ih y (by simp) (h4 y (by simp)) (hn.2 y (by simp))
      have i2 := ih z (by simp) (h4 z (by simp)) (hn.2 z (by simp))
      simp; omega
end Ls
end Go.Proofs.YtmdblokmplbpmaaDoor
