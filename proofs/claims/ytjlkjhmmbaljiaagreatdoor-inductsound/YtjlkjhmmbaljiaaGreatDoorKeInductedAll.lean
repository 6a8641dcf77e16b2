/-
  What is played on a machine, in plain words: what holds behind each scan, and how long one waits. Plain facts: what holds of a latch. How long one waits, where nothing is asked for but always: where it is good, not at all. What k scans in a row show is so: plain facts. The walk of the statements' own inducted: what one scan shows of a latch.
-/
import Derived.Test.YtjlkjhmmbaljiaaGreatDoorRcNextAll
import Derived.Test.YtjlkjhmmbaljiaaGreatDoorPrViewAll
import Derived.Test.YtjlkjhmmbaljiaaGreatDoorInCheckAll
import Derived.Test.YtjlkjhmmbaljiaaGreatDoorRcMathAll
import Derived.Test.YtjlkjhmmbaljiaaGreatDoorLdRdAll
import Derived.Test.YtjlkjhmmbaljiaaGreatDoorPrLeastAll
namespace Go.Proofs.YtjlkjhmmbaljiaaGreatDoor
section
namespace Pr
/-- behind each scan of those that are played: does it hold? -/
def shown (next : Nat → List Nat) (gd : Nat → Nat → Bool) : Nat → List Nat → List Bool
  | _, [] => []
  | s, i :: l => gd s i :: shown next gd ((next s).getD i 0) l
theorem shown_len (next : Nat → List Nat) (gd : Nat → Nat → Bool) : ∀ (s : Nat) (l : List Nat), (shown next gd s l).length = l.length
  | _, [] => rfl
  | s, i :: l => by simp [shown, shown_len next gd _ l]
theorem shown_snoc (next : Nat → List Nat) (gd : Nat → Nat → Bool) (i : Nat) : ∀ (s : Nat) (l : List Nat), shown next gd s (l ++ [i]) = shown next gd s l ++ [gd (Rc.go next s l) i]
  | _, [] => rfl
  | s, j :: l => by
    show gd s j :: shown next gd ((next s).getD j 0) (l ++ [i]) = gd s j :: (shown next gd ((next s).getD j 0) l ++ [gd (Rc.go next ((next s).getD j 0) l) i])
    rw [shown_snoc next gd i]
theorem go_fst (next : Nat → List Nat) (wt : Nat × Nat → Nat → Nat) : ∀ (l : List Nat) (p : Nat × Nat), (go next wt p l).1 = Rc.go next p.1 l
  | [], _ => rfl
  | i :: l, p => go_fst next wt l (step next wt p i)
theorem shown_fine {next : Nat → List Nat} {wt : Nat × Nat → Nat → Nat} {gd : Nat → Nat → Bool} (h : ∀ p i, i < (next p.1).length → wt p i ≤ 0 → gd p.1 i = true) : ∀ (l : List Nat) (p : Nat × Nat), Fine next wt 0 p l → shown next gd p.1 l = List.replicate l.length true
  | [], _, _ => rfl
  | i :: l, p, hf => by
    have ih := shown_fine h l (step next wt p i) hf.2.2
    show gd p.1 i :: shown next gd (step next wt p i).1 l = _
    rw [h p i hf.1 hf.2.1, ih]
    rfl
theorem Held.shows {next : Nat → List Nat} {wt : Nat × Nat → Nat → Nat} {gd : Nat → Nat → Bool} (hh : Held next wt 0) (h : ∀ p i, i < (next p.1).length → wt p i ≤ 0 → gd p.1 i = true) (l : List Nat) (hl : InR next 0 l) : shown next gd 0 l = List.replicate l.length true := shown_fine h l (0, 0) (hh l hl)
theorem fine_mono {next : Nat → List Nat} {wt : Nat × Nat → Nat → Nat} {a b : Nat} (hab : a ≤ b) : ∀ (l : List Nat) (p : Nat × Nat), Fine next wt a p l → Fine next wt b p l
  | [], _, _ => trivial
  | _ :: l, _, hf => ⟨hf.1, Nat.le_trans hf.2.1 hab, fine_mono hab l _ hf.2.2⟩
theorem Broke.inr {next : Nat → List Nat} {wt : Nat × Nat → Nat → Nat} {most : Nat} {l : List Nat} (h : Broke next wt most l) : InR next 0 l := by
  obtain ⟨m, i, rfl, h1, h2, h3⟩ := h
  have h4 : Fine next wt (wt (go next wt (0, 0) m) i + most) (0, 0) (m ++ [i]) := by
    rw [fine_append]
    exact ⟨fine_mono (by omega) m _ h1, h2, by omega, trivial⟩
  exact h4.inr
theorem Broke.shows {next : Nat → List Nat} {wt : Nat × Nat → Nat → Nat} {gd : Nat → Nat → Bool} {l : List Nat} (hb : Broke next wt 0 l) (h : ∀ p i, i < (next p.1).length → wt p i ≤ 0 → gd p.1 i = true) (h' : ∀ p i, i < (next p.1).length → 0 < wt p i → gd p.1 i = false) : ∃ n, l.length = n + 1 ∧ shown next gd 0 l = List.replicate n true ++ [false] := by
  obtain ⟨m, i, rfl, h1, h2, h3⟩ := hb
  refine ⟨m.length, by simp, ?_⟩
  rw [shown_snoc, shown_fine h m (0, 0) h1]
  have h4 := h' _ i h2 h3
  rw [go_fst] at h4
  rw [h4]
theorem inr_of {next : Nat → List Nat} {I : Nat} (hn : ∀ s, (next s).length = I) : ∀ (l : List Nat) (s : Nat), (∀ i, i ∈ l → i < I) → InR next s l
  | [], _, _ => trivial
  | i :: l, s, h => ⟨by rw [hn]; exact h i (by simp), inr_of hn l _ (fun j hj => h j (by simp [hj]))⟩
theorem InR.lt {next : Nat → List Nat} {I : Nat} (hn : ∀ s, (next s).length = I) : ∀ (l : List Nat) (s : Nat), InR next s l → ∀ i, i ∈ l → i < I
  | [], _, _, i, hi => by simp at hi
  | j :: l, s, h, i, hi => by
    rcases List.mem_cons.1 hi with rfl | hi
    · have := h.1; rwa [hn] at this
    · exact InR.lt hn l _ h.2 i hi
/-- where none waits, two that wait alike are alike -/
theorem fine_same {next : Nat → List Nat} {wt wt' : Nat × Nat → Nat → Nat} (h : ∀ s i, i < (next s).length → wt (s, 0) i = wt' (s, 0) i) : ∀ (l : List Nat) (s : Nat), Fine next wt 0 (s, 0) l → Fine next wt' 0 (s, 0) l ∧ go next wt (s, 0) l = go next wt' (s, 0) l ∧ (go next wt (s, 0) l).2 = 0
  | [], _, _ => ⟨trivial, rfl, rfl⟩
  | i :: l, s, hf => by
    have h0 : wt (s, 0) i = 0 := by have := hf.2.1; omega
    have h1 : wt' (s, 0) i = 0 := by rw [← h s i hf.1, h0]
    have e : step next wt (s, 0) i = ((next s).getD i 0, 0) := by unfold step; rw [h0]
    have e' : step next wt' (s, 0) i = ((next s).getD i 0, 0) := by unfold step; rw [h1]
    have hf2 := hf.2.2
    rw [e] at hf2
    obtain ⟨h2, h3, h4⟩ := fine_same h l _ hf2
    refine ⟨⟨hf.1, by rw [h1]; exact Nat.le_refl _, by rw [e']; exact h2⟩, ?_, ?_⟩
    · show go next wt (step next wt (s, 0) i) l = go next wt' (step next wt' (s, 0) i) l
      rw [e, e']; exact h3
    · show (go next wt (step next wt (s, 0) i) l).2 = 0
      rw [e]; exact h4
theorem Broke.same {next : Nat → List Nat} {wt wt' : Nat × Nat → Nat → Nat} {l : List Nat} (h : ∀ s i, i < (next s).length → wt (s, 0) i = wt' (s, 0) i) (hb : Broke next wt 0 l) : Broke next wt' 0 l := by
  obtain ⟨m, i, rfl, h1, h2, h3⟩ := hb
  obtain ⟨h4, h5, h6⟩ := fine_same h m 0 h1
  refine ⟨m, i, rfl, h4, by rw [← h5]; exact h2, ?_⟩
  rw [← h5]
  have e : go next wt (0, 0) m = ((go next wt (0, 0) m).1, 0) := Prod.ext rfl h6
  rw [e, ← h _ i h2, ← e]
  exact h3
/-- how long one waits, where one asks and is answered -/
def wtB (ask ans : Nat → Nat → Bool) (p : Nat × Nat) (i : Nat) : Nat := if ans p.1 i || (p.2 == 0 && !ask p.1 i) then 0 else p.2 + 1
theorem go_take {next : Nat → List Nat} {wt : Nat × Nat → Nat → Nat} {l : List Nat} {p : Nat × Nat} (j i : Nat) (h : l[j]? = some i) : go next wt p (l.take (j + 1)) = step next wt (go next wt p (l.take j)) i := by
  obtain ⟨hj, e⟩ := List.getElem?_eq_some_iff.1 h
  rw [List.take_succ_eq_append_getElem hj, go_append, e]
  rfl
/-- one that waits has waited one scan less before -/
theorem wtB_back {ask ans : Nat → Nat → Bool} {p : Nat × Nat} {i k : Nat} (h : wtB ask ans p i = k + 1) : p.2 = k ∧ ans p.1 i = false ∧ (k = 0 → ask p.1 i = true) := by
  unfold wtB at h
  split at h
  · omega
  · rename_i hn
    simp only [Bool.or_eq_true, Bool.and_eq_true, beq_iff_eq, Bool.not_eq_true', not_or, not_and] at hn
    obtain ⟨h1, h2⟩ := hn
    have hk : p.2 = k := by omega
    refine ⟨hk, by simpa using h1, fun h0 => ?_⟩
    have := h2 (by omega)
    simpa using this
/-- what an unanswered question looks like at its end -/
theorem Broke.ends {next : Nat → List Nat} {ask ans : Nat → Nat → Bool} {wt : Nat × Nat → Nat → Nat} {n : Nat} {l : List Nat} (hw : ∀ p i, i < (next p.1).length → wt p i = wtB ask ans p i) (hb : Broke next wt n l) : n < l.length ∧ (∀ (j i : Nat), l[j]? = some i → l.length ≤ j + n + 1 → ans (Rc.go next 0 (l.take j)) i = false) ∧ ∀ (j i : Nat), l[j]? = some i → l.length = j + n + 1 → ask (Rc.go next 0 (l.take j)) i = true := by
  have hin := hb.inr
  obtain ⟨m, x, rfl, h1, h2, h3⟩ := hb
  have hlen : (m ++ [x]).length = m.length + 1 := by simp
  -- each input is one
  have hin2 : ∀ (l : List Nat) (s : Nat), InR next s l → ∀ (j i : Nat), l[j]? = some i → i < (next (Rc.go next s (l.take j))).length := by
    intro l
    induction l with
    | nil => intro s _ j i h; simp at h
    | cons a l ih =>
      intro s hr j i h
      cases j with
      | zero => simp at h; subst h; exact hr.1
      | succ j => exact ih _ hr.2 j i (by simpa using h)
  have hst : ∀ (j i : Nat), (m ++ [x])[j]? = some i → (go next wt (0, 0) ((m ++ [x]).take (j + 1))).2 = wtB ask ans (go next wt (0, 0) ((m ++ [x]).take j)) i := fun j i h => by
    rw [go_take j i h]
    show wt _ i = _
    refine hw _ i ?_
    rw [go_fst]
    exact hin2 _ _ hin j i h
  have hlow : ∀ (l : List Nat) (p : Nat × Nat), p.2 ≤ n → Fine next wt n p l → (go next wt p l).2 ≤ n := by
    intro l
    induction l with
    | nil => intro p hp _; exact hp
    | cons a l ih => intro p hp hf; exact ih _ hf.2.1 hf.2.2
  have hx : (m ++ [x])[m.length]? = some x := by simp
  have hlast := hst m.length x hx
  have htm : (m ++ [x]).take m.length = m := by simp
  rw [htm] at hlast
  have hle := hlow m (0, 0) (Nat.zero_le _) h1
  have hwx : wt (go next wt (0, 0) m) x = wtB ask ans (go next wt (0, 0) m) x := hw _ _ h2
  have hub : ∀ p i, wtB ask ans p i ≤ p.2 + 1 := fun p i => by unfold wtB; split <;> omega
  have hend : (go next wt (0, 0) ((m ++ [x]).take (m.length + 1))).2 = n + 1 := by
    have := hub (go next wt (0, 0) m) x
    omega
  have key : ∀ t, t ≤ n → t ≤ m.length ∧ (go next wt (0, 0) ((m ++ [x]).take (m.length + 1 - t))).2 = n + 1 - t := by
    intro t
    induction t with
    | zero => intro _; exact ⟨Nat.zero_le _, hend⟩
    | succ t ih =>
      intro ht
      obtain ⟨h4, h5⟩ := ih (by omega)
      have hj : m.length - t < (m ++ [x]).length := by simp; omega
      have h6 := hst (m.length - t) _ (List.getElem?_eq_getElem hj)
      rw [show m.length - t + 1 = m.length + 1 - t by omega, h5] at h6
      have h7 := wtB_back (k := n - t) (by rw [← h6]; omega)
      have h8 : t + 1 ≤ m.length := by
        refine Classical.byContradiction fun hc => ?_
        have e : m.length - t = 0 := by omega
        have h9 := h7.1
        rw [e] at h9
        simp [go] at h9
        omega
      refine ⟨h8, ?_⟩
      rw [show m.length + 1 - (t + 1) = m.length - t by omega, h7.1]
      omega
  have key2 : ∀ (j i : Nat), (m ++ [x])[j]? = some i → (m ++ [x]).length ≤ j + n + 1 → ans (Rc.go next 0 ((m ++ [x]).take j)) i = false ∧ ((m ++ [x]).length = j + n + 1 → ask (Rc.go next 0 ((m ++ [x]).take j)) i = true) := fun j i hj hl => by
    have hjl := (List.getElem?_eq_some_iff.1 hj).1
    rw [hlen] at hjl hl
    obtain ⟨h4, h5⟩ := key (m.length - j) (by omega)
    rw [show m.length + 1 - (m.length - j) = j + 1 by omega] at h5
    have h6 := hst j i hj
    rw [h5] at h6
    have h7 := wtB_back (k := n - (m.length - j)) (by rw [← h6]; omega)
    rw [go_fst] at h7
    exact ⟨h7.2.1, fun e => h7.2.2 (by rw [hlen] at e; omega)⟩
  refine ⟨by rw [hlen]; have := (key n (Nat.le_refl _)).1; omega, fun j i hj hl => (key2 j i hj hl).1, fun j i hj hl => (key2 j i hj (by omega)).2 hl⟩
end Pr
end
section
/-- !a | m -/
def prE : Ex := ⟨7, [], [⟨5, [], [⟨2, [97], []⟩]⟩, ⟨2, [109], []⟩]⟩
/-- !m -/
def prG : Ex := ⟨5, [], [⟨2, [109], []⟩]⟩
theorem prE_parse : Ex.parse [33, 97, 32, 124, 32, 109] = .inr prE := by kernel_rfl
theorem prG_parse : Ex.parse [33, 109] = .inr prG := by kernel_rfl
namespace Pr
theorem has_of {ns : List Ld.Nme} {x : Ex} (h : ∀ s, s ∈ x.named true → 0 ≤ Ld.number ns s) : has ns x = true := by
  unfold has
  rw [List.all_eq_true]
  intro s hs
  exact decide_eq_true (h s ((mem_ordered _ _).1 hs))
theorem has_iff {ns : List Ld.Nme} {x : Ex} : has ns x = true ↔ ∀ s, s ∈ x.named true → 0 ≤ Ld.number ns s := by
  refine ⟨fun h s hs => ?_, has_of⟩
  unfold has at h
  rw [List.all_eq_true] at h
  exact of_decide_eq_true (h s ((mem_ordered _ _).2 hs))
end Pr
theorem prE_has : Pr.has Ld.lit.names prE = true := Pr.has_of (fun s hs => by
  have h : prE.named true = [[97], [109]] := by simp [prE, Ex.named]
  rw [h] at hs
  simp only [List.mem_cons, List.not_mem_nil, or_false] at hs
  rcases hs with rfl | rfl
  · rw [lit_num0]; decide
  · rw [lit_num1]; decide)
theorem prG_has : Pr.has Ld.lit.names prG = true := Pr.has_of (fun s hs => by
  have h : prG.named true = [[109]] := by simp [prG, Ex.named]
  rw [h] at hs
  simp only [List.mem_cons, List.not_mem_nil, or_false] at hs
  subst hs
  rw [lit_num1]; decide)
theorem lit_told (x y : Bool) : Sc.told Ld.lit.names [x, y] [97] = x ∧ Sc.told Ld.lit.names [x, y] [109] = y := by
  unfold Sc.told
  rw [lit_num0, lit_num1]
  exact ⟨rfl, rfl⟩
theorem lit_is (s i : Nat) (y b : Bool) (hs : Mc.state [(1, false), (2, false)] s = ⟨[false, y], [0, 0]⟩) (hi : bitsTo i 1 = [b]) : (Mc.after1 Ld.lit (Ld.kindL Ld.lit.names 1).length s i).is = [b, b || y] := by
  unfold Mc.after1
  rw [lit_q, lit_parts, hs, hi, lit_step]
theorem prE_good (s i : Nat) (y b : Bool) (hs : Mc.state [(1, false), (2, false)] s = ⟨[false, y], [0, 0]⟩) (hi : bitsTo i 1 = [b]) : Pr.good Ld.lit prE s i = true := by
  unfold Pr.good
  rw [lit_is s i y b hs hi]
  obtain ⟨h1, h2⟩ := lit_told b (b || y)
  simp only [prE, Ex.eval, List.map_cons, List.map_nil, List.any_cons, List.any_nil, id, h1, h2]
  cases b <;> simp
theorem prG_good (s i : Nat) (y b : Bool) (hs : Mc.state [(1, false), (2, false)] s = ⟨[false, y], [0, 0]⟩) (hi : bitsTo i 1 = [b]) : Pr.good Ld.lit prG s i = !(b || y) := by
  unfold Pr.good
  rw [lit_is s i y b hs hi]
  obtain ⟨h1, h2⟩ := lit_told b (b || y)
  simp only [prG, Ex.eval, List.map_cons, List.map_nil, List.any_cons, List.any_nil, id, h2]
  simp
theorem lit_st0 : Mc.state [(1, false), (2, false)] 0 = ⟨[false, false], [0, 0]⟩ := by kernel_rfl
theorem lit_st1 : Mc.state [(1, false), (2, false)] 1 = ⟨[false, true], [0, 0]⟩ := by kernel_rfl
theorem lit_b0 : bitsTo 0 1 = [false] := by kernel_rfl
theorem lit_b1 : bitsTo 1 1 = [true] := by kernel_rfl
theorem prE_all (s i : Nat) (hs : s < 2) (hi : i < 2) : Pr.good Ld.lit prE s i = true := by
  have h1 : s = 0 ∨ s = 1 := by omega
  have h2 : i = 0 ∨ i = 1 := by omega
  rcases h1 with rfl | rfl <;> rcases h2 with rfl | rfl
  · exact prE_good _ _ _ _ lit_st0 lit_b0
  · exact prE_good _ _ _ _ lit_st0 lit_b1
  · exact prE_good _ _ _ _ lit_st1 lit_b0
  · exact prE_good _ _ _ _ lit_st1 lit_b1
theorem prG_00 : Pr.good Ld.lit prG 0 0 = true := by rw [prG_good _ _ _ _ lit_st0 lit_b0]; rfl
theorem prG_01 : Pr.good Ld.lit prG 0 1 = false := by rw [prG_good _ _ _ _ lit_st0 lit_b1]; rfl
namespace Pr
/-- how long one waits, told by what holds -/
theorem wtC_eq (p : Ld.Prg) (x : Ex) (I : Nat) (q : Nat × Nat) (i : Nat) (hi : i < I) : wtC (goodRow p x I) q i = if good p x q.1 i then 0 else 1 := by
  unfold wtC waits
  rw [List.getD_eq_getElem?_getD, goodRow_at p x I q.1 i hi]
  cases good p x q.1 i <;> rfl
theorem go_lt {next : Nat → List Nat} {wt : Nat × Nat → Nat → Nat} {S most : Nat} (hn : ∀ f s, f < S → s ∈ next f → s < S) : ∀ (l : List Nat) (p : Nat × Nat), p.1 < S → Fine next wt most p l → (go next wt p l).1 < S
  | [], _, h, _ => h
  | i :: l, p, h, hf => by
    refine go_lt hn l _ (hn p.1 _ h ?_) hf.2.2
    show (next p.1).getD i 0 ∈ _
    rw [List.getD_eq_getElem?_getD, List.getElem?_eq_getElem hf.1]
    exact List.getElem_mem hf.1
end Pr
theorem prE_held (l : List Nat) : ¬ Pr.Broke (Mc.nexts Ld.lit) (Pr.wtC (Pr.goodRow Ld.lit prE (2 ^ (Ld.kindL Ld.lit.names 1).length))) 0 l := by
  rintro ⟨m, i, rfl, h1, h2, h3⟩
  rw [Mc.nexts_len, lit_q] at h2
  rw [Pr.wtC_eq _ _ _ _ _ (by rw [lit_q]; exact h2)] at h3
  have hs := Pr.go_lt (S := 2) (fun f s _ hs => by have := Mc.nexts_lt Ld.lit Ld.lit_check f s hs; rw [lit_total] at this; exact this) m (0, 0) (by decide) h1
  rw [prE_all _ _ hs h2] at h3
  simp at h3
theorem prG_broke : Pr.Broke (Mc.nexts Ld.lit) (Pr.wtC (Pr.goodRow Ld.lit prG (2 ^ (Ld.kindL Ld.lit.names 1).length))) 0 [1] := by
  refine ⟨[], 1, rfl, trivial, by rw [Mc.nexts_len, lit_q]; decide, ?_⟩
  rw [Pr.wtC_eq _ _ _ _ _ (by rw [lit_q]; decide)]
  show 0 < if Pr.good Ld.lit prG 0 1 then 0 else 1
  rw [prG_01]
  decide
theorem prG_one (l : List Nat) (hb : Pr.Broke (Mc.nexts Ld.lit) (Pr.wtC (Pr.goodRow Ld.lit prG (2 ^ (Ld.kindL Ld.lit.names 1).length))) 0 l) (hl : Pr.Least (Mc.nexts Ld.lit) (Pr.wtC (Pr.goodRow Ld.lit prG (2 ^ (Ld.kindL Ld.lit.names 1).length))) 0 l) : l = [1] := by
  refine Pr.Least.one hb prG_broke hl ?_
  rintro l' ⟨m, i, rfl, h1, h2, h3⟩ hs
  rw [List.reverse_append] at hs
  have hs' : Pr.SLr (i :: m.reverse) [1] := hs
  rcases hs' with h | ⟨h, h4⟩
  · cases hm : m.reverse with
    | nil => rw [hm] at h; exact h
    | cons a b => rw [hm] at h; exact h
  · have hm : m = [] := by simpa using h
    subst hm
    have hi : i = 0 := by omega
    subst hi
    rw [Pr.wtC_eq _ _ _ _ _ (by rw [lit_q]; decide)] at h3
    have h5 : 0 < if Pr.good Ld.lit prG 0 0 then 0 else 1 := h3
    rw [prG_00] at h5
    simp at h5
end
section
open Go.RowKit
theorem wtC_good (p : Ld.Prg) (x : Ex) : ∀ (q : Nat × Nat) i, i < (Mc.nexts p q.1).length → Pr.wtC (Pr.goodRow p x (2 ^ (Ld.kindL p.names 1).length)) q i ≤ 0 → Pr.good p x q.1 i = true := fun q i hi h => by
  rw [Mc.nexts_len] at hi
  rw [Pr.wtC_eq _ _ _ _ _ hi] at h
  cases hg : Pr.good p x q.1 i with
  | true => rfl
  | false => rw [hg] at h; simp at h
theorem wtC_bad (p : Ld.Prg) (x : Ex) : ∀ (q : Nat × Nat) i, i < (Mc.nexts p q.1).length → 0 < Pr.wtC (Pr.goodRow p x (2 ^ (Ld.kindL p.names 1).length)) q i → Pr.good p x q.1 i = false := fun q i hi h => by
  rw [Mc.nexts_len] at hi
  rw [Pr.wtC_eq _ _ _ _ _ hi] at h
  cases hg : Pr.good p x q.1 i with
  | true => rw [hg] at h; simp at h
  | false => rfl
end
section
open Go.RowKit
theorem goodRow_get (p : Ld.Prg) (x : Ex) (I s i : Nat) (hi : i < I) : (Pr.goodRow p x I s).getD i false = Pr.good p x s i := by
  rw [List.getD_eq_getElem?_getD, Pr.goodRow_at p x I s i hi]; rfl
theorem prE_any : Pr.anyP Ld.lit prE 1 = false := by
  rw [← Bool.not_eq_true]
  intro h
  have h0 : (In.failsL (Mc.nexts Ld.lit) (Pr.goodRow Ld.lit prE (2 ^ (Ld.kindL Ld.lit.names 1).length)) (Mc.total (Mc.parts Ld.lit)) 1).contains true = true := h
  rw [List.contains_iff_mem] at h0
  obtain ⟨s, hs, h1⟩ := List.mem_map.1 h0
  have h2 : ((List.range (Pr.goodRow Ld.lit prE (2 ^ (Ld.kindL Ld.lit.names 1).length) s).length).any fun i => (Pr.goodRow Ld.lit prE (2 ^ (Ld.kindL Ld.lit.names 1).length) s).getD i false && (Pr.goodRow Ld.lit prE (2 ^ (Ld.kindL Ld.lit.names 1).length) ((Mc.nexts Ld.lit s).getD i 0)).contains false) = true := h1
  rw [List.any_eq_true] at h2
  obtain ⟨i, hi, h3⟩ := h2
  rw [Bool.and_eq_true] at h3
  have h4 := List.contains_iff_mem.1 h3.2
  rw [List.mem_range, Pr.goodRow_len] at hi
  have ht : (Mc.nexts Ld.lit s).getD i 0 < 2 := by
    have h5 : i < (Mc.nexts Ld.lit s).length := by rw [Mc.nexts_len]; exact hi
    rw [List.getD_eq_getElem?_getD, List.getElem?_eq_getElem h5]
    have h6 := Mc.nexts_lt Ld.lit Ld.lit_check s _ (List.getElem_mem h5)
    rw [lit_total] at h6
    exact h6
  obtain ⟨j, hj, h7⟩ := List.mem_map.1 h4
  rw [List.mem_range, lit_q] at hj
  rw [prE_all _ j ht hj] at h7
  cases h7
/-- what Check has come to, as one reads it -/
def IndF (w w' : World) (next : Nat → List Nat) (wt : Nat × Nat → Nat → Nat) (any : Nat → Bool) (most c k : Nat) (a : Option Addr) (n cp : Nat) : Prop :=
  (Pr.Held next wt 0 ∧ In.run false 0 any most 1 = (c, k)) ∨ ∃ l, Pr.Broke next wt 0 l ∧ Pr.Least next wt 0 l ∧ In.run true l.length any most 1 = (c, k) ∧ l.length ≤ 100001 ∧ (c = 2 → ∃ g, a = some ⟨g, 0, none⟩ ∧ n = l.length ∧ w'.ownsRow w.heap.size 3 1 (.slice (some ⟨g, 0, none⟩) l.length cp) l.length (l.map natV))
theorem Indd.form {w w' : World} {next : Nat → List Nat} {wt : Nat × Nat → Nat → Nat} {any : Nat → Bool} {most : Nat} {e : Ending} (h : Indd w next wt any most e w') : ∃ c k a n cp, e = .returned (.tuple #[.agg #[.int .i64 ((c : Nat) : Int), .int .i64 ((k : Nat) : Int), .slice a n cp], .nilIface]) ∧ IndF w w' next wt any most c k a n cp := by
  rcases h with ⟨c, k, h1, h2, rfl⟩ | ⟨l, g, cp, cd, k, pv, h1, h2, h3, h4, h5, rfl, ⟨rfl, rfl⟩ | ⟨h6, rfl⟩⟩
  · exact ⟨c, k, none, 0, 0, rfl, .inl ⟨h1, h2⟩⟩
  · exact ⟨2, k, _, _, _, rfl, .inr ⟨l, h1, h2, h5, h4, fun _ => ⟨g, rfl, rfl, h3⟩⟩⟩
  · exact ⟨cd, k, none, 0, 0, rfl, .inr ⟨l, h1, h2, h5, h4, fun e => (h6 e).elim⟩⟩
/-- what prop's Check has come to, as one reads it -/
def SaidF (w w' : World) (next : Nat → List Nat) (wt : Nat × Nat → Nat → Nat) (b : Bool) (a : Option Addr) (n c : Nat) : Prop :=
  (b = true ∧ n = 0 ∧ Pr.Held next wt 0) ∨ (b = false ∧ ∃ l g, a = some ⟨g, 0, none⟩ ∧ n = l.length ∧ Pr.Broke next wt 0 l ∧ Pr.Least next wt 0 l ∧ w'.ownsRow w.heap.size 3 1 (.slice (some ⟨g, 0, none⟩) l.length c) l.length (l.map natV) ∧ l.length ≤ 100001)
theorem SaidT.formL {w w' : World} {next : Nat → List Nat} {wt : Nat × Nat → Nat → Nat} {e : Ending} (h : SaidT w next wt 0 e w') : ∃ b a n c, e = .returned (.tuple #[.bool b, .slice a n c, .nilIface]) ∧ SaidF w w' next wt b a n c := by
  rcases h with ⟨rfl, h⟩ | ⟨l, g, c, rfl, h1, h2, h3, h4⟩
  · exact ⟨true, none, 0, 0, rfl, .inl ⟨rfl, rfl, h⟩⟩
  · exact ⟨false, _, _, _, rfl, .inr ⟨rfl, l, g, rfl, rfl, h1, h2, h3, h4⟩⟩
theorem Pr.Broke.pos {next : Nat → List Nat} {wt : Nat × Nat → Nat → Nat} {most : Nat} {l : List Nat} (h : Pr.Broke next wt most l) : 1 ≤ l.length := by
  obtain ⟨m, i, rfl, _⟩ := h
  simp
theorem IndF.code {w w' : World} {next : Nat → List Nat} {wt : Nat × Nat → Nat → Nat} {any : Nat → Bool} {most c k : Nat} {a : Option Addr} {n cp : Nat} (h : IndF w w' next wt any most c k a n cp) : c = 1 ∨ c = 2 ∨ c = 3 := by
  rcases h with ⟨_, h⟩ | ⟨l, _, _, h, _⟩
  · have := In.run_code false 0 any most 1; rw [h] at this; exact this
  · have := In.run_code true l.length any most 1; rw [h] at this; exact this
/-- what is proved -/
theorem ind_one {w1 w1' w2 w2' w3 w3' : World} {next : Nat → List Nat} {wt : Nat × Nat → Nat → Nat} {any : Nat → Bool} {M c k k2 : Nat} {a1 a2 a3 : Option Addr} {n1 n2 n3 p1 p2 p3 : Nat} {b : Bool} (hs : ∀ k, any k = false → ∀ l, Pr.Broke next wt 0 l → l.length ≤ k) (h1 : IndF w1 w1' next wt any M 1 k a1 n1 p1) (h2 : IndF w2 w2' next wt any (M + 1) c k2 a2 n2 p2) (h3 : SaidF w3 w3' next wt b a3 n3 p3) : b = true ∧ c = 1 ∧ k2 = k ∧ 1 ≤ k ∧ k ≤ M := by
  rcases h1 with ⟨hh, hr⟩ | ⟨l, hbr, _, hr, _⟩
  · have h4 := In.run_more false 0 any M 1 (by rw [hr]; show (1 : Nat) ≠ 3; decide)
    have h5 := In.run_one false 0 any M 1 (by rw [hr])
    have h6 := In.run_range false 0 any M 1 (Nat.le_refl _)
    rw [hr] at h4 h5 h6
    have hb : b = true := by
      rcases h3 with ⟨h, _⟩ | ⟨_, l, g, _, _, h, _⟩
      · exact h
      · exact (h.not (Nat.le_refl _) hh).elim
    rcases h2 with ⟨_, h7⟩ | ⟨l, h7, _⟩
    · rw [h4] at h7
      simp only [Prod.mk.injEq] at h7
      exact ⟨hb, h7.1.symm, h7.2.symm, h5.2.1, by have := h6.2; simp only at this; omega⟩
    · exact (h7.not (Nat.le_refl _) hh).elim
  · exfalso
    have h5 := In.run_one true l.length any M 1 (by rw [hr])
    rw [hr] at h5
    have h6 := hs k h5.1 l hbr
    have h7 := h5.2.2 rfl
    simp only at h7
    omega
/-- what is refuted -/
theorem ind_two {w1 w1' w2 w2' w3 w3' : World} {next : Nat → List Nat} {wt : Nat × Nat → Nat → Nat} {any : Nat → Bool} {M c k k2 : Nat} {a1 a2 a3 : Option Addr} {n1 n2 n3 p1 p2 p3 : Nat} {b : Bool} (h1 : IndF w1 w1' next wt any M 2 k a1 n1 p1) (h2 : IndF w2 w2' next wt any (M + 1) c k2 a2 n2 p2) (h3 : SaidF w3 w3' next wt b a3 n3 p3) : b = false ∧ c = 2 ∧ k2 = k ∧ ∃ l g1 g2 g3, l.length = k ∧ l.length ≤ 100001 ∧ Pr.Broke next wt 0 l ∧ a1 = some ⟨g1, 0, none⟩ ∧ n1 = k ∧ w1'.ownsRow w1.heap.size 3 1 (.slice (some ⟨g1, 0, none⟩) l.length p1) l.length (l.map natV) ∧ a2 = some ⟨g2, 0, none⟩ ∧ n2 = k ∧ w2'.ownsRow w2.heap.size 3 1 (.slice (some ⟨g2, 0, none⟩) l.length p2) l.length (l.map natV) ∧ a3 = some ⟨g3, 0, none⟩ ∧ n3 = k ∧ w3'.ownsRow w3.heap.size 3 1 (.slice (some ⟨g3, 0, none⟩) l.length p3) l.length (l.map natV) := by
  rcases h1 with ⟨hh, hr⟩ | ⟨l, hbr, hle, hr, hl5, ho1⟩
  · exact (In.run_false 0 any M 1 (by rw [hr])).elim
  · have h4 := In.run_more true l.length any M 1 (by rw [hr]; show (2 : Nat) ≠ 3; decide)
    have h5 := In.run_two true l.length any M 1 hbr.pos (by rw [hr])
    rw [hr] at h4 h5
    have hk : k = l.length := h5.2
    rcases h2 with ⟨h7, _⟩ | ⟨l2, hbr2, hle2, hr2, _, ho2⟩
    · exact (hbr.not (Nat.le_refl _) h7).elim
    · obtain rfl := Pr.Least.one hbr2 hbr hle2 hle
      rw [h4] at hr2
      simp only [Prod.mk.injEq] at hr2
      obtain ⟨rfl, rfl⟩ := hr2
      rcases h3 with ⟨_, _, h⟩ | ⟨hb, l3, g3, ha3, hn3, hbr3, hle3, ho3, _⟩
      · exact (hbr.not (Nat.le_refl _) h).elim
      · obtain rfl := Pr.Least.one hbr3 hbr hle3 hle
        obtain ⟨g1, ha1, hn1, ho1⟩ := ho1 rfl
        obtain ⟨g2, ha2, hn2, ho2⟩ := ho2 rfl
        exact ⟨hb, rfl, rfl, l3, g1, g2, g3, hk.symm, hl5, hbr, ha1, hn1.trans hk.symm, ho1, ha2, hn2.trans hk.symm, ho2, ha3, hn3.trans hk.symm, ho3⟩
/-- what stays open -/
theorem ind_three {w1 w1' w3 w3' : World} {next : Nat → List Nat} {wt : Nat × Nat → Nat → Nat} {any : Nat → Bool} {M k : Nat} {a1 a3 : Option Addr} {n1 n3 p1 p3 : Nat} {b : Bool} (hM : 1 ≤ M) (h1 : IndF w1 w1' next wt any M 3 k a1 n1 p1) (h3 : SaidF w3 w3' next wt b a3 n3 p3) : k = M ∧ (b = true ∨ (b = false ∧ M < n3)) := by
  rcases h1 with ⟨hh, hr⟩ | ⟨l, hbr, hle, hr, hl5, ho1⟩
  · have h5 := In.run_three false 0 any M 1 (by rw [hr])
    rw [hr] at h5
    refine ⟨by have := h5.1; simp only at this; omega, .inl ?_⟩
    rcases h3 with ⟨h, _⟩ | ⟨_, l, g, _, _, h, _⟩
    · exact h
    · exact (h.not (Nat.le_refl _) hh).elim
  · have h5 := In.run_three true l.length any M 1 (by rw [hr])
    rw [hr] at h5
    refine ⟨by have := h5.1; simp only at this; omega, .inr ?_⟩
    rcases h3 with ⟨_, _, h⟩ | ⟨hb, l3, g3, ha3, hn3, hbr3, hle3, ho3, _⟩
    · exact (hbr.not (Nat.le_refl _) h).elim
    · obtain rfl := Pr.Least.one hbr3 hbr hle3 hle
      have := h5.2 rfl (by omega)
      exact ⟨hb, by omega⟩
/-- where nothing fails, what breaks does so soon: of a program's own table -/
theorem any_short (p : Ld.Prg) (x : Ex) (hck : Ld.check p = none) (k : Nat) (h : Pr.anyP p x k = false) (l : List Nat) (hb : Pr.Broke (Mc.nexts p) (Pr.wtC (Pr.goodRow p x (2 ^ (Ld.kindL p.names 1).length))) 0 l) : l.length ≤ k := by
  refine In.broke_short (Mc.total_pos (Mc.parts p) (Mc.parts_ok p)) (fun s _ => by rw [Pr.goodRow_len, Mc.nexts_len]) (fun s t _ ht => Mc.nexts_lt p hck s t ht) (fun q i hi hw => ?_) (fun q i hi hw => ?_) h l hb
  · have h1 := wtC_good p x q i hi hw
    rw [Mc.nexts_len] at hi
    rw [goodRow_get p x _ _ i hi, h1]
  · have h1 := wtC_bad p x q i hi hw
    rw [Mc.nexts_len] at hi
    rw [Pr.goodRow_at p x _ _ i hi, h1]
end
section
open Go.RowKit
set_option maxHeartbeats 4000000 in
set_option maxRecDepth 100000 in
theorem inducted_any (w : World) (hL : Laid w) : Calls Tryz.prog 5 #[] w fun e w' => e = .returned (.bool true) ∧ Below w.heap.size w w' := by
  have HM := hide (kmade_any ⟨#[105, 110, 112, 117, 116, 32, 97, 10, 99, 111, 105, 108, 32, 109, 10, 115, 101, 116, 32, 109, 32, 61, 32, 97, 10]⟩ 9 w (by decide) hL (by omega))
  rw [lit_made 9 (by omega)] at HM
  clear hL
  go_enter Tryz.func5, Tryz.ntmps5
  go_wp2_with fail
  refine HM.out.mono ?_
  rintro e w1 ⟨hb1, bm, rfl, hbm, hmach, hck⟩
  have HB1 := hide hb1
  have HMA := hide hmach
  have HCK := hide hck
  have HPE := hide (Parse_any ⟨#[33, 97, 32, 124, 32, 109]⟩ w1 (by decide))
  change Hid (Calls _ _ _ _ (Parsed w1 (Ex.parse [33, 97, 32, 124, 32, 109]))) at HPE
  rw [prE_parse] at HPE
  clear hb1 hmach hck HM
  go_wp2_with fail
  refine HPE.out.mono ?_
  rintro e w2 ⟨hb2, v, rfl, hx2⟩
  have HB2 := hide hb2
  have HB12 := hide (HB1.out.trans (hb2.mono HB1.out.size))
  obtain ⟨tu, yu, rfl⟩ := IsEx.iface _ v hx2
  have HC1 := hide (ICheck_any _ bm Ld.lit prE _ 3 w2 (HMA.out.below HB2.out) HCK.out (by rw [lit_total]; decide) (by rw [lit_q]; decide) hx2 (by simp [prE, Ex.size]) (by decide) (by decide))
  clear hb2 hx2 HPE
  go_wp2_with fail
  refine HC1.out.mono ?_
  intro e w3 hq
  obtain ⟨hb3, hq⟩ := hq
  rw [prE_has, if_pos rfl] at hq
  obtain ⟨c, k, _, hr, he⟩ | ⟨l, g, c, cd, k, pv, hbr, _⟩ := hq
  case inr => exact (prE_held l hbr).elim
  rw [In.run_prv false 0 _ 3 1 (by decide) (fun h => by cases h) prE_any] at hr
  simp only [Prod.mk.injEq] at hr
  obtain ⟨rfl, rfl⟩ := hr
  have he2 : e = .returned (.tuple #[.agg #[.int .i64 1, .int .i64 1, .slice none 0 0], .nilIface]) := he
  subst he2
  have HB3 := hide (HB12.out.trans (hb3.mono HB12.out.size))
  have hz3 := HB3.out.size
  clear hb3 HC1 he
  go_wp2_with fail
  go_ret
  exact ⟨rfl, HB3.out.alloc hz3 _⟩
end
end Go.Proofs.YtjlkjhmmbaljiaaGreatDoor
