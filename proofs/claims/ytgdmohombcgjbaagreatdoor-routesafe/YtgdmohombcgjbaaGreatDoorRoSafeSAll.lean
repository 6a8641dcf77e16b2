/-
  What is played on a machine, in plain words: what holds behind each scan, and how long one waits. Plain mathematics of chapter 11: no inputs show that a table's machine is not safe. Plain mathematics of chapter 11: what must hold names the program's names alone, and is small; its machine has few states.
-/
import Derived.Test.YtgdmohombcgjbaaGreatDoorPrMathAll
import Derived.Test.YtgdmohombcgjbaaGreatDoorRoSafePAll
namespace Go.Proofs.YtgdmohombcgjbaaGreatDoor
section
namespace Pr
/-- behind each scan of those that are played: does it hold? -/
def shown (next : Nat → List Nat) (gd : Nat → Nat → Bool) : Nat → List Nat → List Bool
  | _, [] => []
  | s, i :: l => gd s i :: shown next gd ((next s).getD i 0) l
theorem shown_len (next : Nat → List Nat) (gd : Nat → Nat → Bool) : ∀ (s : Nat) (l : List Nat), (shown next gd s l).length = l.length
  | _, [] => rfl
  | s, i :: l => by simp [shown, shown_len next gd _ l]
theorem shown_snoc (next : Nat → List Nat) (gd : Nat → Nat → Bool) (i : Nat) : ∀ (s : Nat) (l : List Nat), shown next gd s (l ++ [i]) = shown next gd s l ++ [gd (Rc.go next s l) i]
  | _, [] => rfl
  | s, j :: l => by
    show gd s j :: shown next gd ((next s).getD j 0) (l ++ [i]) = gd s j :: (shown next gd ((next s).getD j 0) l ++ [gd (Rc.go next ((next s).getD j 0) l) i])
    rw [shown_snoc next gd i]
theorem go_fst (next : Nat → List Nat) (wt : Nat × Nat → Nat → Nat) : ∀ (l : List Nat) (p : Nat × Nat), (go next wt p l).1 = Rc.go next p.1 l
  | [], _ => rfl
  | i :: l, p => go_fst next wt l (step next wt p i)
theorem shown_fine {next : Nat → List Nat} {wt : Nat × Nat → Nat → Nat} {gd : Nat → Nat → Bool} (h : ∀ p i, i < (next p.1).length → wt p i ≤ 0 → gd p.1 i = true) : ∀ (l : List Nat) (p : Nat × Nat), Fine next wt 0 p l → shown next gd p.1 l = List.replicate l.length true
  | [], _, _ => rfl
  | i :: l, p, hf => by
    have ih := shown_fine h l (step next wt p i) hf.2.2
    show gd p.1 i :: shown next gd (step next wt p i).1 l = _
    rw [h p i hf.1 hf.2.1, ih]
    rfl
theorem Held.shows {next : Nat → List Nat} {wt : Nat × Nat → Nat → Nat} {gd : Nat → Nat → Bool} (hh : Held next wt 0) (h : ∀ p i, i < (next p.1).length → wt p i ≤ 0 → gd p.1 i = true) (l : List Nat) (hl : InR next 0 l) : shown next gd 0 l = List.replicate l.length true := shown_fine h l (0, 0) (hh l hl)
theorem fine_mono {next : Nat → List Nat} {wt : Nat × Nat → Nat → Nat} {a b : Nat} (hab : a ≤ b) : ∀ (l : List Nat) (p : Nat × Nat), Fine next wt a p l → Fine next wt b p l
  | [], _, _ => trivial
  | _ :: l, _, hf => ⟨hf.1, Nat.le_trans hf.2.1 hab, fine_mono hab l _ hf.2.2⟩
theorem Broke.inr {next : Nat → List Nat} {wt : Nat × Nat → Nat → Nat} {most : Nat} {l : List Nat} (h : Broke next wt most l) : InR next 0 l := by
  obtain ⟨m, i, rfl, h1, h2, h3⟩ := h
  have h4 : Fine next wt (wt (go next wt (0, 0) m) i + most) (0, 0) (m ++ [i]) := by
    rw [fine_append]
    exact ⟨fine_mono (by omega) m _ h1, h2, by omega, trivial⟩
  exact h4.inr
theorem Broke.shows {next : Nat → List Nat} {wt : Nat × Nat → Nat → Nat} {gd : Nat → Nat → Bool} {l : List Nat} (hb : Broke next wt 0 l) (h : ∀ p i, i < (next p.1).length → wt p i ≤ 0 → gd p.1 i = true) (h' : ∀ p i, i < (next p.1).length → 0 < wt p i → gd p.1 i = false) : ∃ n, l.length = n + 1 ∧ shown next gd 0 l = List.replicate n true ++ [false] := by
  obtain ⟨m, i, rfl, h1, h2, h3⟩ := hb
  refine ⟨m.length, by simp, ?_⟩
  rw [shown_snoc, shown_fine h m (0, 0) h1]
  have h4 := h' _ i h2 h3
  rw [go_fst] at h4
  rw [h4]
theorem inr_of {next : Nat → List Nat} {I : Nat} (hn : ∀ s, (next s).length = I) : ∀ (l : List Nat) (s : Nat), (∀ i, i ∈ l → i < I) → InR next s l
  | [], _, _ => trivial
  | i :: l, s, h => ⟨by rw [hn]; exact h i (by simp), inr_of hn l _ (fun j hj => h j (by simp [hj]))⟩
theorem InR.lt {next : Nat → List Nat} {I : Nat} (hn : ∀ s, (next s).length = I) : ∀ (l : List Nat) (s : Nat), InR next s l → ∀ i, i ∈ l → i < I
  | [], _, _, i, hi => by simp at hi
  | j :: l, s, h, i, hi => by
    rcases List.mem_cons.1 hi with rfl | hi
    · have := h.1; rwa [hn] at this
    · exact InR.lt hn l _ h.2 i hi
/-- where none waits, two that wait alike are alike -/
theorem fine_same {next : Nat → List Nat} {wt wt' : Nat × Nat → Nat → Nat} (h : ∀ s i, i < (next s).length → wt (s, 0) i = wt' (s, 0) i) : ∀ (l : List Nat) (s : Nat), Fine next wt 0 (s, 0) l → Fine next wt' 0 (s, 0) l ∧ go next wt (s, 0) l = go next wt' (s, 0) l ∧ (go next wt (s, 0) l).2 = 0
  | [], _, _ => ⟨trivial, rfl, rfl⟩
  | i :: l, s, hf => by
    have h0 : wt (s, 0) i = 0 := by have := hf.2.1; omega
    have h1 : wt' (s, 0) i = 0 := by rw [← h s i hf.1, h0]
    have e : step next wt (s, 0) i = ((next s).getD i 0, 0) := by unfold step; rw [h0]
    have e' : step next wt' (s, 0) i = ((next s).getD i 0, 0) := by unfold step; rw [h1]
    have hf2 := hf.2.2
    rw [e] at hf2
    obtain ⟨h2, h3, h4⟩ := fine_same h l _ hf2
    refine ⟨⟨hf.1, by rw [h1]; exact Nat.le_refl _, by rw [e']; exact h2⟩, ?_, ?_⟩
    · show go next wt (step next wt (s, 0) i) l = go next wt' (step next wt' (s, 0) i) l
      rw [e, e']; exact h3
    · show (go next wt (step next wt (s, 0) i) l).2 = 0
      rw [e]; exact h4
theorem Broke.same {next : Nat → List Nat} {wt wt' : Nat × Nat → Nat → Nat} {l : List Nat} (h : ∀ s i, i < (next s).length → wt (s, 0) i = wt' (s, 0) i) (hb : Broke next wt 0 l) : Broke next wt' 0 l := by
  obtain ⟨m, i, rfl, h1, h2, h3⟩ := hb
  obtain ⟨h4, h5, h6⟩ := fine_same h m 0 h1
  refine ⟨m, i, rfl, h4, by rw [← h5]; exact h2, ?_⟩
  rw [← h5]
  have e : go next wt (0, 0) m = ((go next wt (0, 0) m).1, 0) := Prod.ext rfl h6
  rw [e, ← h _ i h2, ← e]
  exact h3
/-- how long one waits, where one asks and is answered -/
def wtB (ask ans : Nat → Nat → Bool) (p : Nat × Nat) (i : Nat) : Nat := if ans p.1 i || (p.2 == 0 && !ask p.1 i) then 0 else p.2 + 1
theorem go_take {next : Nat → List Nat} {wt : Nat × Nat → Nat → Nat} {l : List Nat} {p : Nat × Nat} (j i : Nat) (h : l[j]? = some i) : go next wt p (l.take (j + 1)) = step next wt (go next wt p (l.take j)) i := by
  obtain ⟨hj, e⟩ := List.getElem?_eq_some_iff.1 h
  rw [List.take_succ_eq_append_getElem hj, go_append, e]
  rfl
/-- one that waits has waited one scan less before -/
theorem wtB_back {ask ans : Nat → Nat → Bool} {p : Nat × Nat} {i k : Nat} (h : wtB ask ans p i = k + 1) : p.2 = k ∧ ans p.1 i = false ∧ (k = 0 → ask p.1 i = true) := by
  unfold wtB at h
  split at h
  · omega
  · rename_i hn
    simp only [Bool.or_eq_true, Bool.and_eq_true, beq_iff_eq, Bool.not_eq_true', not_or, not_and] at hn
    obtain ⟨h1, h2⟩ := hn
    have hk : p.2 = k := by omega
    refine ⟨hk, by simpa using h1, fun h0 => ?_⟩
    have := h2 (by omega)
    simpa using this
/-- what an unanswered question looks like at its end -/
theorem Broke.ends {next : Nat → List Nat} {ask ans : Nat → Nat → Bool} {wt : Nat × Nat → Nat → Nat} {n : Nat} {l : List Nat} (hw : ∀ p i, i < (next p.1).length → wt p i = wtB ask ans p i) (hb : Broke next wt n l) : n < l.length ∧ (∀ (j i : Nat), l[j]? = some i → l.length ≤ j + n + 1 → ans (Rc.go next 0 (l.take j)) i = false) ∧ ∀ (j i : Nat), l[j]? = some i → l.length = j + n + 1 → ask (Rc.go next 0 (l.take j)) i = true := by
  have hin := hb.inr
  obtain ⟨m, x, rfl, h1, h2, h3⟩ := hb
  have hlen : (m ++ [x]).length = m.length + 1 := by simp
  -- each input is one
  have hin2 : ∀ (l : List Nat) (s : Nat), InR next s l → ∀ (j i : Nat), l[j]? = some i → i < (next (Rc.go next s (l.take j))).length := by
    intro l
    induction l with
    | nil => intro s _ j i h; simp at h
    | cons a l ih =>
      intro s hr j i h
      cases j with
      | zero => simp at h; subst h; exact hr.1
      | succ j => exact ih _ hr.2 j i (by simpa using h)
  have hst : ∀ (j i : Nat), (m ++ [x])[j]? = some i → (go next wt (0, 0) ((m ++ [x]).take (j + 1))).2 = wtB ask ans (go next wt (0, 0) ((m ++ [x]).take j)) i := fun j i h => by
    rw [go_take j i h]
    show wt _ i = _
    refine hw _ i ?_
    rw [go_fst]
    exact hin2 _ _ hin j i h
  have hlow : ∀ (l : List Nat) (p : Nat × Nat), p.2 ≤ n → Fine next wt n p l → (go next wt p l).2 ≤ n := by
    intro l
    induction l with
    | nil => intro p hp _; exact hp
    | cons a l ih => intro p hp hf; exact ih _ hf.2.1 hf.2.2
  have hx : (m ++ [x])[m.length]? = some x := by simp
  have hlast := hst m.length x hx
  have htm : (m ++ [x]).take m.length = m := by simp
  rw [htm] at hlast
  have hle := hlow m (0, 0) (Nat.zero_le _) h1
  have hwx : wt (go next wt (0, 0) m) x = wtB ask ans (go next wt (0, 0) m) x := hw _ _ h2
  have hub : ∀ p i, wtB ask ans p i ≤ p.2 + 1 := fun p i => by unfold wtB; split <;> omega
  have hend : (go next wt (0, 0) ((m ++ [x]).take (m.length + 1))).2 = n + 1 := by
    have := hub (go next wt (0, 0) m) x
    omega
  have key : ∀ t, t ≤ n → t ≤ m.length ∧ (go next wt (0, 0) ((m ++ [x]).take (m.length + 1 - t))).2 = n + 1 - t := by
    intro t
    induction t with
    | zero => intro _; exact ⟨Nat.zero_le _, hend⟩
    | succ t ih =>
      intro ht
      obtain ⟨h4, h5⟩ := ih (by omega)
      have hj : m.length - t < (m ++ [x]).length := by simp; omega
      have h6 := hst (m.length - t) _ (List.getElem?_eq_getElem hj)
      rw [show m.length - t + 1 = m.length + 1 - t by omega, h5] at h6
      have h7 := wtB_back (k := n - t) (by rw [← h6]; omega)
      have h8 : t + 1 ≤ m.length := by
        refine Classical.byContradiction fun hc => ?_
        have e : m.length - t = 0 := by omega
        have h9 := h7.1
        rw [e] at h9
        simp [go] at h9
        omega
      refine ⟨h8, ?_⟩
      rw [show m.length + 1 - (t + 1) = m.length - t by omega, h7.1]
      omega
  have key2 : ∀ (j i : Nat), (m ++ [x])[j]? = some i → (m ++ [x]).length ≤ j + n + 1 → ans (Rc.go next 0 ((m ++ [x]).take j)) i = false ∧ ((m ++ [x]).length = j + n + 1 → ask (Rc.go next 0 ((m ++ [x]).take j)) i = true) := fun j i hj hl => by
    have hjl := (List.getElem?_eq_some_iff.1 hj).1
    rw [hlen] at hjl hl
    obtain ⟨h4, h5⟩ := key (m.length - j) (by omega)
    rw [show m.length + 1 - (m.length - j) = j + 1 by omega] at h5
    have h6 := hst j i hj
    rw [h5] at h6
    have h7 := wtB_back (k := n - (m.length - j)) (by rw [← h6]; omega)
    rw [go_fst] at h7
    exact ⟨h7.2.1, fun e => h7.2.2 (by rw [hlen] at e; omega)⟩
  refine ⟨by rw [hlen]; have := (key n (Nat.le_refl _)).1; omega, fun j i hj hl => (key2 j i hj hl).1, fun j i hj hl => (key2 j i hj (by omega)).2 hl⟩
end Pr
end
section
namespace Ro
theorem number0 : ∀ (l : List (Nat × Bool)) (n : Nat), Mc.number l (List.replicate n false) (List.replicate n 0) = 0
  | [], _ => rfl
  | x :: r, 0 => by
    have h0 : Mc.number r [] [] = 0 := number0 r 0
    show Mc.number r [] [] * x.1 + Mc.told x false 0 = 0
    rw [h0, Nat.zero_mul]; unfold Mc.told; split <;> simp
  | x :: r, n + 1 => by
    show Mc.number r (List.replicate n false) (List.replicate n 0) * x.1 + Mc.told x false 0 = 0
    rw [number0 r n, Nat.zero_mul]; unfold Mc.told; split <;> simp
/-- the numbers that a machine comes to are of states that are safe -/
theorem go_safe {t : Tbl} {S P : Nat} (f : Fits t S P) (hnd : ∀ r, r ∈ t.rts → (nums r).Nodup) (next : Nat → List Nat) (I : Nat) (bs : Nat → List Bool) (hbs : ∀ i, (bs i).length = t.rts.length + S)
    (hn : ∀ s i, i < I → (next s).getD i 0 = Mc.number (Mc.parts (ladderE t S P)) (Sc.step (ladderE t S P) (Mc.state (Mc.parts (ladderE t S P)) s) (bs i)).is (Sc.step (ladderE t S P) (Mc.state (Mc.parts (ladderE t S P)) s) (bs i)).ct) :
    ∀ (l : List Nat), (∀ i, i ∈ l → i < I) → ∀ st, Sc.Bd (ladderE t S P) st → Apart t S st → Lies t S st → ∃ st', Sc.Bd (ladderE t S P) st' ∧ Apart t S st' ∧ Lies t S st' ∧ Mc.number (Mc.parts (ladderE t S P)) st'.is st'.ct = Rc.go next (Mc.number (Mc.parts (ladderE t S P)) st.is st.ct) l
  | [], _, st, hb, hA, hL => ⟨st, hb, hA, hL, rfl⟩
  | i :: l, hl, st, hb, hA, hL => by
    obtain ⟨e, _, hb', hA', hL'⟩ := mach_safe f hnd st hb hA hL (bs i) (hbs i)
    obtain ⟨st', k1, k2, k3, k4⟩ := go_safe f hnd next I bs hbs hn l (fun j hj => hl j (by simp [hj])) _ hb' hA' hL'
    refine ⟨st', k1, k2, k3, k4.trans ?_⟩
    have h1 := hn (Mc.number (Mc.parts (ladderE t S P)) st.is st.ct) i (hl i (by simp))
    rw [e] at h1
    rw [← h1]
    rfl
/-- what a machine's next row says, and what is good, come to: never broken -/
theorem never_broke {t : Tbl} {S P : Nat} (f : Fits t S P) (hnd : ∀ r, r ∈ t.rts → (nums r).Nodup) (next : Nat → List Nat) (I : Nat) (bs : Nat → List Bool) (hbs : ∀ i, (bs i).length = t.rts.length + S)
    (hn : ∀ s i, i < I → (next s).getD i 0 = Mc.number (Mc.parts (ladderE t S P)) (Sc.step (ladderE t S P) (Mc.state (Mc.parts (ladderE t S P)) s) (bs i)).is (Sc.step (ladderE t S P) (Mc.state (Mc.parts (ladderE t S P)) s) (bs i)).ct)
    (hI : ∀ s, (next s).length = I) (wt : Nat × Nat → Nat → Nat)
    (hw : ∀ s k i, i < I → (safeE t).eval (Sc.told (namesE t.rts.length S P) (Sc.step (ladderE t S P) (Mc.state (Mc.parts (ladderE t S P)) s) (bs i)).is) (Sc.told (namesE t.rts.length S P) (Mc.state (Mc.parts (ladderE t S P)) s).is) = true → wt (s, k) i = 0) (l : List Nat) : ¬Pr.Broke next wt 0 l := by
  rintro ⟨m, i, rfl, h1, h2, h3⟩
  have hm := Pr.InR.lt hI m 0 (Pr.Fine.inr m (0, 0) h1)
  rw [hI] at h2
  have h0 : Mc.number (Mc.parts (ladderE t S P)) (Sc.start (ladderE t S P)).is (Sc.start (ladderE t S P)).ct = 0 := Ro.number0 _ _
  obtain ⟨sA, sL⟩ := start_safe t S P
  obtain ⟨st, k1, k2, k3, k4⟩ := go_safe f hnd next I bs hbs hn m hm _ (Sc.start_bd _ (ladder_ok f)) sA sL
  rw [h0] at k4
  have hg := Pr.go_fst next wt m (0, 0)
  have := (mach_safe f hnd st k1 k2 k3 (bs i) (hbs i)).2.1
  rw [k4] at this
  have hz := hw (Rc.go next 0 m) (Pr.go next wt (0, 0) m).2 i h2 this
  rw [show Pr.go next wt (0, 0) m = (Rc.go next 0 m, (Pr.go next wt (0, 0) m).2) from Prod.ext hg rfl, hz] at h3
  omega
end Ro
end
section
namespace Ro
theorem safe_parts {t : Tbl} {S P : Nat} (f : Fits t S P) (x : Ex) (hx : x ∈ (List.range t.rts.length).flatMap (partsE t)) : (∃ i j, i < t.rts.length ∧ j < t.rts.length ∧ x = bothE j i) ∨ ∃ i q, i < t.rts.length ∧ q.1.toNat < P ∧ (x = liesE i q ∨ x = restsE i q) := by
  obtain ⟨i, hi, hx⟩ := List.mem_flatMap.1 hx
  have hi := List.mem_range.1 hi
  rcases List.mem_append.1 hx with hx | hx
  · obtain ⟨j, hj, rfl⟩ := List.mem_map.1 hx
    exact .inl ⟨i, j, hi, (clashing_lt t i j (List.mem_filter.1 hj).1).1, rfl⟩
  · obtain ⟨q, hq, hx⟩ := List.mem_flatMap.1 hx
    have hb := f.pts _ (rt_in t i hi) q hq
    refine .inr ⟨i, q, hi, by omega, ?_⟩
    simpa using hx
theorem named_one (k : Nat) (h : k ≠ 2 ∧ k ≠ 3 ∧ k ≠ 4) (l : List Ex) (s : List UInt8) : s ∈ (⟨k, [], l⟩ : Ex).named true ↔ ∃ x, x ∈ l ∧ s ∈ x.named true := by
  rw [Ex.named_of _ _ _ _ h]
  constructor
  · intro h
    obtain ⟨y, hy, hs⟩ := List.mem_flatten.1 h
    obtain ⟨x, hx, rfl⟩ := List.mem_map.1 hy
    exact ⟨x, hx, hs⟩
  · rintro ⟨x, hx, hs⟩
    exact List.mem_flatten.2 ⟨_, List.mem_map.2 ⟨x, hx, rfl⟩, hs⟩
theorem allE0_named (l : List Ex) (s : List UInt8) (h : s ∈ (allE0 l).named true) : ∃ x, x ∈ l ∧ s ∈ x.named true := by
  cases l with
  | nil =>
    obtain ⟨x, hx, _⟩ := (named_one 1 (by decide) [] s).1 h
    cases hx
  | cons a l => exact allE_named _ _ h
theorem safe_named {t : Tbl} {S P : Nat} (f : Fits t S P) (s : List UInt8) (hs : s ∈ (safeE t).named true) : 0 ≤ Ld.number (namesE t.rts.length S P) s := by
  have hS := f.S3
  have hP := f.P2
  have hR := f.R3
  have nl : ∀ i, i < t.rts.length → 0 ≤ Ld.number (namesE t.rts.length S P) (pnm 108 i) := fun i hi => by rw [num_l _ (by omega) _ (by omega) _ (by omega) i hi]; omega
  have np : ∀ i, i < P → 0 ≤ Ld.number (namesE t.rts.length S P) (pnm 112 i) := fun i hi => by rw [num_p _ (by omega) _ (by omega) _ (by omega) i hi]; omega
  obtain ⟨x, hx, hs⟩ := allE0_named _ _ hs
  rcases safe_parts f x hx with ⟨i, j, hi, hj, rfl⟩ | ⟨i, q, hi, hq, rfl | rfl⟩
  · obtain ⟨y, hy, hs⟩ := (named_one 5 (by decide) _ s).1 hs
    obtain rfl := List.mem_singleton.1 hy
    obtain ⟨y, hy, hs⟩ := (named_one 6 (by decide) _ s).1 hs
    simp only [List.mem_cons, List.not_mem_nil, or_false] at hy
    rcases hy with rfl | rfl
    · rw [bitE_named] at hs; obtain rfl := List.mem_singleton.1 hs; exact nl _ hj
    · rw [bitE_named] at hs; obtain rfl := List.mem_singleton.1 hs; exact nl _ hi
  · obtain ⟨y, hy, hs⟩ := (named_one 7 (by decide) _ s).1 hs
    simp only [List.mem_cons, List.not_mem_nil, or_false] at hy
    rcases hy with rfl | rfl
    · rw [notE_named] at hs; obtain rfl := List.mem_singleton.1 hs; exact nl _ hi
    · split at hs
      · rw [bitE_named] at hs; obtain rfl := List.mem_singleton.1 hs; exact np _ hq
      · rw [notE_named] at hs; obtain rfl := List.mem_singleton.1 hs; exact np _ hq
  · obtain ⟨y, hy, hs⟩ := (named_one 7 (by decide) _ s).1 hs
    simp only [List.mem_cons, List.not_mem_nil, or_false] at hy
    rcases hy with rfl | rfl | rfl
    · rw [notE_named] at hs; obtain rfl := List.mem_singleton.1 hs; exact nl _ hi
    · rw [Ex.named3] at hs; obtain rfl := List.mem_singleton.1 hs; exact nl _ hi
    · obtain ⟨y, hy, hs⟩ := (named_one 5 (by decide) _ s).1 hs
      obtain rfl := List.mem_singleton.1 hy
      obtain ⟨y, hy, hs⟩ := (named_one 7 (by decide) _ s).1 hs
      simp only [List.mem_cons, List.not_mem_nil, or_false] at hy
      rcases hy with rfl | rfl
      · rw [Ex.named3] at hs; obtain rfl := List.mem_singleton.1 hs; exact np _ hq
      · rw [Ex.named4] at hs; obtain rfl := List.mem_singleton.1 hs; exact np _ hq
theorem bothE_size (j i : Nat) : (bothE j i).size = 4 := by simp [bothE, bitE, Ex.size]
theorem liesE_size (i : Nat) (q : Int × Bool) : (liesE i q).size ≤ 5 := by
  unfold liesE
  cases q.2 <;> simp [notE, bitE, Ex.size]
theorem restsE_size (i : Nat) (q : Int × Bool) : (restsE i q).size ≤ 8 := by simp [restsE, notE, bitE, Ex.size]
theorem ssum_le (n : Nat) : ∀ (l : List Ex), (∀ x, x ∈ l → x.size ≤ n) → (l.map fun x => x.size).sum ≤ l.length * n
  | [], _ => by simp
  | a :: l, h => by
    have h1 := h a (by simp)
    have h2 := ssum_le n l fun x hx => h x (by simp [hx])
    simp only [List.map_cons, List.sum_cons, List.length_cons, Nat.add_mul, Nat.one_mul]
    omega
theorem len_le {α : Type} (g : α → List Ex) (n : Nat) : ∀ (l : List α), (∀ x, x ∈ l → (g x).length ≤ n) → (l.flatMap g).length ≤ l.length * n
  | [], _ => by simp
  | a :: l, h => by
    have h1 := h a (by simp)
    have h2 := len_le g n l fun x hx => h x (by simp [hx])
    simp only [List.flatMap_cons, List.length_append, List.length_cons, Nat.add_mul, Nat.one_mul]
    omega
theorem parts_few {t : Tbl} {S P : Nat} (f : Fits t S P) (i : Nat) (hi : i < t.rts.length) : (partsE t i).length ≤ 7 := by
  unfold partsE
  have h1 : ((clashing t i).filter fun j => decide (j < i)).length ≤ 3 := Nat.le_trans (List.length_filter_le _ _) (Nat.le_trans (clashTo_len t i _) f.R3)
  have h2 := len_le (fun q : Int × Bool => [liesE i q, restsE i q]) 2 (rt t i).pts fun _ _ => by simp
  have h3 := f.lp _ (rt_in t i hi)
  rw [List.length_append, List.length_map]
  omega
theorem safe_few {t : Tbl} {S P : Nat} (f : Fits t S P) : ((List.range t.rts.length).flatMap (partsE t)).length ≤ 21 := by
  have h := len_le (partsE t) 7 (List.range t.rts.length) fun i hi => parts_few f i (List.mem_range.1 hi)
  have := f.R3
  rw [List.length_range] at h
  omega
theorem safe_size {t : Tbl} {S P : Nat} (f : Fits t S P) : (safeE t).size ≤ 1000000 := by
  unfold safeE
  have h1 := safe_few f
  have h2 : ∀ x, x ∈ (List.range t.rts.length).flatMap (partsE t) → x.size ≤ 8 := fun x hx => by
    rcases safe_parts f x hx with ⟨i, j, hi, hj, rfl⟩ | ⟨i, q, hi, hq, rfl | rfl⟩
    · rw [bothE_size]; omega
    · have := liesE_size i q; omega
    · exact restsE_size i q
  generalize (List.range t.rts.length).flatMap (partsE t) = l at *
  have h3 := ssum_le 8 l h2
  match l with
  | [] => simp [allE0, Ex.size]
  | [x] => have := h2 x (by simp); show x.size ≤ _; omega
  | x :: y :: l =>
    show (⟨6, [], x :: y :: l⟩ : Ex).size ≤ _
    simp only [Ex.size]
    omega
theorem total_le : ∀ (l : List (Nat × Bool)), (∀ x, x ∈ l → x.1 ≤ 2) → Mc.total l ≤ 2 ^ l.length
  | [], _ => by simp [Mc.total]
  | x :: r, h => by
    have h1 := total_le r fun y hy => h y (by simp [hy])
    have h2 := h x (by simp)
    show x.1 * Mc.total r ≤ _
    rw [List.length_cons, Nat.pow_succ, Nat.mul_comm (2 ^ r.length)]
    exact Nat.mul_le_mul h2 h1
theorem names_kind {R S P : Nat} (n : Ld.Nme) (h : n ∈ namesE R S P) : n.kind = 1 ∨ n.kind = 2 := by
  unfold namesE at h
  simp only [List.mem_append, List.mem_map] at h
  rcases h with ((⟨_, _, rfl⟩ | ⟨_, _, rfl⟩) | ⟨_, _, rfl⟩) | ⟨_, _, rfl⟩ <;> simp
/-- a table's machine has few states -/
theorem mach_few {t : Tbl} {S P : Nat} (f : Fits t S P) : Mc.total (Mc.parts (ladderE t S P)) ≤ 2048 := by
  have hS := f.S3
  have hP := f.P2
  have hR := f.R3
  have h := total_le (Mc.parts (ladderE t S P)) fun x hx => by
    obtain ⟨k, hk, rfl⟩ := List.mem_map.1 hx
    unfold Mc.part
    split
    · rename_i n hn
      have hk := names_kind n (List.mem_of_getElem? hn)
      rw [if_neg (by omega)]
      split
      · exact Nat.le_refl _
      · split
        · exact Nat.le_refl _
        · show 1 ≤ 2; omega
    · show 1 ≤ 2; omega
  have hl : (Mc.parts (ladderE t S P)).length ≤ 11 := by
    rw [Mc.parts_len]
    show (namesE _ _ _).length ≤ _
    rw [namesE_len]
    omega
  exact Nat.le_trans h (Nat.pow_le_pow_right (n := 2) (by decide) hl)
theorem mach_ins {t : Tbl} {S P : Nat} (f : Fits t S P) : (Ld.kindL (ladderE t S P).names 1).length = t.rts.length + S := by
  have hS := f.S3
  have hP := f.P2
  have hR := f.R3
  show (Ld.kindL (namesE _ _ _) 1).length = _
  rw [kind_in _ (by omega) _ (by omega) _ (by omega)]
  simp
end Ro
end
end Go.Proofs.YtgdmohombcgjbaaGreatDoor
