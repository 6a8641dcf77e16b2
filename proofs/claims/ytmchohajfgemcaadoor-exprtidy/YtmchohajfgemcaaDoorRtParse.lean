/-
  Plain mathematics of chapter 1: pieces, parts and wholes are read again from their texts. Nothing of the program is named here.
-/
import Derived.Test.YtmchohajfgemcaaDoorRtBack
namespace Go.Proofs.YtmchohajfgemcaaDoor
namespace Ex
theorem skip_twice (l : List UInt8) (i : Nat) (h : i ≤ l.length) : skip l (skip l i) = skip l i := by
  by_cases h1 : skip l i < l.length
  · have h2 : sg l (skip l i) ≠ 32 := fun e => by have := (sg_skip l i h).1 e; omega
    refine skip_stop l _ h1 (fun e => h2 ?_)
    simp only [sg, if_pos h1, e]; rfl
  · exact skip_end l _ (by omega)
theorem sg_head (pre : List UInt8) (c : UInt8) (r : List UInt8) : sg (pre ++ c :: r) pre.length = c.toNat := by
  have := sg_append pre (c :: r) 0
  rw [Nat.add_zero, sg_cons] at this
  exact this
theorem skip_head (pre : List UInt8) (c : UInt8) (r : List UInt8) (h : c.toNat ≠ 32) : skip (pre ++ c :: r) pre.length = pre.length := by
  have := skip_append pre (c :: r) 0
  rw [Nat.add_zero, skip_cons c r h, Nat.add_zero] at this
  exact this
theorem nm_not_end (c : UInt8) (h : Nm.nm (c.toNat : Int) = true) : ends c.toNat = false := by
  unfold Nm.nm Nm.lo Nm.di at h
  simp only [Bool.or_eq_true, Bool.and_eq_true, decide_eq_true_eq, beq_iff_eq] at h
  unfold ends
  simp only [List.contains_eq_mem, List.mem_cons, List.not_mem_nil, or_false, decide_eq_false_iff_not]
  omega
theorem name_signs (nm : List UInt8) (h : Nm.name nm = true) : (∀ c, c ∈ nm → ends c.toNat = false) ∧ ∃ c r, nm = c :: r ∧ 97 ≤ c.toNat ∧ c.toNat ≤ 122 := by
  unfold Nm.name at h
  simp only [Bool.and_eq_true, Bool.not_eq_true', decide_eq_true_eq] at h
  obtain ⟨⟨⟨⟨h1, _⟩, h3⟩, h4⟩, _⟩ := h
  refine ⟨?_, ?_⟩
  · intro c hc
    unfold Nm.upto at h4
    rw [List.take_length, List.all_eq_true] at h4
    exact nm_not_end c (h4 c hc)
  · cases nm with
    | nil => simp at h1
    | cons c r =>
      refine ⟨c, r, rfl, ?_⟩
      unfold Nm.lo Nm.sign at h3
      simp at h3
      omega
theorem takeWhile_stop (nm post : List UInt8) (h : ∀ c, c ∈ nm → ends c.toNat = false) (hp : Stop post) : ((nm ++ post).takeWhile fun c => !ends c.toNat) = nm := by
  induction nm with
  | nil =>
    cases post with
    | nil => rfl
    | cons c r =>
      unfold Stop at hp
      rw [sg_cons] at hp
      simp [hp]
  | cons c r ih =>
    have hc := h c (by simp)
    simp [hc, ih (fun d hd => h d (by simp [hd]))]
theorem name_back (L pre nm post : List UInt8) (k i : Nat) (hL : L = pre ++ nm ++ post) (hn : Nm.name nm = true) (hp : Stop post) (hsk : skip L i = pre.length) :
    nameP L k i = .inr (⟨k, nm, []⟩, pre.length + nm.length) := by
  obtain ⟨h1, c, r, hc, h2, h3⟩ := name_signs nm hn
  have hw : wend L pre.length = pre.length + nm.length := by
    have := wend_append pre (nm ++ post) 0
    rw [Nat.add_zero, ← List.append_assoc, ← hL] at this
    rw [this]
    unfold wend
    rw [List.drop_zero, takeWhile_stop nm post h1 hp]
    omega
  have hs : sg L pre.length = c.toNat := by rw [hL, hc, List.append_assoc]; exact sg_head pre c _
  have he : ends (sg L pre.length) = false := by rw [hs]; exact h1 c (by rw [hc]; simp)
  have hcut : cut L pre.length (pre.length + nm.length) = nm := by
    unfold cut
    rw [hL, List.append_assoc, List.take_append, List.drop_append]
    simp
  unfold nameP
  simp only [hsk]
  rw [if_neg (by rw [he, hs]; simp; omega), hw, hcut, if_pos hn]
def Qq (post : List UInt8) : Prop := Stop post ∧ nxt post ≠ 38
def Qw (post : List UInt8) : Prop := Stop post ∧ nxt post ≠ 38 ∧ nxt post ≠ 124
theorem stop_sep (s : UInt8) (r : List UInt8) : Stop ([32, s, 32] ++ r) := by unfold Stop; simp [sg, ends]
theorem nxt_sep (s : UInt8) (hs : s.toNat ≠ 32) (r : List UInt8) : nxt ([32, s, 32] ++ r) = s.toNat := by
  unfold nxt
  rw [skip_blank _ 0 (by simp) (by simp), skip_stop _ (0 + 1) (by simp) (by simp; intro e; apply hs; rw [e]; rfl)]
  simp [sg]
theorem join_head (sep : List UInt8) (a : List UInt8) (r : List (List UInt8)) (h : Head a) : Head (join sep (a :: r)) := by
  obtain ⟨c, s, rfl, hc⟩ := h
  cases r with
  | nil => exact ⟨c, s, rfl, hc⟩
  | cons b r => exact ⟨c, s ++ sep ++ join sep (b :: r), by rw [join_two]; simp, hc⟩
theorem eta (x : Ex) (k : Nat) (h1 : x.kind = k) (h2 : x.name = []) : x = ⟨k, [], x.of⟩ := by
  obtain ⟨a, b, c⟩ := x
  simp only at h1 h2
  rw [h1, h2]
theorem made_list (k : Nat) (xs : List Ex) (m : Nat) (h : 2 ≤ xs.length) : made k (.inr (xs, m)) = .inr (⟨k, [], xs⟩, m) := by
  match xs, h with
  | _ :: _ :: _, _ => rfl
theorem part_back (L : List UInt8) (D : Nat) (HP : ∀ x, FitP D x → Nice L Stop (pieceP L D) x (tP x) ∧ Head (tP x)) (x : Ex) (hx : FitQ (FitP D) x) : Nice L Qq (partP L (pieceP L D)) x (tQ x) ∧ Head (tQ x) := by
  have hsep : ∀ r, Stop ([32, (38 : Nat).toUInt8, 32] ++ r) := fun r => stop_sep _ r
  have hlast : ∀ post, Qq post → Stop post ∧ nxt post ≠ 38 := fun post h => h
  rcases hx with ⟨h1, h2, h3, h4⟩ | ⟨h1, h2⟩
  · have ht : tQ x = join [32, (38 : Nat).toUInt8, 32] (x.of.map tP) := by
      rw [eta x 6 h1 h2]; unfold tQ; rw [text6]; rfl
    have hne : x.of ≠ [] := by intro e; rw [e] at h3; simp at h3
    have hall : ∀ y, y ∈ x.of → Nice L Stop (pieceP L D) y (tP y) ∧ Head (tP y) := fun y hy => HP y (h4 y hy)
    refine ⟨?_, ?_⟩
    · intro pre post i hL hQ hi hsk
      rw [ht] at hL
      have hjl := join_len [32, (38 : Nat).toUInt8, 32] rfl (x.of.map tP) (by simpa using hne)
      have hf : x.of.length ≤ L.length + 1 := by
        rw [List.length_map] at hjl
        have : L.length = pre.length + (join [32, (38 : Nat).toUInt8, 32] (x.of.map tP)).length + post.length := by rw [hL]; simp; omega
        omega
      have := list_back L 38 (by decide) (by decide) Qq Stop (pieceP L D) hsep hlast x.of tP hne hall (L.length + 1) pre post i hf hL hQ hi hsk
      refine ⟨skip L (pre.length + (tQ x).length), ?_, ?_, ?_⟩
      · unfold partP
        rw [this, made_list 6 _ _ h3, ← eta x 6 h1 h2, ht]
      · exact skip_le L _ (by rw [ht, hL]; simp <;> omega)
      · exact skip_twice L _ (by rw [ht, hL]; simp <;> omega)
    · rw [ht]
      match hof : x.of, hne with
      | y :: r, _ =>
        simp only [List.map_cons]
        exact join_head _ _ _ (hall y (by rw [hof]; simp)).2
  · have ht : tQ x = tP x := by
      unfold tQ tP
      have : decide (7 ≤ x.kind) = decide (6 ≤ x.kind) := by
        by_cases h : 6 ≤ x.kind
        · have : 7 ≤ x.kind := by omega
          simp [h, this]
        · have : ¬ 7 ≤ x.kind := by omega
          simp [h, this]
      rw [this]
    have hn := HP x h2
    rw [ht]
    refine ⟨?_, hn.2⟩
    intro pre post i hL hQ hi hsk
    have := list_back L 38 (by decide) (by decide) Qq Stop (pieceP L D) hsep hlast [x] tP (by simp) (by simpa using hn) (L.length + 1) pre post i (by simp) (by simpa [join] using hL) hQ hi hsk
    simp only [List.map_cons, List.map_nil, join] at this
    refine ⟨skip L (pre.length + (tP x).length), ?_, ?_, ?_⟩
    · unfold partP
      rw [this]
      rfl
    · exact skip_le L _ (by rw [hL]; simp <;> omega)
    · exact skip_twice L _ (by rw [hL]; simp <;> omega)
theorem whole_back (L : List UInt8) (D : Nat) (HP : ∀ x, FitP D x → Nice L Stop (pieceP L D) x (tP x) ∧ Head (tP x)) (x : Ex) (hx : FitW (FitP D) x) : Nice L Qw (wholeP L (pieceP L D)) x x.text ∧ Head x.text := by
  have hq : ∀ y, FitQ (FitP D) y → Nice L Qq (partP L (pieceP L D)) y (tQ y) ∧ Head (tQ y) := part_back L D HP
  have hsep : ∀ r, Qq ([32, (124 : Nat).toUInt8, 32] ++ r) := fun r => ⟨stop_sep _ r, by rw [nxt_sep _ (by decide)]; decide⟩
  have hlast : ∀ post, Qw post → Qq post ∧ nxt post ≠ 124 := fun post h => ⟨⟨h.1, h.2.1⟩, h.2.2⟩
  rcases hx with ⟨h1, h2, h3, h4⟩ | ⟨h1, h2⟩
  · have ht : x.text = join [32, (124 : Nat).toUInt8, 32] (x.of.map tQ) := by
      conv => lhs; rw [eta x 7 h1 h2]
      rw [text7]; rfl
    have hne : x.of ≠ [] := by intro e; rw [e] at h3; simp at h3
    have hall : ∀ y, y ∈ x.of → Nice L Qq (partP L (pieceP L D)) y (tQ y) ∧ Head (tQ y) := fun y hy => hq y (h4 y hy)
    refine ⟨?_, ?_⟩
    · intro pre post i hL hQ hi hsk
      rw [ht] at hL
      have hjl := join_len [32, (124 : Nat).toUInt8, 32] rfl (x.of.map tQ) (by simpa using hne)
      have hf : x.of.length ≤ L.length + 1 := by
        rw [List.length_map] at hjl
        have : L.length = pre.length + (join [32, (124 : Nat).toUInt8, 32] (x.of.map tQ)).length + post.length := by rw [hL]; simp; omega
        omega
      have := list_back L 124 (by decide) (by decide) Qw Qq (partP L (pieceP L D)) hsep hlast x.of tQ hne hall (L.length + 1) pre post i hf hL hQ hi hsk
      refine ⟨skip L (pre.length + x.text.length), ?_, ?_, ?_⟩
      · unfold wholeP
        rw [this, made_list 7 _ _ h3, ← eta x 7 h1 h2, ht]
      · exact skip_le L _ (by rw [ht, hL]; simp <;> omega)
      · exact skip_twice L _ (by rw [ht, hL]; simp <;> omega)
    · rw [ht]
      match hof : x.of, hne with
      | y :: r, _ =>
        simp only [List.map_cons]
        exact join_head _ _ _ (hall y (by rw [hof]; simp)).2
  · have ht : tQ x = x.text := by
      have hk : x.kind ≤ 6 := by
        rcases h2 with ⟨h2, _⟩ | ⟨_, h2⟩
        · omega
        · have := FitP.le7 D x h2; omega
      unfold tQ
      have : ¬ 7 ≤ x.kind := by omega
      simp [this, par]
    have hn := hq x h2
    rw [ht] at hn
    refine ⟨?_, hn.2⟩
    intro pre post i hL hQ hi hsk
    have := list_back L 124 (by decide) (by decide) Qw Qq (partP L (pieceP L D)) hsep hlast [x] text (by simp) (by simpa using hn) (L.length + 1) pre post i (by simp) (by simpa [join] using hL) hQ hi hsk
    simp only [List.map_cons, List.map_nil, join] at this
    refine ⟨skip L (pre.length + x.text.length), ?_, ?_, ?_⟩
    · unfold wholeP
      rw [this]
      rfl
    · exact skip_le L _ (by rw [hL]; simp <;> omega)
    · exact skip_twice L _ (by rw [hL]; simp <;> omega)
theorem piece_step (L : List UInt8) (D i j c : Nat) (h1 : skip L i = j) (h2 : sg L j = c) : pieceP L (D + 1) i =
    if c = 33 then notP (pieceP L D (j + 1)) else if c = 40 then parP L (wholeP L (pieceP L D) (j + 1)) else if c = 48 then .inr (⟨0, [], []⟩, j + 1) else if c = 49 then .inr (⟨1, [], []⟩, j + 1)
    else if c = 94 then nameP L 3 (j + 1) else if c = 126 then nameP L 4 (j + 1) else nameP L 2 j := by
  subst h1 h2
  rfl
theorem tP_low (x : Ex) (h : ¬ 6 ≤ x.kind) : tP x = x.text := by unfold tP; simp [h, par]
theorem piece_back (L : List UInt8) : ∀ (D : Nat) (x : Ex), FitP D x → Nice L Stop (pieceP L D) x (tP x) ∧ Head (tP x) := by
  intro D
  induction D with
  | zero => intro x h; exact absurd h (by simp [FitP])
  | succ D ih =>
    intro x h
    have hFW : 6 ≤ x.kind → FitW (FitP D) x := by
      intro hk
      have h' := h
      unfold FitP at h'
      rcases h' with ⟨h1, _⟩ | ⟨_, h1, _⟩ | ⟨h1, _⟩ | ⟨h1, h2, h3, h4⟩ | ⟨h1, h2, h3, h4⟩
      · omega
      · omega
      · omega
      · exact .inr ⟨by omega, .inl ⟨h1, h2, h3, h4⟩⟩
      · exact .inl ⟨h1, h2, h3, h4⟩
    by_cases hk6 : 6 ≤ x.kind
    · have hW := whole_back L D ih x (hFW hk6)
      have ht : tP x = 40 :: (x.text ++ [41]) := by unfold tP; simp [hk6, par]
      rw [ht]
      refine ⟨?_, ⟨40, _, rfl, by decide⟩⟩
      intro pre post i hL hQ hi hsk
      have hL1 : L = pre ++ 40 :: (x.text ++ [41] ++ post) := by rw [hL]; simp
      have hs : sg L pre.length = 40 := by rw [hL1]; exact sg_head pre 40 _
      have hL2 : L = (pre ++ [40]) ++ x.text ++ (41 :: post) := by rw [hL]; simp
      obtain ⟨c, r, hc, hc32⟩ := hW.2
      have hsk2 : skip L (pre.length + 1) = (pre ++ [40]).length := by
        have h3 : L = (pre ++ [40]) ++ c :: (r ++ 41 :: post) := by rw [hL2, hc]; simp
        have := skip_head (pre ++ [40]) c (r ++ 41 :: post) hc32
        rw [← h3] at this
        simpa using this
      have hlen : pre.length + 1 ≤ L.length := by rw [hL1]; simp <;> omega
      obtain ⟨m, hm, hml, hms⟩ := hW.1 (pre ++ [40]) (41 :: post) (pre.length + 1) hL2 ⟨by simp [Stop, sg_cons, ends], by unfold nxt; rw [skip_cons _ _ (by decide), sg_cons]; decide, by unfold nxt; rw [skip_cons _ _ (by decide), sg_cons]; decide⟩ hlen hsk2
      have hL3 : L = ((pre ++ [40]) ++ x.text) ++ 41 :: post := hL2
      have e1 : skip L ((pre ++ [40]).length + x.text.length) = (pre ++ [40]).length + x.text.length := by
        have := skip_head ((pre ++ [40]) ++ x.text) 41 post (by decide)
        rw [← hL3, List.length_append] at this
        exact this
      have e2 : sg L ((pre ++ [40]).length + x.text.length) = 41 := by
        have := sg_head ((pre ++ [40]) ++ x.text) 41 post
        rw [← hL3, List.length_append] at this
        exact this
      refine ⟨(pre ++ [40]).length + x.text.length + 1, ?_, ?_, ?_⟩
      · rw [piece_step L D i _ 40 hsk hs, if_neg (by decide), if_pos rfl, hm]
        unfold parP
        simp only [hms, e1, e2, if_true]
      · rw [hL2]; simp <;> omega
      · congr 1; simp <;> omega
    · rw [tP_low x hk6]
      have h' := h
      unfold FitP at h'
      rcases h' with ⟨h1, h2, h3⟩ | ⟨h0, h1, h2, h3⟩ | ⟨h1, h2, y, h3, h4⟩ | ⟨h1, _⟩ | ⟨h1, _⟩
      · obtain ⟨k, nm, l⟩ := x
        simp only at h1 h2 h3
        subst h2 h3
        match k, h1 with
        | 0, _ =>
          have ht : text ⟨0, [], []⟩ = [48] := by simp [text]
          rw [ht]
          refine ⟨?_, ⟨48, [], rfl, by decide⟩⟩
          intro pre post i hL hQ hi hsk
          have hs : sg L pre.length = 48 := by rw [hL, List.append_assoc]; exact sg_head pre 48 _
          exact ⟨pre.length + 1, by rw [piece_step L D i _ 48 hsk hs, if_neg (by decide), if_neg (by decide), if_pos rfl], by rw [hL]; simp, rfl⟩
        | 1, _ =>
          have ht : text ⟨1, [], []⟩ = [49] := by simp [text]
          rw [ht]
          refine ⟨?_, ⟨49, [], rfl, by decide⟩⟩
          intro pre post i hL hQ hi hsk
          have hs : sg L pre.length = 49 := by rw [hL, List.append_assoc]; exact sg_head pre 49 _
          exact ⟨pre.length + 1, by rw [piece_step L D i _ 49 hsk hs, if_neg (by decide), if_neg (by decide), if_neg (by decide), if_pos rfl], by rw [hL]; simp, rfl⟩
      · obtain ⟨k, nm, l⟩ := x
        simp only at h0 h1 h2 h3
        subst h3
        obtain ⟨hns, c, r, hc, hc1, hc2⟩ := name_signs nm h2
        match k, h0, h1 with
        | 2, _, _ =>
          have ht : text ⟨2, nm, []⟩ = nm := by simp [text]
          rw [ht]
          refine ⟨?_, ⟨c, r, hc, by omega⟩⟩
          intro pre post i hL hQ hi hsk
          have hs : sg L pre.length = c.toNat := by rw [hL, hc, List.append_assoc]; exact sg_head pre c _
          have hsk2 : skip L pre.length = pre.length := by rw [← hsk]; exact skip_twice L i hi
          exact ⟨pre.length + nm.length, by rw [piece_step L D i _ _ hsk hs, if_neg (by omega), if_neg (by omega), if_neg (by omega), if_neg (by omega), if_neg (by omega), if_neg (by omega)]; exact name_back L pre nm post 2 _ hL h2 hQ hsk2, by rw [hL]; simp <;> omega, rfl⟩
        | 3, _, _ =>
          have ht : text ⟨3, nm, []⟩ = 94 :: nm := by simp [text]
          rw [ht]
          refine ⟨?_, ⟨94, nm, rfl, by decide⟩⟩
          intro pre post i hL hQ hi hsk
          have hs : sg L pre.length = 94 := by rw [hL, List.append_assoc]; exact sg_head pre 94 _
          have hL2 : L = (pre ++ [94]) ++ nm ++ post := by rw [hL]; simp
          have hsk2 : skip L (pre.length + 1) = (pre ++ [94]).length := by
            have := skip_head (pre ++ [94]) c (r ++ post) (by omega)
            rw [show (pre ++ [94]) ++ c :: (r ++ post) = L from by rw [hL2, hc]; simp] at this
            simpa using this
          exact ⟨pre.length + (94 :: nm).length, by rw [piece_step L D i _ 94 hsk hs, if_neg (by decide), if_neg (by decide), if_neg (by decide), if_neg (by decide), if_pos rfl, name_back L (pre ++ [94]) nm post 3 _ hL2 h2 hQ hsk2]; congr 2; simp <;> omega, by rw [hL]; simp <;> omega, rfl⟩
        | 4, _, _ =>
          have ht : text ⟨4, nm, []⟩ = 126 :: nm := by simp [text]
          rw [ht]
          refine ⟨?_, ⟨126, nm, rfl, by decide⟩⟩
          intro pre post i hL hQ hi hsk
          have hs : sg L pre.length = 126 := by rw [hL, List.append_assoc]; exact sg_head pre 126 _
          have hL2 : L = (pre ++ [126]) ++ nm ++ post := by rw [hL]; simp
          have hsk2 : skip L (pre.length + 1) = (pre ++ [126]).length := by
            have := skip_head (pre ++ [126]) c (r ++ post) (by omega)
            rw [show (pre ++ [126]) ++ c :: (r ++ post) = L from by rw [hL2, hc]; simp] at this
            simpa using this
          exact ⟨pre.length + (126 :: nm).length, by rw [piece_step L D i _ 126 hsk hs, if_neg (by decide), if_neg (by decide), if_neg (by decide), if_neg (by decide), if_neg (by decide), if_pos rfl, name_back L (pre ++ [126]) nm post 4 _ hL2 h2 hQ hsk2]; congr 2; simp <;> omega, by rw [hL]; simp <;> omega, rfl⟩
      · have ht : x.text = 33 :: tP y := by
          conv => lhs; rw [eta x 5 h1 h2, h3]
          rw [text5]; rfl
        have hy := ih y h4
        rw [ht]
        refine ⟨?_, ⟨33, _, rfl, by decide⟩⟩
        intro pre post i hL hQ hi hsk
        have hs : sg L pre.length = 33 := by rw [hL, List.append_assoc]; exact sg_head pre 33 _
        have hL2 : L = (pre ++ [33]) ++ tP y ++ post := by rw [hL]; simp
        obtain ⟨c, r, hc, hc32⟩ := hy.2
        have hsk2 : skip L (pre.length + 1) = (pre ++ [33]).length := by
          have := skip_head (pre ++ [33]) c (r ++ post) hc32
          rw [show (pre ++ [33]) ++ c :: (r ++ post) = L from by rw [hL2, hc]; simp] at this
          simpa using this
        have hlen : pre.length + 1 ≤ L.length := by rw [hL]; simp <;> omega
        obtain ⟨m, hm, hml, hms⟩ := hy.1 (pre ++ [33]) post (pre.length + 1) hL2 hQ hlen hsk2
        refine ⟨m, ?_, hml, ?_⟩
        · rw [piece_step L D i _ 33 hsk hs, if_pos rfl, hm]
          unfold notP
          simp only
          rw [eta x 5 h1 h2, h3]
        · rw [hms]; congr 1; simp; omega
      · omega
      · omega
/-- WHAT AN EXPRESSION's TEXT TELLS IS THAT EXPRESSION AGAIN -/
theorem parse_back (l : List UInt8) (x : Ex) (h : parse l = .inr x) (hlen : x.text.length ≤ 2000) : parse x.text = .inr x := by
  have hf := parse_fit l x h
  have hW := whole_back x.text 20 (piece_back x.text 20) x hf
  obtain ⟨c, r, hc, hc32⟩ := hW.2
  have hsk : skip x.text 0 = ([] : List UInt8).length := by rw [hc]; exact skip_cons c r hc32
  obtain ⟨m, hm, hml, hms⟩ := hW.1 [] [] 0 (by simp) ⟨by simp [Stop, sg, ends], by simp [nxt, sg, skip], by simp [nxt, sg, skip]⟩ (Nat.zero_le _) hsk
  unfold parse
  rw [if_neg (by omega), hm]
  simp only
  rw [hms]
  have : skip x.text (([] : List UInt8).length + x.text.length) = x.text.length := by simp [skip_end]
  rw [this, if_neg (by omega)]
end Ex
end Go.Proofs.YtmchohajfgemcaaDoor
