/-
  The region in which the statement LassoTurns makes the word whose round is written twice, whichever order is drawn.
-/
import Derived.Test.YtdkfbnokbjliiaaDoorLsTurn8
namespace Go.Proofs.YtdkfbnokbjliiaaDoor
namespace Ls
open Go.RowKit
structure B9 (B : Nat) (ur : List Value) (av : Value) (f : Nat → Bool) (s : Nat → Value) (W : World) (c b : Nat) : Prop where
  p1 : f 2 = true → c < W.heap.size
  pb : f 10 = true → b < W.heap.size
  e : f 2 = true → f 10 = true → c ≠ b
  F2 : f 2 = true → f 5 = false → Own1 B W c (s 81) []
  F5 : f 5 = true → f 8 = false → Own1 B W c (s 84) ur
  F8 : f 8 = true → Own1 B W c (s 87) (ur ++ ur)
  F9 : f 9 = true → s 88 = .agg #[av, s 87]
  F10 : f 10 = true → s 11 = .pointer (some ⟨b, 0, none⟩)
  F10r : f 10 = true → f 11 = false → RowIs W b 24 [.slice none 0 0, .slice none 0 0]
  d5 : f 5 = true → f 2 = true
  d8 : f 8 = true → f 5 = true
  d9 : f 9 = true → f 8 = true
  d11 : f 11 = true → f 9 = true ∧ f 10 = true
  F11 : f 11 = true → W.cell? ⟨b, 0, none⟩ = some av ∧ W.cell? ⟨b, 1, none⟩ = some (s 87)
section
variable {B : Nat} {ur : List Value} {av : Value}
theorem s9_2 {f : Nat → Bool} {s : Nat → Value} {W : World} {c b : Nat} (h : B9 B ur av f s W c b) (hB : B ≤ W.heap.size) (h0 : f 2 = false) : B9 B ur av (up f 2) (upS s 81 (.slice (some ⟨W.heap.size, 0, none⟩) 0 0)) (W.alloc (.cells #[] 34)) W.heap.size b := by
  refine { p1 := fun _ => lt_new, pb := fun x => lt_al (h.pb x), e := fun _ y => Nat.ne_of_gt (h.pb y), F2 := fun _ _ => own_empty B W hB, F5 := fun x _ => ff h0 (h.d5 x), F8 := fun x => ff h0 (h.d5 (h.d8 x)), F9 := fun x => h.F9 x, F10 := fun x => h.F10 x, F10r := fun x y => (h.F10r x y).alloc _, d5 := fun _ => rfl, d8 := fun x => h.d8 x, d9 := fun x => h.d9 x, d11 := fun x => h.d11 x, F11 := fun x => ⟨cell_alloc_keep _ _ _ _ (h.F11 x).1, cell_alloc_keep _ _ _ _ (h.F11 x).2⟩ }
theorem s9_10 {f : Nat → Bool} {s : Nat → Value} {W : World} {c b : Nat} (h : B9 B ur av f s W c b) (h0 : f 10 = false) : B9 B ur av (up f 10) (upS s 11 (.pointer (some ⟨W.heap.size, 0, none⟩))) (W.alloc (.cells #[.slice none 0 0, .slice none 0 0] 24)) c W.heap.size := by
  refine { p1 := fun x => lt_al (h.p1 x), pb := fun _ => lt_new, e := fun x _ => Nat.ne_of_lt (h.p1 x), F2 := fun x y => (h.F2 x y).below (newB _ _), F5 := fun x y => (h.F5 x y).below (newB _ _), F8 := fun x => (h.F8 x).below (newB _ _), F9 := fun x => h.F9 x, F10 := fun _ => rfl, F10r := fun _ _ => RowIs.new W 24 [.slice none 0 0, .slice none 0 0], d5 := fun x => h.d5 x, d8 := fun x => h.d8 x, d9 := fun x => h.d9 x, d11 := fun x => ⟨(h.d11 x).1, rfl⟩, F11 := fun x => ff h0 (h.d11 x).2 }
theorem s9_5 {f : Nat → Bool} {s : Nat → Value} {W : World} {c b : Nat} (h : B9 B ur av f s W c b) {W' : World} {c' : Nat} {v : Value} (h0 : f 5 = false) (k2 : f 2 = true) (hn : Own1 B W' c' v ur) (hg : W.grownBy W' (some c)) (hat : c' = c ∨ c' = W.heap.size) : B9 B ur av (up f 5) (upS s 84 v) W' c' b := by
  have nn : ∀ {d : Nat}, c ≠ d → d < W.heap.size → c' ≠ d := fun {d} h1 h2 => by rcases hat with e | e <;> omega
  have hlt : c' < W'.heap.size := by obtain ⟨_, _, _, hl⟩ := hn; exact hl
  refine { p1 := fun _ => hlt, pb := fun x => Nat.lt_of_lt_of_le (h.pb x) hg.size, e := fun _ y => nn (h.e k2 y) (h.pb y), F2 := fun _ y => ff (f := up f 5) y rfl, F5 := fun _ _ => hn, F8 := fun x => ff h0 (h.d8 x), F9 := fun x => ff h0 (h.d8 (h.d9 x)), F10 := fun x => h.F10 x, F10r := fun x y => row_grown (h.F10r x y) hg (h.e k2 x), d5 := fun _ => k2, d8 := fun _ => rfl, d9 := fun x => h.d9 x, d11 := fun x => h.d11 x, F11 := fun x => ff h0 (h.d8 (h.d9 (h.d11 x).1)) }
theorem s9_8 {f : Nat → Bool} {s : Nat → Value} {W : World} {c b : Nat} (h : B9 B ur av f s W c b) {W' : World} {c' : Nat} {v : Value} (h0 : f 8 = false) (k5 : f 5 = true) (hn : Own1 B W' c' v (ur ++ ur)) (hg : W.grownBy W' (some c)) (hat : c' = c ∨ c' = W.heap.size) : B9 B ur av (up f 8) (upS s 87 v) W' c' b := by
  have nn : ∀ {d : Nat}, c ≠ d → d < W.heap.size → c' ≠ d := fun {d} h1 h2 => by rcases hat with e | e <;> omega
  have hlt : c' < W'.heap.size := by obtain ⟨_, _, _, hl⟩ := hn; exact hl
  have k2 := h.d5 k5
  refine { p1 := fun _ => hlt, pb := fun x => Nat.lt_of_lt_of_le (h.pb x) hg.size, e := fun _ y => nn (h.e k2 y) (h.pb y), F2 := fun _ y => ff (f := f) y k5, F5 := fun _ y => ff (f := up f 8) y rfl, F8 := fun _ => hn, F9 := fun x => ff h0 (h.d9 x), F10 := fun x => h.F10 x, F10r := fun x y => row_grown (h.F10r x y) hg (h.e k2 x), d5 := fun x => h.d5 x, d8 := fun _ => k5, d9 := fun _ => rfl, d11 := fun x => h.d11 x, F11 := fun x => ff h0 (h.d9 (h.d11 x).1) }
theorem s9_9 {f : Nat → Bool} {s : Nat → Value} {W : World} {c b : Nat} (h : B9 B ur av f s W c b) (h0 : f 9 = false) (k8 : f 8 = true) : B9 B ur av (up f 9) (upS s 88 (.agg #[av, s 87])) W c b := by
  refine { p1 := fun x => h.p1 x, pb := fun x => h.pb x, e := fun x y => h.e x y, F2 := fun x y => h.F2 x y, F5 := fun x y => h.F5 x y, F8 := fun x => h.F8 x, F9 := fun _ => rfl, F10 := fun x => h.F10 x, F10r := fun x y => h.F10r x y, d5 := fun x => h.d5 x, d8 := fun x => h.d8 x, d9 := fun _ => k8, d11 := fun x => ⟨rfl, (h.d11 x).2⟩, F11 := fun x => ff h0 (h.d11 x).1 }
theorem s9_11 {f : Nat → Bool} {s : Nat → Value} {W : World} {c b : Nat} (h : B9 B ur av f s W c b) (h0 : f 11 = false) (k9 : f 9 = true) (k10 : f 10 = true) : B9 B ur av (up f 11) s ((W.setCell ⟨b, 0, none⟩ av).setCell ⟨b, 1, none⟩ (s 87)) c b := by
  have k8 := h.d9 k9
  have k5 := h.d8 k8
  have k2 := h.d5 k5
  have hr := ((h.F10r k10 h0).set 0 av).set 1 (s 87)
  have hc0 := hr.cell 0 _ rfl
  have hc1 := hr.cell 1 _ rfl
  refine { p1 := fun x => by rw [World.size_setCell, World.size_setCell]; exact h.p1 x, pb := fun x => by rw [World.size_setCell, World.size_setCell]; exact h.pb x, e := fun x y => h.e x y, F2 := fun _ y => ff (f := f) y k5, F5 := fun _ y => ff (f := f) y k8, F8 := fun x => ((h.F8 x).set (h.e k2 k10).symm).set (h.e k2 k10).symm, F9 := fun x => h.F9 x, F10 := fun x => h.F10 x, F10r := fun _ y => ff (f := up f 11) y rfl, d5 := fun x => h.d5 x, d8 := fun x => h.d8 x, d9 := fun x => h.d9 x, d11 := fun _ => ⟨k9, k10⟩, F11 := fun _ => ⟨hc0, hc1⟩ }
end
/-- the slots that the region fills -/
def sl9 : List Nat := [81, 84, 87, 88, 11]
/-- slots with these values -/
def fr9 (tm : Array Value) (s : Nat → Value) : Array Value := tm.mapIdx fun i v => if sl9.contains i then s i else v
theorem fr9_size (tm : Array Value) (s : Nat → Value) : (fr9 tm s).size = tm.size := by simp [fr9]
theorem fr9_get (tm : Array Value) (s : Nat → Value) (k : Nat) (h : k < tm.size) : (fr9 tm s).getD k undef = if sl9.contains k then s k else tm.getD k undef := by
  rw [Array.getD_eq_getD_getElem?, Array.getD_eq_getD_getElem?]
  unfold fr9
  rw [Array.getElem?_mapIdx, Array.getElem?_eq_getElem h]
  rfl
theorem fr9_in (tm : Array Value) (s : Nat → Value) (k : Nat) (h : k < tm.size) (hk : sl9.contains k = true) : (fr9 tm s).getD k undef = s k := by rw [fr9_get tm s k h, if_pos hk]
theorem fr9_out (tm : Array Value) (s : Nat → Value) (k : Nat) (h : k < tm.size) (hk : sl9.contains k = false) : (fr9 tm s).getD k undef = tm.getD k undef := by rw [fr9_get tm s k h, if_neg (by rw [hk]; decide)]
theorem fr9_at (tm : Array Value) (s : Nat → Value) (i : Nat) : (fr9 tm s)[i]? = (tm[i]?).map fun v => if sl9.contains i then s i else v := by
  unfold fr9
  rw [Array.getElem?_mapIdx]
theorem fr9_put (tm : Array Value) (s : Nat → Value) (d : Nat) (v : Value) (hd : sl9.contains d = true) : (fr9 tm s).setIfInBounds d v = fr9 tm (upS s d v) := by
  apply Array.ext_getElem?
  intro i
  rw [Array.getElem?_setIfInBounds, fr9_at, fr9_at]
  by_cases h : d = i
  · subst h
    rw [if_pos rfl, fr9_size, hd]
    by_cases hl : d < tm.size
    · rw [if_pos hl, Array.getElem?_eq_getElem hl]
      simp [upS]
    · rw [if_neg hl, Array.getElem?_eq_none (by omega)]
      rfl
  · rw [if_neg h]
    have : upS s d v i = s i := by unfold upS; rw [if_neg (fun e => h e.symm)]
    rw [this]
theorem fr9_self (tm : Array Value) : fr9 tm (fun k => tm.getD k undef) = tm := by
  apply Array.ext_getElem?
  intro i
  rw [fr9_at]
  cases h : tm[i]? with
  | none => rfl
  | some v =>
    have : tm.getD i undef = v := by rw [Array.getD_eq_getD_getElem?, h]; rfl
    rw [Option.map_some, this]
    split <;> rfl
theorem sets9_at (s : Nat → Value) : ∀ (l : List Nat) (t : Array Value) (i : Nat), (l.foldl (fun t k => t.setIfInBounds k (s k)) t)[i]? = (t[i]?).map fun v => if l.contains i then s i else v
  | [], t, i => by simp
  | k :: r, t, i => by
    rw [List.foldl_cons, sets9_at s r, Array.getElem?_setIfInBounds, List.contains_cons]
    by_cases hk : k = i
    · subst hk
      rw [if_pos rfl]
      by_cases hl : k < t.size
      · rw [if_pos hl, Array.getElem?_eq_getElem hl]
        simp
      · rw [if_neg hl, Array.getElem?_eq_none (by omega)]
        rfl
    · have : (i == k) = false := by simpa using fun e => hk e.symm
      rw [if_neg hk, this, Bool.false_or]
theorem fr9_sets (tm : Array Value) (s : Nat → Value) : fr9 tm s = (((((tm.setIfInBounds 81 (s 81)).setIfInBounds 84 (s 84)).setIfInBounds 87 (s 87)).setIfInBounds 88 (s 88)).setIfInBounds 11 (s 11)) := by
  apply Array.ext_getElem?
  intro i
  have e : sl9.foldl (fun t k => t.setIfInBounds k (s k)) tm = (((((tm.setIfInBounds 81 (s 81)).setIfInBounds 84 (s 84)).setIfInBounds 87 (s 87)).setIfInBounds 88 (s 88)).setIfInBounds 11 (s 11)) := by simp only [sl9, List.foldl_cons, List.foldl_nil]
  rw [fr9_at, ← e]
  exact (sets9_at s sl9 tm i).symm
theorem put9 (tm : Array Value) (s : Nat → Value) (df : _) (d : Nat) (v : Value) (hd : sl9.contains d = true) : (⟨fr9 tm s, df⟩ : Act).put (some d) v = ⟨fr9 tm (upS s d v), df⟩ := by
  show (⟨(fr9 tm s).setIfInBounds d v, df⟩ : Act) = _
  rw [fr9_put tm s d v hd]
def tk9 : List Nat := [0, 1, 3, 4, 6, 7]
set_option maxHeartbeats 4000000 in
set_option maxRecDepth 100000 in
theorem region9 {ops : Array Oper} {Q : Exit → Act → World → Prop} {S : World → Prop} (tm : Array Value) (df : _) (W0 : World) (ur : List Value) (av rv : Value) (l0 : Array Bool) (fuel : Nat)
    (hsz : ops.size = 12) (htm : tm.size = 189) (hl0 : l0.size = 12) (hlt : ∀ j, j < 12 → l0.getD j false = tk9.contains j) (hfu : (still 12 l0).length ≤ fuel)
    (hfw : ∀ (j : Nat) o, ops[j]? = some o → ∀ e ∈ o.after, e.on < j)
    (r5 : ∀ l, 5 ∈ Region.ready .any ops l → l.getD 2 false = true)
    (r8 : ∀ l, 8 ∈ Region.ready .any ops l → l.getD 5 false = true)
    (r9 : ∀ l, 9 ∈ Region.ready .any ops l → l.getD 8 false = true)
    (r11 : ∀ l, 11 ∈ Region.ready .any ops l → l.getD 9 false = true ∧ l.getD 10 false = true)
    (x2 : ∀ (a : Act) (w : World) (K : Act → World → Prop), K (a.put (some 81) (.slice (some ⟨w.heap.size, 0, none⟩) 0 0)) (w.alloc (.cells #[] 34)) → wpOp Tryd.prog ops Q 2 K a w)
    (x10 : ∀ (a : Act) (w : World) (K : Act → World → Prop), K (a.put (some 11) (.pointer (some ⟨w.heap.size, 0, none⟩))) (w.alloc (.cells #[.slice none 0 0, .slice none 0 0] 24)) → wpOp Tryd.prog ops Q 10 K a w)
    (x5 : ∀ (a : Act) (w : World) (K : Act → World → Prop) (vp vq v' : Value) (w' : World), a.tmps.getD 81 undef = vp → a.tmps.getD 83 undef = vq → (Builtin.append_ #[22, 22] 22 #[vp, vq]).run Tryd.prog w = .ok v' w' → K (a.put (some 84) v') w' → wpOp Tryd.prog ops Q 5 K a w)
    (x8 : ∀ (a : Act) (w : World) (K : Act → World → Prop) (vp vq v' : Value) (w' : World), a.tmps.getD 84 undef = vp → a.tmps.getD 86 undef = vq → (Builtin.append_ #[22, 22] 22 #[vp, vq]).run Tryd.prog w = .ok v' w' → K (a.put (some 87) v') w' → wpOp Tryd.prog ops Q 8 K a w)
    (x9 : ∀ (a : Act) (w : World) (K : Act → World → Prop) (vp vq : Value), (∃ c n k, vp = .slice c n k) → (∃ c n k, vq = .slice c n k) → a.tmps.getD 80 undef = vp → a.tmps.getD 87 undef = vq → K (a.put (some 88) (.agg #[vp, vq])) w → wpOp Tryd.prog ops Q 9 K a w)
    (x11 : ∀ (a : Act) (w : World) (K : Act → World → Prop) (b : Nat) (vp vq : Value), (∃ c n k, vp = .slice c n k) → (∃ c n k, vq = .slice c n k) → a.tmps.getD 11 undef = .pointer (some ⟨b, 0, none⟩) → a.tmps.getD 88 undef = .agg #[vp, vq] → RowIs w b 24 [.slice none 0 0, .slice none 0 0] → K a ((w.setCell ⟨b, 0, none⟩ vp).setCell ⟨b, 1, none⟩ vq) → wpOp Tryd.prog ops Q 11 K a w)
    (v80 : tm.getD 80 undef = av) (v83 : tm.getD 83 undef = rv) (v86 : tm.getD 86 undef = rv)
    (hVR : Vals W0 rv ur) (hsr : ∀ u, u ∈ ur → ∃ a n c, u = Value.slice a n c) (hav : ∃ c n k, av = Value.slice c n k) (hur : ur.length ≤ 100)
    (hS : ∀ W, Below W0.heap.size W0 W → S W)
    (hcont : ∀ (s : Nat → Value) (W : World) (c b : Nat), Below W0.heap.size W0 W → Own1 W0.heap.size W c (s 87) (ur ++ ur) → s 11 = .pointer (some ⟨b, 0, none⟩) → W.cell? ⟨b, 0, none⟩ = some av → W.cell? ⟨b, 1, none⟩ = some (s 87) → Q .normal ⟨fr9 tm s, df⟩ W) :
    wpAnyH Tryd.prog .any ops Q S fuel l0 ⟨tm, df⟩ W0 := by
  refine wpAnyH_inv (fun l a W => l.size = 12 ∧ (∀ j, tk9.contains j = true → l.getD j false = true) ∧ Below W0.heap.size W0 W ∧ ∃ s c b, a = ⟨fr9 tm s, df⟩ ∧ (l.getD 10 false = true → W0.heap.size ≤ b) ∧ B9 W0.heap.size ur av (fun j => l.getD j false) s W c b) hfw (fun l a w h => by rw [hsz]; exact h.1) (fun l a w h => hS w h.2.2.1) ?_ ?_ fuel l0 ⟨tm, df⟩ W0 (by rw [hsz]; exact hfu) ?_
  · rintro l a W ⟨_, _, hb, s, c, b, rfl, _, h⟩ hall
    rw [hsz] at hall
    exact hcont s W c b hb (h.F8 (hall 8 (by omega))) (h.F10 (hall 10 (by omega))) (h.F11 (hall 11 (by omega))).1 (h.F11 (hall 11 (by omega))).2
  · rintro l a W i ⟨hls, htk, hb, s, c, b, rfl, hb10, h⟩ hi h0 hrd
    rw [hsz] at hi
    have htk' : ∀ j, tk9.contains j = true → (l.setIfInBounds i true).getD j false = true := fun j hj => by
      rw [getD_set l i j false (by omega)]
      split
      · rfl
      · exact htk j hj
    have hup := up_get l i (by omega)
    have hsl : (l.setIfInBounds i true).size = 12 := by simp [hls]
    have hBW := hb.size
    have hb10' : i ≠ 10 → (l.setIfInBounds i true).getD 10 false = true → W0.heap.size ≤ b := fun hne h => hb10 (by rw [getD_set l i 10 false (by omega), if_neg (fun e => hne e.symm)] at h; exact h)
    have ev : ∀ k, sl9.contains k = true → k < 189 → (fr9 tm s).getD k undef = s k := fun k hk hl => fr9_in tm s k (by omega) hk
    have eo : ∀ k, sl9.contains k = false → k < 189 → (fr9 tm s).getD k undef = tm.getD k undef := fun k hk hl => fr9_out tm s k (by omega) hk
    match i, hi with
    | 0, _ =>
      exact absurd (htk 0 (by decide)) (by rw [h0]; decide)
    | 1, _ =>
      exact absurd (htk 1 (by decide)) (by rw [h0]; decide)
    | 2, _ =>
      refine x2 _ W _ ?_
      rw [put9 tm s df 81 _ (by decide)]
      refine ⟨hsl, htk', then_ hb (newB _ _), _, W.heap.size, b, rfl, hb10' (by decide), ?_⟩
      rw [hup]
      exact s9_2 h hBW h0
    | 3, _ =>
      exact absurd (htk 3 (by decide)) (by rw [h0]; decide)
    | 4, _ =>
      exact absurd (htk 4 (by decide)) (by rw [h0]; decide)
    | 5, _ =>
      have k2 : l.getD 2 false = true := r5 l hrd
      obtain ⟨c', v', W', e1, e2, e3, e4⟩ := own_append (h.F2 k2 h0) (hVR.below hb) hsr hBW (by simp) (by omega)
      refine x5 _ W _ _ _ v' W' (ev 81 (by decide) (by decide)) ((eo 83 (by decide) (by decide)).trans v83) e1 ?_
      rw [put9 tm s df 84 _ (by decide)]
      refine ⟨hsl, htk', below_app hb (h.F2 k2 h0) e3, _, c', b, rfl, hb10' (by decide), ?_⟩
      rw [hup]
      exact s9_5 h h0 k2 e2 e3 e4
    | 6, _ =>
      exact absurd (htk 6 (by decide)) (by rw [h0]; decide)
    | 7, _ =>
      exact absurd (htk 7 (by decide)) (by rw [h0]; decide)
    | 8, _ =>
      have k5 : l.getD 5 false = true := r8 l hrd
      obtain ⟨c', v', W', e1, e2, e3, e4⟩ := own_append (h.F5 k5 h0) (hVR.below hb) hsr hBW (by omega) (by omega)
      refine x8 _ W _ _ _ v' W' (ev 84 (by decide) (by decide)) ((eo 86 (by decide) (by decide)).trans v86) e1 ?_
      rw [put9 tm s df 87 _ (by decide)]
      refine ⟨hsl, htk', below_app hb (h.F5 k5 h0) e3, _, c', b, rfl, hb10' (by decide), ?_⟩
      rw [hup]
      exact s9_8 h h0 k5 e2 e3 e4
    | 9, _ =>
      have k8 := r9 l hrd
      refine x9 _ W _ _ _ hav (own1_slice (h.F8 k8)) ((eo 80 (by decide) (by decide)).trans v80) (ev 87 (by decide) (by decide)) ?_
      rw [put9 tm s df 88 _ (by decide)]
      refine ⟨hsl, htk', hb, _, c, b, rfl, hb10' (by decide), ?_⟩
      rw [hup]
      exact s9_9 h h0 k8
    | 10, _ =>
      refine x10 _ W _ ?_
      rw [put9 tm s df 11 _ (by decide)]
      refine ⟨hsl, htk', then_ hb (newB _ _), _, c, W.heap.size, rfl, fun _ => hBW, ?_⟩
      rw [hup]
      exact s9_10 h h0
    | 11, _ =>
      obtain ⟨k9, k10⟩ := r11 l hrd
      have k8 := h.d9 k9
      refine x11 _ W _ b _ _ hav (own1_slice (h.F8 k8)) ((ev 11 (by decide) (by decide)).trans (h.F10 k10)) ((ev 88 (by decide) (by decide)).trans (h.F9 k9)) (h.F10r k10 h0) ?_
      refine ⟨hsl, htk', (hb.setCell (hb10 k10) _).setCell (hb10 k10) _, s, c, b, rfl, hb10' (by decide), ?_⟩
      rw [hup]
      exact s9_11 h h0 k9 k10
    | n + 12, hn => omega
  · refine ⟨hl0, fun j hj => ?_, Below.refl _ _, (fun k => tm.getD k undef), 0, 0, by rw [fr9_self], ?_, ?_⟩
    · have hj24 : j < 12 := by
        have := List.contains_iff_mem.1 hj
        simp [tk9] at this
        omega
      rw [hlt j hj24]; exact hj
    · intro h22
      rw [hlt 10 (by omega)] at h22
      cases h22
    · have nt : ∀ j, j < 12 → tk9.contains j = false → ∀ {p : Prop}, l0.getD j false = true → p := fun j hj hn p h => by rw [hlt j hj, hn] at h; cases h
      refine { p1 := fun x => nt 2 (by decide) (by decide) x, pb := fun x => nt 10 (by decide) (by decide) x, e := fun x _ => nt 2 (by decide) (by decide) x, F2 := fun x _ => nt 2 (by decide) (by decide) x, F5 := fun x _ => nt 5 (by decide) (by decide) x, F8 := fun x => nt 8 (by decide) (by decide) x, F9 := fun x => nt 9 (by decide) (by decide) x, F10 := fun x => nt 10 (by decide) (by decide) x, F10r := fun x _ => nt 10 (by decide) (by decide) x, d5 := fun x => nt 5 (by decide) (by decide) x, d8 := fun x => nt 8 (by decide) (by decide) x, d9 := fun x => nt 9 (by decide) (by decide) x, d11 := fun x => nt 11 (by decide) (by decide) x, F11 := fun x => nt 11 (by decide) (by decide) x }
end Ls
end Go.Proofs.YtdkfbnokbjliiaaDoor
