/-
  The region in which the statement LassoTurns makes the turned word, whichever order is drawn.
-/
import Derived.Test.YtmdblokmplbpmaaDoorLsTurnR
namespace Go.Proofs.YtmdblokmplbpmaaDoor
namespace Ls
open Go.RowKit
/-- the slots that the region fills -/
def sl8 : List Nat := [57, 60, 65, 66, 67, 71, 76, 77, 78, 10]
/-- slots with these values -/
def fr (tm : Array Value) (s : Nat → Value) : Array Value := tm.mapIdx fun i v => if sl8.contains i then s i else v
theorem fr_size (tm : Array Value) (s : Nat → Value) : (fr tm s).size = tm.size := by simp [fr]
theorem fr_get (tm : Array Value) (s : Nat → Value) (k : Nat) (h : k < tm.size) : (fr tm s).getD k undef = if sl8.contains k then s k else tm.getD k undef := by
  rw [Array.getD_eq_getD_getElem?, Array.getD_eq_getD_getElem?]
  unfold fr
  rw [Array.getElem?_mapIdx, Array.getElem?_eq_getElem h]
  rfl
theorem fr_in (tm : Array Value) (s : Nat → Value) (k : Nat) (h : k < tm.size) (hk : sl8.contains k = true) : (fr tm s).getD k undef = s k := by rw [fr_get tm s k h, if_pos hk]
theorem fr_out (tm : Array Value) (s : Nat → Value) (k : Nat) (h : k < tm.size) (hk : sl8.contains k = false) : (fr tm s).getD k undef = tm.getD k undef := by rw [fr_get tm s k h, if_neg (by rw [hk]; decide)]
theorem fr_at (tm : Array Value) (s : Nat → Value) (i : Nat) : (fr tm s)[i]? = (tm[i]?).map fun v => if sl8.contains i then s i else v := by
  unfold fr
  rw [Array.getElem?_mapIdx]
theorem fr_put (tm : Array Value) (s : Nat → Value) (d : Nat) (v : Value) (hd : sl8.contains d = true) : (fr tm s).setIfInBounds d v = fr tm (upS s d v) := by
  apply Array.ext_getElem?
  intro i
  rw [Array.getElem?_setIfInBounds, fr_at, fr_at]
  by_cases h : d = i
  · subst h
    rw [if_pos rfl, fr_size, hd]
    by_cases hl : d < tm.size
    · rw [if_pos hl, Array.getElem?_eq_getElem hl]
      simp [upS]
    · rw [if_neg hl, Array.getElem?_eq_none (by omega)]
      rfl
  · rw [if_neg h]
    have : upS s d v i = s i := by unfold upS; rw [if_neg (fun e => h e.symm)]
    rw [this]
theorem fr_self (tm : Array Value) : fr tm (fun k => tm.getD k undef) = tm := by
  apply Array.ext_getElem?
  intro i
  rw [fr_at]
  cases h : tm[i]? with
  | none => rfl
  | some v =>
    have : tm.getD i undef = v := by rw [Array.getD_eq_getD_getElem?, h]; rfl
    rw [Option.map_some, this]
    split <;> rfl
theorem sets_at (s : Nat → Value) : ∀ (l : List Nat) (t : Array Value) (i : Nat), (l.foldl (fun t k => t.setIfInBounds k (s k)) t)[i]? = (t[i]?).map fun v => if l.contains i then s i else v
  | [], t, i => by simp
  | k :: r, t, i => by
    rw [List.foldl_cons, sets_at s r, Array.getElem?_setIfInBounds, List.contains_cons]
    by_cases hk : k = i
    · subst hk
      rw [if_pos rfl]
      by_cases hl : k < t.size
      · rw [if_pos hl, Array.getElem?_eq_getElem hl]
        simp
      · rw [if_neg hl, Array.getElem?_eq_none (by omega)]
        rfl
    · have : (i == k) = false := by simpa using fun e => hk e.symm
      rw [if_neg hk, this, Bool.false_or]
theorem fr_sets (tm : Array Value) (s : Nat → Value) : fr tm s = ((((((((((tm.setIfInBounds 57 (s 57)).setIfInBounds 60 (s 60)).setIfInBounds 65 (s 65)).setIfInBounds 66 (s 66)).setIfInBounds 67 (s 67)).setIfInBounds 71 (s 71)).setIfInBounds 76 (s 76)).setIfInBounds 77 (s 77)).setIfInBounds 78 (s 78)).setIfInBounds 10 (s 10)) := by
  apply Array.ext_getElem?
  intro i
  have e : sl8.foldl (fun t k => t.setIfInBounds k (s k)) tm = ((((((((((tm.setIfInBounds 57 (s 57)).setIfInBounds 60 (s 60)).setIfInBounds 65 (s 65)).setIfInBounds 66 (s 66)).setIfInBounds 67 (s 67)).setIfInBounds 71 (s 71)).setIfInBounds 76 (s 76)).setIfInBounds 77 (s 77)).setIfInBounds 78 (s 78)).setIfInBounds 10 (s 10)) := by simp only [sl8, List.foldl_cons, List.foldl_nil]
  rw [fr_at, ← e]
  exact (sets_at s sl8 tm i).symm
theorem put_fr (tm : Array Value) (s : Nat → Value) (df : _) (d : Nat) (v : Value) (hd : sl8.contains d = true) : (⟨fr tm s, df⟩ : Act).put (some d) v = ⟨fr tm (upS s d v), df⟩ := by
  show (⟨(fr tm s).setIfInBounds d v, df⟩ : Act) = _
  rw [fr_put tm s d v hd]
theorem own1_slice {B : Nat} {W : World} {c : Nat} {v : Value} {xs : List Value} (h : Own1 B W c v xs) : ∃ a n k, v = .slice a n k := by
  obtain ⟨cap, h1, _, _⟩ := h
  exact ⟨_, _, _, h1⟩
theorem below_app {W0 W W' : World} {c : Nat} {v : Value} {xs : List Value} (hb : Below W0.heap.size W0 W) (h : Own1 W0.heap.size W c v xs) (hg : W.grownBy W' (some c)) : Below W0.heap.size W0 W' := by
  obtain ⟨cap, rfl, h2, _⟩ := h
  exact below_grown (v := .slice (some ⟨c, 0, none⟩) xs.length cap) hb hg (ownBlock_new h2)
def tk8 : List Nat := [1, 2, 4, 5, 6, 7, 11, 12, 13, 15, 16, 17, 18]
theorem up_get (l : Array Bool) (i : Nat) (hi : i < l.size) : (fun j => (l.setIfInBounds i true).getD j false) = up (fun j => l.getD j false) i := by
  funext j
  exact getD_set l i j false hi
set_option maxHeartbeats 4000000 in
set_option maxRecDepth 100000 in
theorem region8 {ops : Array Oper} {Q : Exit → Act → World → Prop} {S : World → Prop} (tm : Array Value) (df : _) (W0 : World) (ua us : List Value) (u0 av rv1 : Value) (l0 : Array Bool) (fuel : Nat)
    (hsz : ops.size = 24) (htm : tm.size = 189) (hl0 : l0.size = 24) (hlt : ∀ j, j < 24 → l0.getD j false = tk8.contains j) (hfu : (still 24 l0).length ≤ fuel)
    (hfw : ∀ (j : Nat) o, ops[j]? = some o → ∀ e ∈ o.after, e.on < j)
    (r3 : ∀ l, 3 ∈ Region.ready .any ops l → l.getD 0 false = true)
    (r9 : ∀ l, 9 ∈ Region.ready .any ops l → l.getD 3 false = true ∧ l.getD 8 false = true)
    (r14 : ∀ l, 14 ∈ Region.ready .any ops l → l.getD 9 false = true ∧ l.getD 10 false = true)
    (r20 : ∀ l, 20 ∈ Region.ready .any ops l → l.getD 14 false = true ∧ l.getD 19 false = true)
    (r21 : ∀ l, 21 ∈ Region.ready .any ops l → l.getD 20 false = true)
    (r23 : ∀ l, 23 ∈ Region.ready .any ops l → l.getD 21 false = true ∧ l.getD 22 false = true)
    (x0 : ∀ (a : Act) (w : World) (K : Act → World → Prop), K (a.put (some 57) (.slice (some ⟨w.heap.size, 0, none⟩) 0 0)) (w.alloc (.cells #[] 58)) → wpOp Tryd.prog ops Q 0 K a w)
    (x10 : ∀ (a : Act) (w : World) (K : Act → World → Prop), K (a.put (some 67) (.slice (some ⟨w.heap.size, 0, none⟩) 0 0)) (w.alloc (.cells #[] 58)) → wpOp Tryd.prog ops Q 10 K a w)
    (x8 : ∀ (a : Act) (w : World) (K : Act → World → Prop), a.tmps.getD 64 undef = u0 → K (a.put (some 65) (.slice (some ⟨w.heap.size, 0, none⟩) 1 1)) (w.alloc (.cells #[u0] 58)) → wpOp Tryd.prog ops Q 8 K a w)
    (x19 : ∀ (a : Act) (w : World) (K : Act → World → Prop), a.tmps.getD 75 undef = u0 → K (a.put (some 76) (.slice (some ⟨w.heap.size, 0, none⟩) 1 1)) (w.alloc (.cells #[u0] 58)) → wpOp Tryd.prog ops Q 19 K a w)
    (x22 : ∀ (a : Act) (w : World) (K : Act → World → Prop), K (a.put (some 10) (.pointer (some ⟨w.heap.size, 0, none⟩))) (w.alloc (.cells #[.slice none 0 0, .slice none 0 0] 24)) → wpOp Tryd.prog ops Q 22 K a w)
    (x3 : ∀ (a : Act) (w : World) (K : Act → World → Prop) (vp vq v' : Value) (w' : World), a.tmps.getD 57 undef = vp → a.tmps.getD 59 undef = vq → (Builtin.append_ #[22, 22] 22 #[vp, vq]).run Tryd.prog w = .ok v' w' → K (a.put (some 60) v') w' → wpOp Tryd.prog ops Q 3 K a w)
    (x9 : ∀ (a : Act) (w : World) (K : Act → World → Prop) (vp vq v' : Value) (w' : World), a.tmps.getD 60 undef = vp → a.tmps.getD 65 undef = vq → (Builtin.append_ #[22, 22] 22 #[vp, vq]).run Tryd.prog w = .ok v' w' → K (a.put (some 66) v') w' → wpOp Tryd.prog ops Q 9 K a w)
    (x14 : ∀ (a : Act) (w : World) (K : Act → World → Prop) (vp vq v' : Value) (w' : World), a.tmps.getD 67 undef = vp → a.tmps.getD 70 undef = vq → (Builtin.append_ #[22, 22] 22 #[vp, vq]).run Tryd.prog w = .ok v' w' → K (a.put (some 71) v') w' → wpOp Tryd.prog ops Q 14 K a w)
    (x20 : ∀ (a : Act) (w : World) (K : Act → World → Prop) (vp vq v' : Value) (w' : World), a.tmps.getD 71 undef = vp → a.tmps.getD 76 undef = vq → (Builtin.append_ #[22, 22] 22 #[vp, vq]).run Tryd.prog w = .ok v' w' → K (a.put (some 77) v') w' → wpOp Tryd.prog ops Q 20 K a w)
    (x21 : ∀ (a : Act) (w : World) (K : Act → World → Prop) (vp vq : Value), (∃ c n k, vp = .slice c n k) → (∃ c n k, vq = .slice c n k) → a.tmps.getD 66 undef = vp → a.tmps.getD 77 undef = vq → K (a.put (some 78) (.agg #[vp, vq])) w → wpOp Tryd.prog ops Q 21 K a w)
    (x23 : ∀ (a : Act) (w : World) (K : Act → World → Prop) (b : Nat) (vp vq : Value), (∃ c n k, vp = .slice c n k) → (∃ c n k, vq = .slice c n k) → a.tmps.getD 10 undef = .pointer (some ⟨b, 0, none⟩) → a.tmps.getD 78 undef = .agg #[vp, vq] → RowIs w b 24 [.slice none 0 0, .slice none 0 0] → K a ((w.setCell ⟨b, 0, none⟩ vp).setCell ⟨b, 1, none⟩ vq) → wpOp Tryd.prog ops Q 23 K a w)
    (v59 : tm.getD 59 undef = av) (v64 : tm.getD 64 undef = u0) (v70 : tm.getD 70 undef = rv1) (v75 : tm.getD 75 undef = u0)
    (hVA : Vals W0 av ua) (hVR : Vals W0 rv1 us) (hsa : ∀ u, u ∈ ua → ∃ a n c, u = Value.slice a n c) (hsr : ∀ u, u ∈ us → ∃ a n c, u = Value.slice a n c) (hs0 : ∃ a n c, u0 = Value.slice a n c) (hua : ua.length ≤ 100) (hus : us.length ≤ 100)
    (hS : ∀ W, Below W0.heap.size W0 W → S W)
    (hcont : ∀ (s : Nat → Value) (W : World) (c1 c2 b : Nat), Below W0.heap.size W0 W → Own1 W0.heap.size W c1 (s 66) (ua ++ [u0]) → Own1 W0.heap.size W c2 (s 77) (us ++ [u0]) → s 10 = .pointer (some ⟨b, 0, none⟩) → W.cell? ⟨b, 0, none⟩ = some (s 66) → W.cell? ⟨b, 1, none⟩ = some (s 77) → Q .normal ⟨fr tm s, df⟩ W) :
    wpAnyH Tryd.prog .any ops Q S fuel l0 ⟨tm, df⟩ W0 := by
  have hone : ∀ u, u ∈ [u0] → ∃ a n c, u = Value.slice a n c := fun u hu => by obtain rfl := List.mem_singleton.1 hu; exact hs0
  refine wpAnyH_inv (fun l a W => l.size = 24 ∧ (∀ j, tk8.contains j = true → l.getD j false = true) ∧ Below W0.heap.size W0 W ∧ ∃ s c1 c2 g1 g2 b, a = ⟨fr tm s, df⟩ ∧ (l.getD 22 false = true → W0.heap.size ≤ b) ∧ B8 W0.heap.size ua us u0 (fun j => l.getD j false) s W c1 c2 g1 g2 b) hfw (fun l a w h => by rw [hsz]; exact h.1) (fun l a w h => hS w h.2.2.1) ?_ ?_ fuel l0 ⟨tm, df⟩ W0 (by rw [hsz]; exact hfu) ?_
  · rintro l a W ⟨_, _, hb, s, c1, c2, g1, g2, b, rfl, _, h⟩ hall
    rw [hsz] at hall
    exact hcont s W c1 c2 b hb (h.F9 (hall 9 (by omega))) (h.F20 (hall 20 (by omega))) (h.F22 (hall 22 (by omega))) (h.F23 (hall 23 (by omega))).1 (h.F23 (hall 23 (by omega))).2
  · rintro l a W i ⟨hls, htk, hb, s, c1, c2, g1, g2, b, rfl, hb22, h⟩ hi h0 hrd
    rw [hsz] at hi
    have htk' : ∀ j, tk8.contains j = true → (l.setIfInBounds i true).getD j false = true := fun j hj => by
      rw [getD_set l i j false (by omega)]
      split
      · rfl
      · exact htk j hj
    have hup := up_get l i (by omega)
    have hsl : (l.setIfInBounds i true).size = 24 := by simp [hls]
    have hBW := hb.size
    have hb22' : i ≠ 22 → (l.setIfInBounds i true).getD 22 false = true → W0.heap.size ≤ b := fun hne h => hb22 (by rw [getD_set l i 22 false (by omega), if_neg (fun e => hne e.symm)] at h; exact h)
    have ev : ∀ k, sl8.contains k = true → k < 189 → (fr tm s).getD k undef = s k := fun k hk hl => fr_in tm s k (by omega) hk
    have eo : ∀ k, sl8.contains k = false → k < 189 → (fr tm s).getD k undef = tm.getD k undef := fun k hk hl => fr_out tm s k (by omega) hk
    match i, hi with
    | 0, _ =>
      refine x0 _ W _ ?_
      rw [put_fr tm s df 57 _ (by decide)]
      refine ⟨hsl, htk', then_ hb (newB _ _), _, W.heap.size, c2, g1, g2, b, rfl, hb22' (by decide), ?_⟩
      rw [hup]
      exact s8_0 h hBW h0
    | 1, _ =>
      exact absurd (htk 1 (by decide)) (by rw [h0]; decide)
    | 2, _ =>
      exact absurd (htk 2 (by decide)) (by rw [h0]; decide)
    | 3, _ =>
      have k0 : l.getD 0 false = true := r3 l hrd
      obtain ⟨c', v', W', e1, e2, e3, e4⟩ := own_append (h.F0 k0 h0) (hVA.below hb) hsa hBW (by simp) (by omega)
      refine x3 _ W _ _ _ v' W' (ev 57 (by decide) (by decide)) ((eo 59 (by decide) (by decide)).trans v59) e1 ?_
      rw [put_fr tm s df 60 _ (by decide)]
      refine ⟨hsl, htk', below_app hb (h.F0 k0 h0) e3, _, c', c2, g1, g2, b, rfl, hb22' (by decide), ?_⟩
      rw [hup]
      exact s8_3 h h0 k0 e2 e3 e4
    | 4, _ =>
      exact absurd (htk 4 (by decide)) (by rw [h0]; decide)
    | 5, _ =>
      exact absurd (htk 5 (by decide)) (by rw [h0]; decide)
    | 6, _ =>
      exact absurd (htk 6 (by decide)) (by rw [h0]; decide)
    | 7, _ =>
      exact absurd (htk 7 (by decide)) (by rw [h0]; decide)
    | 8, _ =>
      refine x8 _ W _ ((eo 64 (by decide) (by decide)).trans v64) ?_
      rw [put_fr tm s df 65 _ (by decide)]
      refine ⟨hsl, htk', then_ hb (newB _ _), _, c1, c2, W.heap.size, g2, b, rfl, hb22' (by decide), ?_⟩
      rw [hup]
      exact s8_8 h h0
    | 9, _ =>
      obtain ⟨k3, k8⟩ := r9 l hrd
      have f8 := h.F8 k8 h0
      obtain ⟨c', v', W', e1, e2, e3, e4⟩ := own_append (h.F3 k3 h0) (row_vals f8.2) hone hBW (by omega) (by simp)
      refine x9 _ W _ _ _ v' W' (ev 60 (by decide) (by decide)) ((ev 65 (by decide) (by decide)).trans f8.1) e1 ?_
      rw [put_fr tm s df 66 _ (by decide)]
      refine ⟨hsl, htk', below_app hb (h.F3 k3 h0) e3, _, c', c2, g1, g2, b, rfl, hb22' (by decide), ?_⟩
      rw [hup]
      exact s8_9 h h0 k3 k8 e2 e3 e4
    | 10, _ =>
      refine x10 _ W _ ?_
      rw [put_fr tm s df 67 _ (by decide)]
      refine ⟨hsl, htk', then_ hb (newB _ _), _, c1, W.heap.size, g1, g2, b, rfl, hb22' (by decide), ?_⟩
      rw [hup]
      exact s8_10 h hBW h0
    | 11, _ =>
      exact absurd (htk 11 (by decide)) (by rw [h0]; decide)
    | 12, _ =>
      exact absurd (htk 12 (by decide)) (by rw [h0]; decide)
    | 13, _ =>
      exact absurd (htk 13 (by decide)) (by rw [h0]; decide)
    | 14, _ =>
      obtain ⟨k9, k10⟩ := r14 l hrd
      obtain ⟨c', v', W', e1, e2, e3, e4⟩ := own_append (h.F10 k10 h0) (hVR.below hb) hsr hBW (by simp) (by omega)
      refine x14 _ W _ _ _ v' W' (ev 67 (by decide) (by decide)) ((eo 70 (by decide) (by decide)).trans v70) e1 ?_
      rw [put_fr tm s df 71 _ (by decide)]
      refine ⟨hsl, htk', below_app hb (h.F10 k10 h0) e3, _, c1, c', g1, g2, b, rfl, hb22' (by decide), ?_⟩
      rw [hup]
      exact s8_14 h h0 k9 k10 e2 e3 e4
    | 15, _ =>
      exact absurd (htk 15 (by decide)) (by rw [h0]; decide)
    | 16, _ =>
      exact absurd (htk 16 (by decide)) (by rw [h0]; decide)
    | 17, _ =>
      exact absurd (htk 17 (by decide)) (by rw [h0]; decide)
    | 18, _ =>
      exact absurd (htk 18 (by decide)) (by rw [h0]; decide)
    | 19, _ =>
      refine x19 _ W _ ((eo 75 (by decide) (by decide)).trans v75) ?_
      rw [put_fr tm s df 76 _ (by decide)]
      refine ⟨hsl, htk', then_ hb (newB _ _), _, c1, c2, g1, W.heap.size, b, rfl, hb22' (by decide), ?_⟩
      rw [hup]
      exact s8_19 h h0
    | 20, _ =>
      obtain ⟨k14, k19⟩ := r20 l hrd
      have f19 := h.F19 k19 h0
      obtain ⟨c', v', W', e1, e2, e3, e4⟩ := own_append (h.F14 k14 h0) (row_vals f19.2) hone hBW (by omega) (by simp)
      refine x20 _ W _ _ _ v' W' (ev 71 (by decide) (by decide)) ((ev 76 (by decide) (by decide)).trans f19.1) e1 ?_
      rw [put_fr tm s df 77 _ (by decide)]
      refine ⟨hsl, htk', below_app hb (h.F14 k14 h0) e3, _, c1, c', g1, g2, b, rfl, hb22' (by decide), ?_⟩
      rw [hup]
      exact s8_20 h h0 k14 k19 e2 e3 e4
    | 21, _ =>
      have k20 := r21 l hrd
      have k9 := (h.d14 (h.d20 k20).1).1
      refine x21 _ W _ _ _ (own1_slice (h.F9 k9)) (own1_slice (h.F20 k20)) (ev 66 (by decide) (by decide)) (ev 77 (by decide) (by decide)) ?_
      rw [put_fr tm s df 78 _ (by decide)]
      refine ⟨hsl, htk', hb, _, c1, c2, g1, g2, b, rfl, hb22' (by decide), ?_⟩
      rw [hup]
      exact s8_21 h h0 k20
    | 22, _ =>
      refine x22 _ W _ ?_
      rw [put_fr tm s df 10 _ (by decide)]
      refine ⟨hsl, htk', then_ hb (newB _ _), _, c1, c2, g1, g2, W.heap.size, rfl, fun _ => hBW, ?_⟩
      rw [hup]
      exact s8_22 h h0
    | 23, _ =>
      obtain ⟨k21, k22⟩ := r23 l hrd
      have k20 := h.d21 k21
      have k9 := (h.d14 (h.d20 k20).1).1
      refine x23 _ W _ b _ _ (own1_slice (h.F9 k9)) (own1_slice (h.F20 k20)) ((ev 10 (by decide) (by decide)).trans (h.F22 k22)) ((ev 78 (by decide) (by decide)).trans (h.F21 k21)) (h.F22r k22 h0) ?_
      refine ⟨hsl, htk', (hb.setCell (hb22 k22) _).setCell (hb22 k22) _, s, c1, c2, g1, g2, b, rfl, hb22' (by decide), ?_⟩
      rw [hup]
      exact s8_23 h h0 k21 k22
    | n + 24, hn => omega
  · refine ⟨hl0, fun j hj => ?_, Below.refl _ _, (fun k => tm.getD k undef), 0, 0, 0, 0, 0, by rw [fr_self], ?_, ?_⟩
    · have hj24 : j < 24 := by
        have := List.contains_iff_mem.1 hj
        simp [tk8] at this
        omega
      rw [hlt j hj24]; exact hj
    · intro h22
      rw [hlt 22 (by omega)] at h22
      cases h22
    · have nt : ∀ j, j < 24 → tk8.contains j = false → ∀ {p : Prop}, l0.getD j false = true → p := fun j hj hn p h => by rw [hlt j hj, hn] at h; cases h
      refine { p1 := fun x => nt 0 (by decide) (by decide) x, p2 := fun x => nt 10 (by decide) (by decide) x, pb := fun x => nt 22 (by decide) (by decide) x, q1 := fun x => nt 8 (by decide) (by decide) x, q2 := fun x => nt 19 (by decide) (by decide) x, e12 := fun x _ => nt 0 (by decide) (by decide) x, e1a := fun x _ _ => nt 0 (by decide) (by decide) x, e1b := fun x _ _ => nt 0 (by decide) (by decide) x, e1c := fun x _ => nt 0 (by decide) (by decide) x, e2b := fun x _ _ => nt 10 (by decide) (by decide) x, e2c := fun x _ => nt 10 (by decide) (by decide) x, F0 := fun x _ => nt 0 (by decide) (by decide) x, F3 := fun x _ => nt 3 (by decide) (by decide) x, F9 := fun x => nt 9 (by decide) (by decide) x, F8 := fun x _ => nt 8 (by decide) (by decide) x, F10 := fun x _ => nt 10 (by decide) (by decide) x, F14 := fun x _ => nt 14 (by decide) (by decide) x, F20 := fun x => nt 20 (by decide) (by decide) x, F19 := fun x _ => nt 19 (by decide) (by decide) x, F21 := fun x => nt 21 (by decide) (by decide) x, F22 := fun x => nt 22 (by decide) (by decide) x, F22r := fun x _ => nt 22 (by decide) (by decide) x, d3 := fun x => nt 3 (by decide) (by decide) x, d9 := fun x => nt 9 (by decide) (by decide) x, d14 := fun x => nt 14 (by decide) (by decide) x, d20 := fun x => nt 20 (by decide) (by decide) x, d21 := fun x => nt 21 (by decide) (by decide) x, d23 := fun x => nt 23 (by decide) (by decide) x, F23 := fun x => nt 23 (by decide) (by decide) x }
end Ls
end Go.Proofs.YtmdblokmplbpmaaDoor
