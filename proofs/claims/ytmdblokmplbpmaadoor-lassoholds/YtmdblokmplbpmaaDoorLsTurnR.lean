/-
  Rows that are put together in whatever order is drawn: the words that the statement LassoTurns makes.
-/
import Derived.Test.YtmdblokmplbpmaaDoorLsInv
import Derived.Test.YtmdblokmplbpmaaDoorLsTimes
namespace Go.Proofs.YtmdblokmplbpmaaDoor
namespace Ls
open Go.RowKit
/-- an own row of rows, and the block that it lies in -/
def Own1 (B : Nat) (W : World) (c : Nat) (v : Value) (xs : List Value) : Prop := ∃ cap, v = .slice (some ⟨c, 0, none⟩) xs.length cap ∧ W.ownsRow B 58 1 v xs.length xs ∧ c < W.heap.size
theorem Own1.below {B : Nat} {W W' : World} {c : Nat} {v : Value} {xs : List Value} (h : Own1 B W c v xs) (hb : Below W.heap.size W W') : Own1 B W' c v xs := by
  obtain ⟨cap, h1, h2, h3⟩ := h
  exact ⟨cap, h1, own_below h2 hb, Nat.lt_of_lt_of_le h3 hb.size⟩
theorem Own1.grown {B : Nat} {W W' : World} {c d : Nat} {v : Value} {xs : List Value} (h : Own1 B W d v xs) (hg : W.grownBy W' (some c)) (hne : c ≠ d) : Own1 B W' d v xs := by
  obtain ⟨cap, rfl, h2, h3⟩ := h
  exact ⟨cap, rfl, h2.kept hg (.inr (by show some d ≠ some c; intro e; cases e; exact hne rfl)), Nat.lt_of_lt_of_le h3 hg.size⟩
theorem Own1.set {B : Nat} {W : World} {c d i : Nat} {v x : Value} {xs : List Value} (h : Own1 B W d v xs) (hne : c ≠ d) : Own1 B (W.setCell ⟨c, i, none⟩ x) d v xs := by
  obtain ⟨cap, rfl, h2, h3⟩ := h
  refine ⟨cap, rfl, ⟨h2.1, ?_⟩, by rw [World.size_setCell]; exact h3⟩
  rcases h2.2 with ⟨h, _⟩ | ⟨g', cap', cur, e1, e2, e3, e4⟩
  · cases h
  · refine .inr ⟨g', cap', cur, e1, e2, ?_, e4⟩
    simp only [Value.slice.injEq, Option.some.injEq, Addr.mk.injEq, and_true] at e1
    rw [Below.heap_setCell _ _ _ _ (fun e => hne (by have e' : g' = c := e; omega))]
    exact e3
theorem Own1.rows {B : Nat} {W : World} {c : Nat} {v : Value} {xs : List Value} {L : List (List (List UInt8))} (h : Own1 B W c v xs) (hl : L.length ≤ maxLen) (he : Each W xs L) : Rows W v L := by
  obtain ⟨cap, _, h2, _⟩ := h
  exact rows_own h2 hl he
theorem row_grown {W W' : World} {c g : Nat} {t : TypeId} {l : List Value} (h : RowIs W g t l) (hg : W.grownBy W' (some c)) (hne : c ≠ g) : RowIs W' g t l := (hg.block g h.lt (by intro e; cases e; exact hne rfl)).trans h
theorem own_empty (B : Nat) (W : World) (hB : B ≤ W.heap.size) : Own1 B (W.alloc (.cells #[] 58)) W.heap.size (.slice (some ⟨W.heap.size, 0, none⟩) 0 0) [] := ⟨0, rfl, own_zero W B _ 1 hB, by simp⟩
/-- rows are appended -/
theorem own_append {B : Nat} {W : World} {c : Nat} {v sv : Value} {xs us : List Value} (h : Own1 B W c v xs) (hs : Vals W sv us) (hsl : ∀ u, u ∈ us → ∃ a n c, u = Value.slice a n c) (hb : B ≤ W.heap.size) (hx : xs.length ≤ 1000) (hu : us.length ≤ 1000) :
    ∃ c' v' W', (Builtin.append_ #[22, 22] 22 #[v, sv]).run Tryd.prog W = .ok v' W' ∧ Own1 B W' c' v' (xs ++ us) ∧ W.grownBy W' (some c) ∧ (c' = c ∨ c' = W.heap.size) := by
  obtain ⟨i0, hi0, hz0, hz1, hz2⟩ := info_parts Tryd.infoNames
  obtain ⟨cap, rfl, hown, hlt⟩ := h
  obtain ⟨a, cc, rfl, hc⟩ := hs
  cases us with
  | nil => exact ⟨c, _, W, append_zero B _ _ _ i0 1 Tryd.underlying22 hi0 _ _ _ hown a cc, ⟨cap, by simp, by simpa using hown, hlt⟩, ⟨rfl, rfl, rfl, Nat.le_refl _, fun _ _ _ => rfl⟩, .inl rfl⟩
  | cons u0 ur =>
    obtain ⟨g, o, rfl, hcap, _⟩ := hc 0 u0 rfl
    obtain ⟨v', W', h1, h2, h3, h4, h5⟩ := run_append_own_at (P := Tryd.prog) W B 22 22 58 i0 _ 1 24 Tryd.underlying22 hi0 hz0 hz1 hz2 rfl (by decide) (.slice (some ⟨c, 0, none⟩) xs.length cap) xs.length xs hown ⟨g, o, none⟩ (u0 :: ur).length cc (u0 :: ur) (by simp) (fun j u hj => by
        obtain ⟨g', o', e1, _, e3⟩ := hc j u hj
        cases e1
        cases j <;> simpa [Addr.add] using e3) (fun u hu => by
        obtain ⟨a, n, c, rfl⟩ := hsl u hu
        rfl) (by unfold maxLen; omega) (by omega) hb
    have hv : ∃ c' cap', v' = .slice (some ⟨c', 0, none⟩) (xs.length + (u0 :: ur).length) cap' ∧ c' < W'.heap.size := by
      rcases h2.2 with ⟨h, h0⟩ | ⟨g', cap', cur, e1, e2, e3, _⟩
      · simp at h0
      · exact ⟨g', cap', e1, (Array.getElem?_eq_some_iff.1 e3).1⟩
    obtain ⟨c', cap', rfl, hl'⟩ := hv
    refine ⟨c', _, W', h1, ⟨cap', by rw [List.length_append], by rw [List.length_append]; exact h2, hl'⟩, h3, ?_⟩
    rcases h5 with h | h
    · exact .inl (by simpa [Value.ownBlock] using h)
    · exact .inr (by simpa [Value.ownBlock] using h)
theorem row_vals {W : World} {g : Nat} {t : TypeId} {us : List Value} (h : RowIs W g t us) : Vals W (.slice (some ⟨g, 0, none⟩) us.length us.length) us := ⟨_, _, rfl, fun k u hu => ⟨g, 0, rfl, Nat.le_refl _, by rw [Nat.zero_add]; exact h.cell k u hu⟩⟩
section
variable (B : Nat) (W0 : World) (T0 : Array Value) (ua us : List Value) (u0 : Value)
/-- what is told of the blocks, by which operations have come up -/
structure B8 (f : Nat → Bool) (s : Nat → Value) (W : World) (c1 c2 g1 g2 b : Nat) : Prop where
  p1 : f 0 = true → c1 < W.heap.size
  p2 : f 10 = true → c2 < W.heap.size
  pb : f 22 = true → b < W.heap.size
  q1 : f 8 = true → g1 < W.heap.size
  q2 : f 19 = true → g2 < W.heap.size
  e12 : f 0 = true → f 10 = true → c1 ≠ c2
  e1a : f 0 = true → f 8 = true → f 9 = false → c1 ≠ g1
  e1b : f 0 = true → f 19 = true → f 20 = false → c1 ≠ g2
  e1c : f 0 = true → f 22 = true → c1 ≠ b
  e2b : f 10 = true → f 19 = true → f 20 = false → c2 ≠ g2
  e2c : f 10 = true → f 22 = true → c2 ≠ b
  F0 : f 0 = true → f 3 = false → Own1 B W c1 (s 57) []
  F3 : f 3 = true → f 9 = false → Own1 B W c1 (s 60) ua
  F9 : f 9 = true → Own1 B W c1 (s 66) (ua ++ [u0])
  F8 : f 8 = true → f 9 = false → s 65 = .slice (some ⟨g1, 0, none⟩) 1 1 ∧ RowIs W g1 58 [u0]
  F10 : f 10 = true → f 14 = false → Own1 B W c2 (s 67) []
  F14 : f 14 = true → f 20 = false → Own1 B W c2 (s 71) us
  F20 : f 20 = true → Own1 B W c2 (s 77) (us ++ [u0])
  F19 : f 19 = true → f 20 = false → s 76 = .slice (some ⟨g2, 0, none⟩) 1 1 ∧ RowIs W g2 58 [u0]
  F21 : f 21 = true → s 78 = .agg #[s 66, s 77]
  F22 : f 22 = true → s 10 = .pointer (some ⟨b, 0, none⟩)
  F22r : f 22 = true → f 23 = false → RowIs W b 24 [.slice none 0 0, .slice none 0 0]
  d3 : f 3 = true → f 0 = true
  d9 : f 9 = true → f 3 = true ∧ f 8 = true
  d14 : f 14 = true → f 9 = true ∧ f 10 = true
  d20 : f 20 = true → f 14 = true ∧ f 19 = true
  d21 : f 21 = true → f 20 = true
  d23 : f 23 = true → f 21 = true ∧ f 22 = true
  F23 : f 23 = true → W.cell? ⟨b, 0, none⟩ = some (s 66) ∧ W.cell? ⟨b, 1, none⟩ = some (s 77)
end
section
variable {B : Nat} {ua us : List Value} {u0 : Value}
def up (f : Nat → Bool) (i : Nat) : Nat → Bool := fun j => if j = i then true else f j
def upS (s : Nat → Value) (d : Nat) (v : Value) : Nat → Value := fun k => if k = d then v else s k
theorem no {a b : Bool} {p : Prop} (h : a = true) (k : a = b) (hb : b = false) : p := by subst k; rw [h] at hb; cases hb
theorem ff {f : Nat → Bool} {i : Nat} {p : Prop} (h0 : f i = false) (h : f i = true) : p := by rw [h] at h0; cases h0
theorem lt_al {W : World} {o : Obj} {c : Nat} (h : c < W.heap.size) : c < (W.alloc o).heap.size := by simp; omega
theorem lt_new {W : World} {o : Obj} : W.heap.size < (W.alloc o).heap.size := by simp
theorem s8_0 {f : Nat → Bool} {s : Nat → Value} {W : World} {c1 c2 g1 g2 b : Nat} (h : B8 B ua us u0 f s W c1 c2 g1 g2 b) (hB : B ≤ W.heap.size) (h0 : f 0 = false) : B8 B ua us u0 (up f 0) (upS s 57 (.slice (some ⟨W.heap.size, 0, none⟩) 0 0)) (W.alloc (.cells #[] 58)) W.heap.size c2 g1 g2 b := by
  refine { p1 := fun _ => lt_new, p2 := fun x => lt_al (h.p2 x), pb := fun x => lt_al (h.pb x), q1 := fun x => lt_al (h.q1 x), q2 := fun x => lt_al (h.q2 x), e12 := fun _ y => Nat.ne_of_gt (h.p2 y), e1a := fun _ y _ => Nat.ne_of_gt (h.q1 y), e1b := fun _ y _ => Nat.ne_of_gt (h.q2 y), e1c := fun _ y => Nat.ne_of_gt (h.pb y), e2b := fun x y z => h.e2b x y z, e2c := fun x y => h.e2c x y, F0 := fun _ _ => own_empty B W hB, F3 := fun x _ => ff h0 (h.d3 x), F9 := fun x => ff h0 (h.d3 (h.d9 x).1), F8 := fun x y => ⟨(h.F8 x y).1, (h.F8 x y).2.alloc _⟩, F10 := fun x y => (h.F10 x y).below (newB _ _), F14 := fun x y => (h.F14 x y).below (newB _ _), F20 := fun x => (h.F20 x).below (newB _ _), F19 := fun x y => ⟨(h.F19 x y).1, (h.F19 x y).2.alloc _⟩, F21 := fun x => h.F21 x, F22 := fun x => h.F22 x, F22r := fun x y => (h.F22r x y).alloc _, d3 := fun _ => rfl, d9 := fun x => h.d9 x, d14 := fun x => h.d14 x, d20 := fun x => h.d20 x, d21 := fun x => h.d21 x, d23 := fun x => h.d23 x, F23 := fun x => ⟨cell_alloc_keep _ _ _ _ (h.F23 x).1, cell_alloc_keep _ _ _ _ (h.F23 x).2⟩ }
theorem s8_8 {f : Nat → Bool} {s : Nat → Value} {W : World} {c1 c2 g1 g2 b : Nat} (h : B8 B ua us u0 f s W c1 c2 g1 g2 b) (_h0 : f 8 = false) : B8 B ua us u0 (up f 8) (upS s 65 (.slice (some ⟨W.heap.size, 0, none⟩) 1 1)) (W.alloc (.cells #[u0] 58)) c1 c2 W.heap.size g2 b := by
  refine { p1 := fun x => lt_al (h.p1 x), p2 := fun x => lt_al (h.p2 x), pb := fun x => lt_al (h.pb x), q1 := fun _ => lt_new, q2 := fun x => lt_al (h.q2 x), e12 := fun x y => h.e12 x y, e1a := fun x _ _ => Nat.ne_of_lt (h.p1 x), e1b := fun x y z => h.e1b x y z, e1c := fun x y => h.e1c x y, e2b := fun x y z => h.e2b x y z, e2c := fun x y => h.e2c x y, F0 := fun x y => (h.F0 x y).below (newB _ _), F3 := fun x y => (h.F3 x y).below (newB _ _), F9 := fun x => (h.F9 x).below (newB _ _), F8 := fun _ _ => ⟨rfl, RowIs.new W 58 [u0]⟩, F10 := fun x y => (h.F10 x y).below (newB _ _), F14 := fun x y => (h.F14 x y).below (newB _ _), F20 := fun x => (h.F20 x).below (newB _ _), F19 := fun x y => ⟨(h.F19 x y).1, (h.F19 x y).2.alloc _⟩, F21 := fun x => h.F21 x, F22 := fun x => h.F22 x, F22r := fun x y => (h.F22r x y).alloc _, d3 := fun x => h.d3 x, d9 := fun x => ⟨(h.d9 x).1, rfl⟩, d14 := fun x => h.d14 x, d20 := fun x => h.d20 x, d21 := fun x => h.d21 x, d23 := fun x => h.d23 x, F23 := fun x => ⟨cell_alloc_keep _ _ _ _ (h.F23 x).1, cell_alloc_keep _ _ _ _ (h.F23 x).2⟩ }
theorem s8_10 {f : Nat → Bool} {s : Nat → Value} {W : World} {c1 c2 g1 g2 b : Nat} (h : B8 B ua us u0 f s W c1 c2 g1 g2 b) (hB : B ≤ W.heap.size) (h0 : f 10 = false) : B8 B ua us u0 (up f 10) (upS s 67 (.slice (some ⟨W.heap.size, 0, none⟩) 0 0)) (W.alloc (.cells #[] 58)) c1 W.heap.size g1 g2 b := by
  refine { p1 := fun x => lt_al (h.p1 x), p2 := fun _ => lt_new, pb := fun x => lt_al (h.pb x), q1 := fun x => lt_al (h.q1 x), q2 := fun x => lt_al (h.q2 x), e12 := fun x _ => Nat.ne_of_lt (h.p1 x), e1a := fun x y z => h.e1a x y z, e1b := fun x y z => h.e1b x y z, e1c := fun x y => h.e1c x y, e2b := fun _ y _ => Nat.ne_of_gt (h.q2 y), e2c := fun _ y => Nat.ne_of_gt (h.pb y), F0 := fun x y => (h.F0 x y).below (newB _ _), F3 := fun x y => (h.F3 x y).below (newB _ _), F9 := fun x => (h.F9 x).below (newB _ _), F8 := fun x y => ⟨(h.F8 x y).1, (h.F8 x y).2.alloc _⟩, F10 := fun _ _ => own_empty B W hB, F14 := fun x _ => ff h0 (h.d14 x).2, F20 := fun x => ff h0 (h.d14 (h.d20 x).1).2, F19 := fun x y => ⟨(h.F19 x y).1, (h.F19 x y).2.alloc _⟩, F21 := fun x => h.F21 x, F22 := fun x => h.F22 x, F22r := fun x y => (h.F22r x y).alloc _, d3 := fun x => h.d3 x, d9 := fun x => h.d9 x, d14 := fun x => ⟨(h.d14 x).1, rfl⟩, d20 := fun x => h.d20 x, d21 := fun x => h.d21 x, d23 := fun x => h.d23 x, F23 := fun x => ⟨cell_alloc_keep _ _ _ _ (h.F23 x).1, cell_alloc_keep _ _ _ _ (h.F23 x).2⟩ }
theorem s8_19 {f : Nat → Bool} {s : Nat → Value} {W : World} {c1 c2 g1 g2 b : Nat} (h : B8 B ua us u0 f s W c1 c2 g1 g2 b) (_h0 : f 19 = false) : B8 B ua us u0 (up f 19) (upS s 76 (.slice (some ⟨W.heap.size, 0, none⟩) 1 1)) (W.alloc (.cells #[u0] 58)) c1 c2 g1 W.heap.size b := by
  refine { p1 := fun x => lt_al (h.p1 x), p2 := fun x => lt_al (h.p2 x), pb := fun x => lt_al (h.pb x), q1 := fun x => lt_al (h.q1 x), q2 := fun _ => lt_new, e12 := fun x y => h.e12 x y, e1a := fun x y z => h.e1a x y z, e1b := fun x _ _ => Nat.ne_of_lt (h.p1 x), e1c := fun x y => h.e1c x y, e2b := fun x _ _ => Nat.ne_of_lt (h.p2 x), e2c := fun x y => h.e2c x y, F0 := fun x y => (h.F0 x y).below (newB _ _), F3 := fun x y => (h.F3 x y).below (newB _ _), F9 := fun x => (h.F9 x).below (newB _ _), F8 := fun x y => ⟨(h.F8 x y).1, (h.F8 x y).2.alloc _⟩, F10 := fun x y => (h.F10 x y).below (newB _ _), F14 := fun x y => (h.F14 x y).below (newB _ _), F20 := fun x => (h.F20 x).below (newB _ _), F19 := fun _ _ => ⟨rfl, RowIs.new W 58 [u0]⟩, F21 := fun x => h.F21 x, F22 := fun x => h.F22 x, F22r := fun x y => (h.F22r x y).alloc _, d3 := fun x => h.d3 x, d9 := fun x => h.d9 x, d14 := fun x => h.d14 x, d20 := fun x => ⟨(h.d20 x).1, rfl⟩, d21 := fun x => h.d21 x, d23 := fun x => h.d23 x, F23 := fun x => ⟨cell_alloc_keep _ _ _ _ (h.F23 x).1, cell_alloc_keep _ _ _ _ (h.F23 x).2⟩ }
theorem s8_22 {f : Nat → Bool} {s : Nat → Value} {W : World} {c1 c2 g1 g2 b : Nat} (h : B8 B ua us u0 f s W c1 c2 g1 g2 b) (h0 : f 22 = false) : B8 B ua us u0 (up f 22) (upS s 10 (.pointer (some ⟨W.heap.size, 0, none⟩))) (W.alloc (.cells #[.slice none 0 0, .slice none 0 0] 24)) c1 c2 g1 g2 W.heap.size := by
  refine { p1 := fun x => lt_al (h.p1 x), p2 := fun x => lt_al (h.p2 x), pb := fun _ => lt_new, q1 := fun x => lt_al (h.q1 x), q2 := fun x => lt_al (h.q2 x), e12 := fun x y => h.e12 x y, e1a := fun x y z => h.e1a x y z, e1b := fun x y z => h.e1b x y z, e1c := fun x _ => Nat.ne_of_lt (h.p1 x), e2b := fun x y z => h.e2b x y z, e2c := fun x _ => Nat.ne_of_lt (h.p2 x), F0 := fun x y => (h.F0 x y).below (newB _ _), F3 := fun x y => (h.F3 x y).below (newB _ _), F9 := fun x => (h.F9 x).below (newB _ _), F8 := fun x y => ⟨(h.F8 x y).1, (h.F8 x y).2.alloc _⟩, F10 := fun x y => (h.F10 x y).below (newB _ _), F14 := fun x y => (h.F14 x y).below (newB _ _), F20 := fun x => (h.F20 x).below (newB _ _), F19 := fun x y => ⟨(h.F19 x y).1, (h.F19 x y).2.alloc _⟩, F21 := fun x => h.F21 x, F22 := fun _ => rfl, F22r := fun _ _ => RowIs.new W 24 [.slice none 0 0, .slice none 0 0], d3 := fun x => h.d3 x, d9 := fun x => h.d9 x, d14 := fun x => h.d14 x, d20 := fun x => h.d20 x, d21 := fun x => h.d21 x, d23 := fun x => ⟨(h.d23 x).1, rfl⟩, F23 := fun x => ff h0 (h.d23 x).2 }
theorem s8_3 {f : Nat → Bool} {s : Nat → Value} {W : World} {c1 c2 g1 g2 b : Nat} (h : B8 B ua us u0 f s W c1 c2 g1 g2 b) {W' : World} {c' : Nat} {v : Value} (h0 : f 3 = false) (k0 : f 0 = true) (hn : Own1 B W' c' v ua) (hg : W.grownBy W' (some c1)) (hat : c' = c1 ∨ c' = W.heap.size) : B8 B ua us u0 (up f 3) (upS s 60 v) W' c' c2 g1 g2 b := by
  have nn : ∀ {d : Nat}, c1 ≠ d → d < W.heap.size → c' ≠ d := fun {d} h1 h2 => by rcases hat with e | e <;> omega
  have hlt : c' < W'.heap.size := by obtain ⟨_, _, _, hl⟩ := hn; exact hl
  refine { p1 := fun _ => hlt, p2 := fun x => Nat.lt_of_lt_of_le (h.p2 x) hg.size, pb := fun x => Nat.lt_of_lt_of_le (h.pb x) hg.size, q1 := fun x => Nat.lt_of_lt_of_le (h.q1 x) hg.size, q2 := fun x => Nat.lt_of_lt_of_le (h.q2 x) hg.size, e12 := fun _ y => nn (h.e12 k0 y) (h.p2 y), e1a := fun _ y z => nn (h.e1a k0 y z) (h.q1 y), e1b := fun _ y z => nn (h.e1b k0 y z) (h.q2 y), e1c := fun _ y => nn (h.e1c k0 y) (h.pb y), e2b := fun x y z => h.e2b x y z, e2c := fun x y => h.e2c x y, F0 := fun _ y => ff (f := up f 3) y rfl, F3 := fun _ _ => hn, F9 := fun x => ff h0 (h.d9 x).1, F8 := fun x y => ⟨(h.F8 x y).1, row_grown (h.F8 x y).2 hg (h.e1a k0 x y)⟩, F10 := fun x y => (h.F10 x y).grown hg (h.e12 k0 x), F14 := fun x _ => ff h0 (h.d9 (h.d14 x).1).1, F20 := fun x => ff h0 (h.d9 (h.d14 (h.d20 x).1).1).1, F19 := fun x y => ⟨(h.F19 x y).1, row_grown (h.F19 x y).2 hg (h.e1b k0 x y)⟩, F21 := fun x => h.F21 x, F22 := fun x => h.F22 x, F22r := fun x y => row_grown (h.F22r x y) hg (h.e1c k0 x), d3 := fun _ => k0, d9 := fun x => ⟨rfl, (h.d9 x).2⟩, d14 := fun x => h.d14 x, d20 := fun x => h.d20 x, d21 := fun x => h.d21 x, d23 := fun x => h.d23 x, F23 := fun x => ff h0 (h.d9 (h.d14 (h.d20 (h.d21 (h.d23 x).1)).1).1).1 }
theorem s8_9 {f : Nat → Bool} {s : Nat → Value} {W : World} {c1 c2 g1 g2 b : Nat} (h : B8 B ua us u0 f s W c1 c2 g1 g2 b) {W' : World} {c' : Nat} {v : Value} (h0 : f 9 = false) (k3 : f 3 = true) (k8 : f 8 = true) (hn : Own1 B W' c' v (ua ++ [u0])) (hg : W.grownBy W' (some c1)) (hat : c' = c1 ∨ c' = W.heap.size) : B8 B ua us u0 (up f 9) (upS s 66 v) W' c' c2 g1 g2 b := by
  have nn : ∀ {d : Nat}, c1 ≠ d → d < W.heap.size → c' ≠ d := fun {d} h1 h2 => by rcases hat with e | e <;> omega
  have hlt : c' < W'.heap.size := by obtain ⟨_, _, _, hl⟩ := hn; exact hl
  have k0 := h.d3 k3
  refine { p1 := fun _ => hlt, p2 := fun x => Nat.lt_of_lt_of_le (h.p2 x) hg.size, pb := fun x => Nat.lt_of_lt_of_le (h.pb x) hg.size, q1 := fun x => Nat.lt_of_lt_of_le (h.q1 x) hg.size, q2 := fun x => Nat.lt_of_lt_of_le (h.q2 x) hg.size, e12 := fun _ y => nn (h.e12 k0 y) (h.p2 y), e1a := fun _ _ z => ff (f := up f 9) z rfl, e1b := fun _ y z => nn (h.e1b k0 y z) (h.q2 y), e1c := fun _ y => nn (h.e1c k0 y) (h.pb y), e2b := fun x y z => h.e2b x y z, e2c := fun x y => h.e2c x y, F0 := fun x y => (ff (f := f) y k3 : _), F3 := fun _ y => ff (f := up f 9) y rfl, F9 := fun _ => hn, F8 := fun _ y => ff (f := up f 9) y rfl, F10 := fun x y => (h.F10 x y).grown hg (h.e12 k0 x), F14 := fun x _ => ff h0 (h.d14 x).1, F20 := fun x => ff h0 (h.d14 (h.d20 x).1).1, F19 := fun x y => ⟨(h.F19 x y).1, row_grown (h.F19 x y).2 hg (h.e1b k0 x y)⟩, F21 := fun x => ff h0 (h.d14 (h.d20 (h.d21 x)).1).1, F22 := fun x => h.F22 x, F22r := fun x y => row_grown (h.F22r x y) hg (h.e1c k0 x), d3 := fun x => h.d3 x, d9 := fun _ => ⟨k3, k8⟩, d14 := fun x => ⟨rfl, (h.d14 x).2⟩, d20 := fun x => h.d20 x, d21 := fun x => h.d21 x, d23 := fun x => h.d23 x, F23 := fun x => ff h0 (h.d14 (h.d20 (h.d21 (h.d23 x).1)).1).1 }
theorem s8_14 {f : Nat → Bool} {s : Nat → Value} {W : World} {c1 c2 g1 g2 b : Nat} (h : B8 B ua us u0 f s W c1 c2 g1 g2 b) {W' : World} {c' : Nat} {v : Value} (h0 : f 14 = false) (k9 : f 9 = true) (k10 : f 10 = true) (hn : Own1 B W' c' v us) (hg : W.grownBy W' (some c2)) (hat : c' = c2 ∨ c' = W.heap.size) : B8 B ua us u0 (up f 14) (upS s 71 v) W' c1 c' g1 g2 b := by
  have nn : ∀ {d : Nat}, c2 ≠ d → d < W.heap.size → c' ≠ d := fun {d} h1 h2 => by rcases hat with e | e <;> omega
  have hlt : c' < W'.heap.size := by obtain ⟨_, _, _, hl⟩ := hn; exact hl
  have k0 := h.d3 (h.d9 k9).1
  refine { p1 := fun x => Nat.lt_of_lt_of_le (h.p1 x) hg.size, p2 := fun _ => hlt, pb := fun x => Nat.lt_of_lt_of_le (h.pb x) hg.size, q1 := fun x => Nat.lt_of_lt_of_le (h.q1 x) hg.size, q2 := fun x => Nat.lt_of_lt_of_le (h.q2 x) hg.size, e12 := fun x _ => (nn (h.e12 x k10).symm (h.p1 x)).symm, e1a := fun x y z => h.e1a x y z, e1b := fun x y z => h.e1b x y z, e1c := fun x y => h.e1c x y, e2b := fun _ y z => nn (h.e2b k10 y z) (h.q2 y), e2c := fun _ y => nn (h.e2c k10 y) (h.pb y), F0 := fun _ y => ff (f := f) y (h.d9 k9).1, F3 := fun _ y => ff (f := f) y k9, F9 := fun x => (h.F9 x).grown hg (h.e12 k0 k10).symm, F8 := fun _ y => ff (f := f) y k9, F10 := fun _ y => ff (f := up f 14) y rfl, F14 := fun _ _ => hn, F20 := fun x => ff h0 (h.d20 x).1, F19 := fun x y => ⟨(h.F19 x y).1, row_grown (h.F19 x y).2 hg (h.e2b k10 x y)⟩, F21 := fun x => ff h0 (h.d20 (h.d21 x)).1, F22 := fun x => h.F22 x, F22r := fun x y => row_grown (h.F22r x y) hg (h.e2c k10 x), d3 := fun x => h.d3 x, d9 := fun x => h.d9 x, d14 := fun _ => ⟨k9, k10⟩, d20 := fun x => ⟨rfl, (h.d20 x).2⟩, d21 := fun x => h.d21 x, d23 := fun x => h.d23 x, F23 := fun x => ff h0 (h.d20 (h.d21 (h.d23 x).1)).1 }
theorem s8_20 {f : Nat → Bool} {s : Nat → Value} {W : World} {c1 c2 g1 g2 b : Nat} (h : B8 B ua us u0 f s W c1 c2 g1 g2 b) {W' : World} {c' : Nat} {v : Value} (h0 : f 20 = false) (k14 : f 14 = true) (k19 : f 19 = true) (hn : Own1 B W' c' v (us ++ [u0])) (hg : W.grownBy W' (some c2)) (hat : c' = c2 ∨ c' = W.heap.size) : B8 B ua us u0 (up f 20) (upS s 77 v) W' c1 c' g1 g2 b := by
  have nn : ∀ {d : Nat}, c2 ≠ d → d < W.heap.size → c' ≠ d := fun {d} h1 h2 => by rcases hat with e | e <;> omega
  have hlt : c' < W'.heap.size := by obtain ⟨_, _, _, hl⟩ := hn; exact hl
  have k9 := (h.d14 k14).1
  have k10 := (h.d14 k14).2
  have k0 := h.d3 (h.d9 k9).1
  refine { p1 := fun x => Nat.lt_of_lt_of_le (h.p1 x) hg.size, p2 := fun _ => hlt, pb := fun x => Nat.lt_of_lt_of_le (h.pb x) hg.size, q1 := fun x => Nat.lt_of_lt_of_le (h.q1 x) hg.size, q2 := fun x => Nat.lt_of_lt_of_le (h.q2 x) hg.size, e12 := fun x _ => (nn (h.e12 x k10).symm (h.p1 x)).symm, e1a := fun x y z => h.e1a x y z, e1b := fun _ _ z => ff (f := up f 20) z rfl, e1c := fun x y => h.e1c x y, e2b := fun _ _ z => ff (f := up f 20) z rfl, e2c := fun _ y => nn (h.e2c k10 y) (h.pb y), F0 := fun _ y => ff (f := f) y (h.d9 k9).1, F3 := fun _ y => ff (f := f) y k9, F9 := fun x => (h.F9 x).grown hg (h.e12 k0 k10).symm, F8 := fun _ y => ff (f := f) y k9, F10 := fun _ y => ff (f := f) y k14, F14 := fun _ y => ff (f := up f 20) y rfl, F20 := fun _ => hn, F19 := fun _ y => ff (f := up f 20) y rfl, F21 := fun x => ff h0 (h.d21 x), F22 := fun x => h.F22 x, F22r := fun x y => row_grown (h.F22r x y) hg (h.e2c k10 x), d3 := fun x => h.d3 x, d9 := fun x => h.d9 x, d14 := fun x => h.d14 x, d20 := fun _ => ⟨k14, k19⟩, d21 := fun _ => rfl, d23 := fun x => h.d23 x, F23 := fun x => ff h0 (h.d21 (h.d23 x).1) }
theorem s8_21 {f : Nat → Bool} {s : Nat → Value} {W : World} {c1 c2 g1 g2 b : Nat} (h : B8 B ua us u0 f s W c1 c2 g1 g2 b) (h0 : f 21 = false) (k20 : f 20 = true) : B8 B ua us u0 (up f 21) (upS s 78 (.agg #[s 66, s 77])) W c1 c2 g1 g2 b := by
  refine { p1 := fun x => h.p1 x, p2 := fun x => h.p2 x, pb := fun x => h.pb x, q1 := fun x => h.q1 x, q2 := fun x => h.q2 x, e12 := fun x y => h.e12 x y, e1a := fun x y z => h.e1a x y z, e1b := fun x y z => h.e1b x y z, e1c := fun x y => h.e1c x y, e2b := fun x y z => h.e2b x y z, e2c := fun x y => h.e2c x y, F0 := fun x y => h.F0 x y, F3 := fun x y => h.F3 x y, F9 := fun x => h.F9 x, F8 := fun x y => h.F8 x y, F10 := fun x y => h.F10 x y, F14 := fun x y => h.F14 x y, F20 := fun x => h.F20 x, F19 := fun x y => h.F19 x y, F21 := fun _ => rfl, F22 := fun x => h.F22 x, F22r := fun x y => h.F22r x y, d3 := fun x => h.d3 x, d9 := fun x => h.d9 x, d14 := fun x => h.d14 x, d20 := fun x => h.d20 x, d21 := fun _ => k20, d23 := fun x => ⟨rfl, (h.d23 x).2⟩, F23 := fun x => ff h0 (h.d23 x).1 }
theorem s8_23 {f : Nat → Bool} {s : Nat → Value} {W : World} {c1 c2 g1 g2 b : Nat} (h : B8 B ua us u0 f s W c1 c2 g1 g2 b) (h0 : f 23 = false) (k21 : f 21 = true) (k22 : f 22 = true) : B8 B ua us u0 (up f 23) s ((W.setCell ⟨b, 0, none⟩ (s 66)).setCell ⟨b, 1, none⟩ (s 77)) c1 c2 g1 g2 b := by
  have k20 := h.d21 k21
  have k9 := (h.d14 (h.d20 k20).1).1
  have k10 := (h.d14 (h.d20 k20).1).2
  have k0 := h.d3 (h.d9 k9).1
  have hr := ((h.F22r k22 h0).set 0 (s 66)).set 1 (s 77)
  have hc0 := hr.cell 0 _ rfl
  have hc1 := hr.cell 1 _ rfl
  refine { p1 := fun x => by rw [World.size_setCell, World.size_setCell]; exact h.p1 x, p2 := fun x => by rw [World.size_setCell, World.size_setCell]; exact h.p2 x, pb := fun x => by rw [World.size_setCell, World.size_setCell]; exact h.pb x, q1 := fun x => by rw [World.size_setCell, World.size_setCell]; exact h.q1 x, q2 := fun x => by rw [World.size_setCell, World.size_setCell]; exact h.q2 x, e12 := fun x y => h.e12 x y, e1a := fun x y z => h.e1a x y z, e1b := fun x y z => h.e1b x y z, e1c := fun x y => h.e1c x y, e2b := fun x y z => h.e2b x y z, e2c := fun x y => h.e2c x y, F0 := fun _ y => ff (f := f) y (h.d9 k9).1, F3 := fun _ y => ff (f := f) y k9, F9 := fun x => ((h.F9 x).set (h.e1c k0 k22).symm).set (h.e1c k0 k22).symm, F8 := fun _ y => ff (f := f) y k9, F10 := fun _ y => ff (f := f) y (h.d20 k20).1, F14 := fun _ y => ff (f := f) y k20, F20 := fun x => ((h.F20 x).set (h.e2c k10 k22).symm).set (h.e2c k10 k22).symm, F19 := fun _ y => ff (f := f) y k20, F21 := fun x => h.F21 x, F22 := fun x => h.F22 x, F22r := fun _ y => ff (f := up f 23) y rfl, d3 := fun x => h.d3 x, d9 := fun x => h.d9 x, d14 := fun x => h.d14 x, d20 := fun x => h.d20 x, d21 := fun x => h.d21 x, d23 := fun _ => ⟨k21, k22⟩, F23 := fun _ => ⟨hc0, hc1⟩ }
end
end Ls
end Go.Proofs.YtmdblokmplbpmaaDoor
