/-
  Plain mathematics of chapter 1: reading goes forward, and stays within the text. Nothing of the program is named here. What the walks of package expr's reader go by: the reader's cells in memory; that all else is as it was. (Out of RdBase: no function is named.) Expressions in memory, as package expr lays them: an interface value; And and Or are rows of such. 'ok' says which blocks those rows may lie in. Programs in memory, as package ladder lays them: two slices; three cells a name, three a rung.
-/
import Derived.Test.YtkpfahbodlfpiaaGreatDoorNmWalkAll
import Derived.Deep.QuietTactic
import Derived.BigQuiet
import Derived.Deep.LoopGhost
import Derived.Lib.Bytealg
namespace Go.Proofs.YtkpfahbodlfpiaaGreatDoor
section
namespace Ex
/-- what is read ends behind where it began, within the text -/
def Adv (l : List UInt8) (r : Nat → Res Ex) : Prop := ∀ i x m, i ≤ l.length → r i = .inr (x, m) → i < m ∧ m ≤ l.length
theorem sg_lt (l : List UInt8) (i : Nat) (h : sg l i ≠ 32) : i < l.length := by
  unfold sg at h
  by_cases hi : i < l.length
  · exact hi
  · rw [if_neg hi] at h; exact absurd rfl h
theorem ends32 : ends 32 = true := by decide
theorem nameP_adv (l : List UInt8) (k : Nat) : Adv l (nameP l k) := by
  intro i x m hi h
  have h1 := skip_ge l i
  have h2 := skip_le l i hi
  unfold nameP at h
  simp only at h
  by_cases c1 : sg l (skip l i) = 48 ∨ sg l (skip l i) = 49 ∨ ends (sg l (skip l i)) = true
  · rw [if_pos c1] at h; cases h
  · rw [if_neg c1] at h
    by_cases c2 : Nm.name (cut l (skip l i) (wend l (skip l i))) = true
    · rw [if_pos c2] at h
      simp only [Sum.inr.injEq, Prod.mk.injEq] at h
      have hne : sg l (skip l i) ≠ 32 := fun e => c1 (.inr (.inr (by rw [e]; exact ends32)))
      have hlt := sg_lt l _ hne
      have hf : ends (l.getD (skip l i) 0).toNat = false := by
        have : ends (sg l (skip l i)) = false := by
          cases hb : ends (sg l (skip l i)) with
          | true => exact absurd (.inr (.inr hb)) c1
          | false => rfl
        simpa [sg, hlt] using this
      have h3 := wend_on l (skip l i) hlt hf
      have h4 := wend_ge l (skip l i + 1)
      have h5 := wend_le l (skip l i) (by omega)
      omega
    · rw [if_neg c2] at h; cases h
theorem listP_adv (l : List UInt8) (sep : Nat) (hs : sep ≠ 32) (r : Nat → Res Ex) (hr : Adv l r) :
    ∀ f i xs m, i ≤ l.length → listP l sep r f i = .inr (xs, m) → i < m ∧ m ≤ l.length ∧ xs ≠ [] := by
  intro f
  induction f with
  | zero => intro i xs m _ h; simp [listP] at h
  | succ f ih =>
    intro i xs m hi h
    unfold listP at h
    cases hri : r i with
    | inl e => rw [hri] at h; simp at h
    | inr p =>
      obtain ⟨x, j⟩ := p
      have ha := hr i x j hi hri
      have h1 := skip_ge l j
      have h2 := skip_le l j ha.2
      rw [hri] at h
      simp only at h
      by_cases c : sg l (skip l j) = sep
      · rw [if_pos c] at h
        have hlt := sg_lt l (skip l j) (by rw [c]; exact hs)
        cases hl : listP l sep r f (skip l j + 1) with
        | inl e => rw [hl] at h; simp at h
        | inr q =>
          obtain ⟨ys, k⟩ := q
          rw [hl] at h
          simp only [Sum.inr.injEq, Prod.mk.injEq] at h
          have := ih (skip l j + 1) ys k (by omega) hl
          refine ⟨by omega, by omega, ?_⟩
          rw [← h.1]; simp
      · rw [if_neg c] at h
        simp only [Sum.inr.injEq, Prod.mk.injEq] at h
        refine ⟨by omega, by omega, ?_⟩
        rw [← h.1]; simp
theorem made_inr (k : Nat) (r : Res (List Ex)) (x : Ex) (m : Nat) (h : made k r = .inr (x, m)) : ∃ xs, r = .inr (xs, m) := by
  match r, h with
  | .inr ([], _), h => simp only [made, Sum.inr.injEq, Prod.mk.injEq] at h; exact ⟨_, by rw [h.2]⟩
  | .inr ([y], _), h => simp only [made, Sum.inr.injEq, Prod.mk.injEq] at h; exact ⟨_, by rw [h.2]⟩
  | .inr (_ :: _ :: _, _), h => simp only [made, Sum.inr.injEq, Prod.mk.injEq] at h; exact ⟨_, by rw [h.2]⟩
theorem partP_adv (l : List UInt8) (r : Nat → Res Ex) (hr : Adv l r) : Adv l (partP l r) := by
  intro i x m hi h
  obtain ⟨xs, hx⟩ := made_inr _ _ _ _ h
  have := listP_adv l 38 (by decide) r hr _ i xs m hi hx
  omega
theorem wholeP_adv (l : List UInt8) (r : Nat → Res Ex) (hr : Adv l r) : Adv l (wholeP l r) := by
  intro i x m hi h
  obtain ⟨xs, hx⟩ := made_inr _ _ _ _ h
  have := listP_adv l 124 (by decide) _ (partP_adv l r hr) _ i xs m hi hx
  omega
theorem pieceP_adv (l : List UInt8) : ∀ d, Adv l (pieceP l d) := by
  intro d
  induction d with
  | zero => intro i x m _ h; simp [pieceP] at h
  | succ d ih =>
    intro i x m hi h
    have h1 := skip_ge l i
    have h2 := skip_le l i hi
    have low : sg l (skip l i) ≠ 32 → skip l i + 1 ≤ l.length := fun h => by have := sg_lt l _ h; omega
    unfold pieceP at h
    simp only at h
    by_cases c1 : sg l (skip l i) = 33
    · rw [if_pos c1] at h
      cases hp : pieceP l d (skip l i + 1) with
      | inl e => rw [hp] at h; simp [notP] at h
      | inr q =>
        obtain ⟨y, k⟩ := q
        rw [hp] at h
        simp only [notP, Sum.inr.injEq, Prod.mk.injEq] at h
        have := ih (skip l i + 1) y k (low (by omega)) hp
        omega
    rw [if_neg c1] at h
    by_cases c2 : sg l (skip l i) = 40
    · rw [if_pos c2] at h
      cases hp : wholeP l (pieceP l d) (skip l i + 1) with
      | inl e => rw [hp] at h; simp [parP] at h
      | inr q =>
        obtain ⟨y, k⟩ := q
        rw [hp] at h
        have ha := wholeP_adv l _ ih (skip l i + 1) y k (low (by omega)) hp
        have h3 := skip_ge l k
        unfold parP at h
        simp only at h
        by_cases c : sg l (skip l k) = 41
        · rw [if_pos c] at h
          simp only [Sum.inr.injEq, Prod.mk.injEq] at h
          have := sg_lt l (skip l k) (by omega)
          omega
        · rw [if_neg c] at h; simp at h
    rw [if_neg c2] at h
    by_cases c3 : sg l (skip l i) = 48
    · rw [if_pos c3] at h
      simp only [Sum.inr.injEq, Prod.mk.injEq] at h
      have := low (by omega)
      omega
    rw [if_neg c3] at h
    by_cases c4 : sg l (skip l i) = 49
    · rw [if_pos c4] at h
      simp only [Sum.inr.injEq, Prod.mk.injEq] at h
      have := low (by omega)
      omega
    rw [if_neg c4] at h
    by_cases c5 : sg l (skip l i) = 94
    · rw [if_pos c5] at h
      have := nameP_adv l 3 _ x m (low (by omega)) h
      omega
    rw [if_neg c5] at h
    by_cases c6 : sg l (skip l i) = 126
    · rw [if_pos c6] at h
      have := nameP_adv l 4 _ x m (low (by omega)) h
      omega
    rw [if_neg c6] at h
    have := nameP_adv l 2 _ x m h2 h
    omega
end Ex
end
section
open Go.RowKit

/-- Memory is as it was, but for block b and what is new. -/
structure Keep (b : Nat) (w w' : World) : Prop where
  os : w'.os = w.os
  tape : w'.tape = w.tape
  output : w'.output = w.output
  size : w.heap.size ≤ w'.heap.size
  block : ∀ k, k < w.heap.size → k ≠ b → w'.heap[k]? = w.heap[k]?
namespace Keep
theorem refl (b : Nat) (w : World) : Keep b w w := ⟨rfl, rfl, rfl, Nat.le_refl _, fun _ _ _ => rfl⟩
theorem trans {b : Nat} {x y z : World} (h : Keep b x y) (k : Keep b y z) : Keep b x z :=
  ⟨k.os.trans h.os, k.tape.trans h.tape, k.output.trans h.output, Nat.le_trans h.size k.size, fun i hi hb => (k.block i (Nat.lt_of_lt_of_le hi h.size) hb).trans (h.block i hi hb)⟩
theorem drew {b : Nat} {a w : World} (h : Keep b a w) : Keep b a w.drew := ⟨h.os, h.tape, h.output, h.size, h.block⟩
theorem drewN {b : Nat} {a w : World} (n : Nat) (h : Keep b a w) : Keep b a (w.drewN n) := ⟨h.os, h.tape, h.output, h.size, h.block⟩
theorem alloc {b : Nat} {a w : World} (h : Keep b a w) (o : Obj) : Keep b a (w.alloc o) :=
  h.trans ⟨rfl, rfl, rfl, by simp, fun k hk _ => Below.heap_alloc w o k hk⟩
theorem setCell {b : Nat} {a w : World} (h : Keep b a w) {p : Addr} (hp : p.block = b) (u : Value) : Keep b a (w.setCell p u) :=
  h.trans ⟨by simp [World.setCell], by simp [World.setCell], by simp [World.setCell], by simp [World.setCell], fun k _ hb => Below.heap_setCell w p u k (by rw [hp]; exact hb)⟩
theorem setNew {b : Nat} {a w : World} (h : Keep b a w) {p : Addr} (hp : a.heap.size ≤ p.block) (u : Value) : Keep b a (w.setCell p u) :=
  ⟨by simpa [World.setCell] using h.os, by simpa [World.setCell] using h.tape, by simpa [World.setCell] using h.output, by simpa [World.setCell] using h.size, fun k hk hb => (Below.heap_setCell w p u k (by omega)).trans (h.block k hk hb)⟩
theorem of_below {b : Nat} {w w' : World} (h : Below w.heap.size w w') : Keep b w w' := ⟨h.os, h.tape, h.output, h.size, fun k hk _ => h.block k hk⟩
theorem cell {b : Nat} {w w' : World} (h : Keep b w w') {p : Addr} (hp : p.block < w.heap.size) (hb : p.block ≠ b) : w'.cell? p = w.cell? p := World.cell?_of_block (w := w) (h.block p.block hp hb)
theorem frozen {b : Nat} {w w' : World} (h : Keep b w w') {p : Addr} (hp : p.block < w.heap.size) (hb : p.block ≠ b) : w'.frozen? p = w.frozen? p := World.frozen?_of_block (w := w) (h.block p.block hp hb)
theorem below {b B : Nat} {w w' : World} (h : Keep b w w') (hB : B ≤ w.heap.size) (hb : B ≤ b) : Below B w w' := ⟨h.os, h.tape, h.output, h.size, fun k hk => h.block k (by omega) (by omega)⟩
end Keep

/-- The reader lies in block b: its text, where it is, how deep. -/
structure Rd (b : Nat) (s : ByteArray) (i d : Nat) (w : World) : Prop where
  c0 : w.cell? ⟨b, 0, none⟩ = some (.string s)
  c1 : w.cell? ⟨b, 1, none⟩ = some (.int .i64 (i : Int))
  c2 : w.cell? ⟨b, 2, none⟩ = some (.int .i64 (d : Int))
  f1 : w.frozen? ⟨b, 1, none⟩ = false
  f2 : w.frozen? ⟨b, 2, none⟩ = false
namespace Rd
theorem lt {b : Nat} {s : ByteArray} {i d : Nat} {w : World} (h : Rd b s i d w) : b < w.heap.size := World.block_lt_of_cell? _ _ h.c0
theorem drew {b : Nat} {s : ByteArray} {i d : Nat} {w : World} (h : Rd b s i d w) : Rd b s i d w.drew := ⟨h.c0, h.c1, h.c2, h.f1, h.f2⟩
theorem drewN {b : Nat} {s : ByteArray} {i d : Nat} {w : World} (n : Nat) (h : Rd b s i d w) : Rd b s i d (w.drewN n) := ⟨h.c0, h.c1, h.c2, h.f1, h.f2⟩
theorem below {b : Nat} {s : ByteArray} {i d : Nat} {w w' : World} (h : Rd b s i d w) (hb : Below w.heap.size w w') : Rd b s i d w' :=
  ⟨(hb.cell h.lt).trans h.c0, (hb.cell h.lt).trans h.c1, (hb.cell h.lt).trans h.c2, (hb.frozen h.lt).trans h.f1, (hb.frozen h.lt).trans h.f2⟩
theorem set1 {b : Nat} {s : ByteArray} {i d : Nat} {w : World} (h : Rd b s i d w) (j : Nat) : Rd b s j d (w.setCell ⟨b, 1, none⟩ (.int .i64 (j : Int))) :=
  ⟨(World.cell?_setCell_other w _ _ _ (by simp)).trans h.c0, World.cell?_setCell_same w _ _ h.c1, (World.cell?_setCell_other w _ _ _ (by simp)).trans h.c2, by simp [h.f1], by simp [h.f2]⟩
theorem set2 {b : Nat} {s : ByteArray} {i d : Nat} {w : World} (h : Rd b s i d w) (j : Nat) : Rd b s i j (w.setCell ⟨b, 2, none⟩ (.int .i64 (j : Int))) :=
  ⟨(World.cell?_setCell_other w _ _ _ (by simp)).trans h.c0, (World.cell?_setCell_other w _ _ _ (by simp)).trans h.c1, World.cell?_setCell_same w _ _ h.c2, by simp [h.f1], by simp [h.f2]⟩
end Rd
theorem ret_u8 {a b : Int} (h : a = b) : Ending.returned (.int .u8 a) = .returned (.int .u8 b) := by rw [h]
theorem sg_at (s : ByteArray) (i : Nat) (h : i < s.size) : Ex.sg s.data.toList i = s[i].toNat := by
  unfold Ex.sg
  have e : s.data.toList.length = s.size := by simp
  rw [if_pos (by rw [e]; exact h), getD_byte s i h]
theorem sg_end (s : ByteArray) (i : Nat) (h : ¬ i < s.size) : Ex.sg s.data.toList i = 32 := by
  unfold Ex.sg
  have e : s.data.toList.length = s.size := by simp
  rw [if_neg (by rw [e]; exact h)]
theorem blank_at (s : ByteArray) (i : Nat) (h : i < s.size) (hb : ((s[i].toNat : Int) == 32) = true) : s.data.toList.getD i 0 = 32 := by
  rw [getD_byte s i h, ← UInt8.toNat_inj]
  have := beq_iff_eq.1 hb
  show s[i].toNat = 32
  omega
theorem not_blank_at (s : ByteArray) (i : Nat) (h : i < s.size) (hb : ((s[i].toNat : Int) == 32) = false) : s.data.toList.getD i 0 ≠ 32 := by
  rw [getD_byte s i h]
  intro e
  have h2 := beq_eq_false_iff_ne.1 hb
  apply h2
  rw [e]; rfl
end
section
open Go.RowKit
/-- in block g lie, from its head on, values of which these hold -/
def Row (w : World) (g : Nat) (Ps : List (Value → Prop)) : Prop := ∀ i P, Ps[i]? = some P → ∃ u, w.cell? ⟨g, i, none⟩ = some u ∧ P u
/-- the value of a list of that type: a row of at least two -/
def IsList (ok : Nat → Prop) (w : World) (t : Nat) (n : Nat) (Ps : List (Value → Prop)) (v : Value) : Prop :=
  2 ≤ n ∧ n ≤ 9223372036854775807 ∧ ∃ g cap, v = .iface t (.slice (some ⟨g, 0, none⟩) n cap) ∧ n ≤ cap ∧ ok g ∧ Row w g Ps
def IsEx (ok : Nat → Prop) (w : World) : Ex → Value → Prop
  | ⟨0, nm, l⟩ => fun v => nm = [] ∧ l = [] ∧ v = .iface 217 (.bool false)
  | ⟨1, nm, l⟩ => fun v => nm = [] ∧ l = [] ∧ v = .iface 217 (.bool true)
  | ⟨2, nm, l⟩ => fun v => l = [] ∧ nm.length ≤ 8 ∧ v = .iface 218 (.string ⟨nm.toArray⟩)
  | ⟨3, nm, l⟩ => fun v => l = [] ∧ nm.length ≤ 8 ∧ v = .iface 219 (.string ⟨nm.toArray⟩)
  | ⟨4, nm, l⟩ => fun v => l = [] ∧ nm.length ≤ 8 ∧ v = .iface 220 (.string ⟨nm.toArray⟩)
  | ⟨5, nm, l⟩ => fun v => nm = [] ∧ l.length = 1 ∧ ∃ u, v = .iface 222 (.agg #[u]) ∧ ∀ P, (l.map fun x => IsEx ok w x)[0]? = some P → P u
  | ⟨6, nm, l⟩ => fun v => nm = [] ∧ IsList ok w 224 l.length (l.map fun x => IsEx ok w x) v
  | ⟨7, nm, l⟩ => fun v => nm = [] ∧ IsList ok w 226 l.length (l.map fun x => IsEx ok w x) v
  | ⟨_, _, _⟩ => fun _ => False
/-- cells in such blocks stand as they stood -/
def Stay (ok : Nat → Prop) (w w' : World) : Prop := ∀ g i u, ok g → w.cell? ⟨g, i, none⟩ = some u → w'.cell? ⟨g, i, none⟩ = some u
theorem Stay.trans {ok : Nat → Prop} {x y z : World} (h : Stay ok x y) (k : Stay ok y z) : Stay ok x z := fun g i u hg hc => k g i u hg (h g i u hg hc)
theorem Stay.keep {ok : Nat → Prop} {b : Nat} {w w' : World} (hk : Keep b w w') (hb : ∀ g, ok g → g ≠ b) : Stay ok w w' := fun g i u hg hc => by
  rw [hk.cell (p := ⟨g, i, none⟩) (World.block_lt_of_cell? _ _ hc) (hb g hg)]; exact hc
theorem Stay.below {ok : Nat → Prop} {w w' : World} (hk : Below w.heap.size w w') : Stay ok w w' := fun g i u _ hc => by
  rw [hk.cell (p := ⟨g, i, none⟩) (World.block_lt_of_cell? _ _ hc)]; exact hc
theorem Stay.grown {ok : Nat → Prop} {w w' : World} {row : Option Nat} (hk : w.grownBy w' row) (hb : ∀ g, ok g → some g ≠ row) : Stay ok w w' := fun g _ _ hg hc => hk.cell hc (hb g hg)
/-- an expression stands where its cells do; and what is asked of its blocks may be less -/
theorem IsEx.stay {ok ok' : Nat → Prop} {w w' : World} (hs : Stay ok w w') (hok : ∀ g, ok g → ok' g) : ∀ (x : Ex) (v : Value), IsEx ok w x v → IsEx ok' w' x v := by
  intro x
  induction x using Ex.ind with
  | h k nm l ih =>
    intro v h
    have hrow : ∀ g, ok g → Row w g (l.map fun x => IsEx ok w x) → Row w' g (l.map fun x => IsEx ok' w' x) := by
      intro g hg hr i P hP
      rw [List.getElem?_map] at hP
      cases hl : l[i]? with
      | none => rw [hl] at hP; simp at hP
      | some y =>
        rw [hl] at hP
        simp only [Option.map_some, Option.some.injEq] at hP
        obtain ⟨u, hu, hx⟩ := hr i (IsEx ok w y) (by rw [List.getElem?_map, hl]; rfl)
        exact ⟨u, hs g i u hg hu, by rw [← hP]; exact ih y (List.mem_of_getElem? hl) u hx⟩
    have hlist : ∀ t, IsList ok w t l.length (l.map fun x => IsEx ok w x) v → IsList ok' w' t l.length (l.map fun x => IsEx ok' w' x) v := by
      rintro t ⟨h1, h2, g, cap, h3, h4, h5, h6⟩
      exact ⟨h1, h2, g, cap, h3, h4, hok g h5, hrow g h5 h6⟩
    match k, h with
    | 0, h => simp only [IsEx] at h ⊢; exact h
    | 1, h => simp only [IsEx] at h ⊢; exact h
    | 2, h => simp only [IsEx] at h ⊢; exact h
    | 3, h => simp only [IsEx] at h ⊢; exact h
    | 4, h => simp only [IsEx] at h ⊢; exact h
    | 5, h =>
      simp only [IsEx] at h ⊢
      obtain ⟨h1, h2, u, h3, h4⟩ := h
      refine ⟨h1, h2, u, h3, ?_⟩
      intro P hP
      rw [List.getElem?_map] at hP
      cases hl : l[0]? with
      | none => rw [hl] at hP; simp at hP
      | some y =>
        rw [hl] at hP
        simp only [Option.map_some, Option.some.injEq] at hP
        rw [← hP]
        exact ih y (List.mem_of_getElem? hl) u (h4 _ (by rw [List.getElem?_map, hl]; rfl))
    | 6, h => simp only [IsEx] at h ⊢; exact ⟨h.1, hlist _ h.2⟩
    | 7, h => simp only [IsEx] at h ⊢; exact ⟨h.1, hlist _ h.2⟩
    | n + 8, h => simp only [IsEx] at h
/-- an error at a place: an At in a block that is not b -/
def IsErr (b : Nat) (w : World) (v : Value) (err p : Nat) : Prop :=
  ∃ a, a ≠ b ∧ v = .iface 126 (.pointer (some ⟨a, 0, none⟩)) ∧ w.cell? ⟨a, 0, none⟩ = some (.int .i64 (err : Int)) ∧ w.cell? ⟨a, 1, none⟩ = some (.int .i64 (p : Int))
theorem IsErr.stay {b : Nat} {w w' : World} {v : Value} {err p : Nat} (hs : Stay (fun g => g ≠ b) w w') (h : IsErr b w v err p) : IsErr b w' v err p := by
  obtain ⟨a, h1, h2, h3, h4⟩ := h
  exact ⟨a, h1, h2, hs a 0 _ h1 h3, hs a 1 _ h1 h4⟩
/-- What reading comes to in memory: an error, or what is read; the reader's place; all else is as it was. -/
def Read (b : Nat) (s : ByteArray) (d : Nat) (w : World) (r : Ex.Res Ex) (e : Ending) (w' : World) : Prop :=
  Keep b w w' ∧
  match r with
  | .inl (err, p) => ∃ v i, e = .returned (.tuple #[.nilIface, v]) ∧ IsErr b w' v err p ∧ Rd b s i d w'
  | .inr (x, m) => ∃ v, e = .returned (.tuple #[v, .nilIface]) ∧ IsEx (fun g => w.heap.size ≤ g) w' x v ∧ Rd b s m d w'
end
section
open Go.RowKit
/-- a number that an int holds -/
def I64 (n : Int) : Prop := -9223372036854775808 ≤ n ∧ n ≤ 9223372036854775807
/-- a name's three cells -/
def NameAt (w : World) (g i : Nat) (n : Ld.Nme) : Prop :=
  w.cell? ⟨g, i * 3, none⟩ = some (.string ⟨n.name.toArray⟩) ∧ w.cell? ⟨g, i * 3 + 1, none⟩ = some (.int .i64 n.kind) ∧ w.cell? ⟨g, i * 3 + 2, none⟩ = some (.int .i64 n.count) ∧ n.name.length ≤ maxLen ∧ I64 n.kind ∧ I64 n.count
/-- a slice of names -/
def NamesAt (w : World) (sv : Value) (ns : List Ld.Nme) : Prop :=
  (ns = [] ∧ ∃ a cap, sv = .slice a 0 cap) ∨ ∃ g cap, sv = .slice (some ⟨g, 0, none⟩) ns.length cap ∧ ns.length ≤ cap ∧ ns.length ≤ 1000000 ∧ ∀ (i : Nat) (n : Ld.Nme), ns[i]? = some n → NameAt w g i n
/-- what a rung asks, in memory -/
def CondAt (w : World) (x : Option Ex) (v : Value) : Prop := match x with
  | none => v = .nilIface
  | some x => IsEx (fun _ => True) w x v ∧ x.size ≤ 1000000 ∧ x.text.length ≤ 1000000
/-- a rung's three cells -/
def RungAt (w : World) (g i : Nat) (r : Ld.Rng) : Prop :=
  ∃ v, w.cell? ⟨g, i * 3, none⟩ = some (.int .i64 r.kind) ∧ w.cell? ⟨g, i * 3 + 1, none⟩ = some (.string ⟨r.name.toArray⟩) ∧ w.cell? ⟨g, i * 3 + 2, none⟩ = some v ∧ r.name.length ≤ maxLen ∧ I64 r.kind ∧ CondAt w r.cond v
def RungsAt (w : World) (sv : Value) (rs : List Ld.Rng) : Prop :=
  (rs = [] ∧ ∃ a cap, sv = .slice a 0 cap) ∨ ∃ g cap, sv = .slice (some ⟨g, 0, none⟩) rs.length cap ∧ rs.length ≤ cap ∧ rs.length ≤ 1000000 ∧ ∀ (i : Nat) (r : Ld.Rng), rs[i]? = some r → RungAt w g i r
/-- a program -/
def IsPrg (w : World) (p : Ld.Prg) (v : Value) : Prop := ∃ nv rv, v = .agg #[nv, rv] ∧ NamesAt w nv p.names ∧ RungsAt w rv p.rungs
theorem NameAt.below {w w' : World} {g i : Nat} {n : Ld.Nme} (h : NameAt w g i n) (hb : Below w.heap.size w w') : NameAt w' g i n := by
  obtain ⟨h1, h2, h3, h4⟩ := h
  exact ⟨(hb.cell (World.block_lt_of_cell? _ _ h1)).trans h1, (hb.cell (World.block_lt_of_cell? _ _ h2)).trans h2, (hb.cell (World.block_lt_of_cell? _ _ h3)).trans h3, h4⟩
theorem NamesAt.below {w w' : World} {sv : Value} {ns : List Ld.Nme} (h : NamesAt w sv ns) (hb : Below w.heap.size w w') : NamesAt w' sv ns := by
  rcases h with h | ⟨g, cap, h1, h2, h3, h4⟩
  · exact .inl h
  · exact .inr ⟨g, cap, h1, h2, h3, fun i n hi => (h4 i n hi).below hb⟩
theorem IsEx.aft {ok : Nat → Prop} {w w' : World} {x : Ex} {v : Value} (h : IsEx ok w x v) (hb : Below w.heap.size w w') : IsEx (fun _ => True) w' x v := IsEx.stay (Stay.below hb) (fun _ _ => trivial) x v h
theorem CondAt.below {w w' : World} {x : Option Ex} {v : Value} (h : CondAt w x v) (hb : Below w.heap.size w w') : CondAt w' x v := by
  cases x with
  | none => exact h
  | some x => exact ⟨h.1.aft hb, h.2⟩
theorem RungAt.below {w w' : World} {g i : Nat} {r : Ld.Rng} (h : RungAt w g i r) (hb : Below w.heap.size w w') : RungAt w' g i r := by
  obtain ⟨v, h1, h2, h3, h4, h5, h6⟩ := h
  exact ⟨v, (hb.cell (World.block_lt_of_cell? _ _ h1)).trans h1, (hb.cell (World.block_lt_of_cell? _ _ h2)).trans h2, (hb.cell (World.block_lt_of_cell? _ _ h3)).trans h3, h4, h5, h6.below hb⟩
theorem RungsAt.below {w w' : World} {sv : Value} {rs : List Ld.Rng} (h : RungsAt w sv rs) (hb : Below w.heap.size w w') : RungsAt w' sv rs := by
  rcases h with h | ⟨g, cap, h1, h2, h3, h4⟩
  · exact .inl h
  · exact .inr ⟨g, cap, h1, h2, h3, fun i n hi => (h4 i n hi).below hb⟩
theorem IsPrg.below {w w' : World} {p : Ld.Prg} {v : Value} (h : IsPrg w p v) (hb : Below w.heap.size w w') : IsPrg w' p v := by
  obtain ⟨nv, rv, h1, h2, h3⟩ := h
  exact ⟨nv, rv, h1, h2.below hb, h3.below hb⟩
theorem NamesAt.slice {w : World} {sv : Value} {ns : List Ld.Nme} (h : NamesAt w sv ns) : ∃ a c, sv = .slice a ns.length c ∧ ns.length ≤ 1000000 := by
  rcases h with ⟨rfl, a, c, rfl⟩ | ⟨g, cap, rfl, _, h3, _⟩
  · exact ⟨a, c, rfl, by simp⟩
  · exact ⟨_, _, rfl, h3⟩
theorem RungsAt.slice {w : World} {sv : Value} {rs : List Ld.Rng} (h : RungsAt w sv rs) : ∃ a c, sv = .slice a rs.length c ∧ rs.length ≤ 1000000 := by
  rcases h with ⟨rfl, a, c, rfl⟩ | ⟨g, cap, rfl, _, h3, _⟩
  · exact ⟨a, c, rfl, by simp⟩
  · exact ⟨_, _, rfl, h3⟩
end
end Go.Proofs.YtkpfahbodlfpiaaGreatDoor
