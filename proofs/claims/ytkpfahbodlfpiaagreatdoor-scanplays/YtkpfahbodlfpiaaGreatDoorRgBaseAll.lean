/-
  What a state of the document's tells of a program's names, in their order: package scan's own rows. Two own rows that grow side by side, in blocks of their own. Laws for a statement whose operations Go may carry out in more than one order, gone through by hand: an operation is taken first, passed by, or comes up.
-/
import Derived.Test.YtkpfahbodlfpiaaGreatDoorRvEvalAll
import Derived.Test.YtkpfahbodlfpiaaGreatDoorRfStartAll
import Derived.Test.YtkpfahbodlfpiaaGreatDoorScStepA
import Derived.Test.YtkpfahbodlfpiaaGreatDoorRows
import Derived.WalkKit
import Derived.Deep.AppendLies
import Derived.Deep.RegionHeld3
namespace Go.Proofs.YtkpfahbodlfpiaaGreatDoor
section
namespace Rf
theorem tells_is (p : Ld.Prg) (hck : Ld.check p = none) (l : List Bool) (hl : l.length = p.names.length) : p.names.map (fun n => Sc.told p.names l n.name) = l := by
  refine List.ext_getElem (by simp [hl]) fun k h1 h2 => ?_
  have hk : k < p.names.length := by simpa using h1
  have hn := number_self p hck k hk
  rw [List.getElem_map, told_at p.names l _ (by omega), hn, Int.toNat_natCast]
  simp [h2]
theorem tells_ct (p : Ld.Prg) (hck : Ld.check p = none) (l : List Int) (hl : l.length = p.names.length) : p.names.map (fun n => toldC p.names l n.name) = l := by
  refine List.ext_getElem (by simp [hl]) fun k h1 h2 => ?_
  have hk : k < p.names.length := by simpa using h1
  have hn := number_self p hck k hk
  rw [List.getElem_map, toldC_at p.names l _ (by omega), hn, Int.toNat_natCast]
  simp [h2]
/-- after some scans -/
def after (p : Ld.Prg) (ins : List (List Bool)) : St := ins.foldl (step p) start
theorem after_succ (p : Ld.Prg) (ins : List (List Bool)) (k : Nat) (h : k < ins.length) : after p (ins.take (k + 1)) = step p (after p (ins.take k)) ins[k] := by
  unfold after
  rw [List.take_succ_eq_append_getElem h, List.foldl_append]
  rfl
/-- what the document's machine comes to is what package scan's does -/
theorem of_after (p : Ld.Prg) (hck : Ld.check p = none) : ∀ (ins : List (List Bool)), (∀ i, i ∈ ins → i.length = (Ld.kindL p.names 1).length) → of p.names (Sc.after p ins) = after p ins := by
  have key : ∀ (ins : List (List Bool)) (s : Sc.St), Sc.Bd p s → (∀ i, i ∈ ins → i.length = (Ld.kindL p.names 1).length) → of p.names (ins.foldl (Sc.step p) s) = ins.foldl (step p) (of p.names s) := by
    intro ins
    induction ins with
    | nil => intro s _ _; rfl
    | cons a r ih =>
      intro s hb hl
      rw [List.foldl_cons, List.foldl_cons, ih _ (Sc.step_bd p hck s a hb (hl a (by simp))).1 (fun i hi => hl i (by simp [hi])), of_step p hck s a hb]
  intro ins hl
  have h := key ins _ (Sc.start_bd p hck) hl
  rw [of_start] at h
  exact h
end Rf
end
section
namespace Rf
open Go.RowKit
/-- two own rows, in blocks of their own -/
structure T2 (q : Nat) (W : World) (t1 t2 : TypeId) (v1 v2 : Value) (l1 l2 : List Value) : Prop where
  o1 : W.ownsRow q t1 1 v1 l1.length l1
  o2 : W.ownsRow q t2 1 v2 l2.length l2
  d12 : ∀ g, v1.ownBlock = some g → v2.ownBlock ≠ some g
theorem T2.rot {q : Nat} {W : World} {t1 t2 : TypeId} {v1 v2 : Value} {l1 l2 : List Value} (h : T2 q W t1 t2 v1 v2 l1 l2) : T2 q W t2 t1 v2 v1 l2 l1 := ⟨h.o2, h.o1, fun g e1 e2 => h.d12 g e2 e1⟩
theorem T2.below {q : Nat} {W W' : World} {t1 t2 : TypeId} {v1 v2 : Value} {l1 l2 : List Value} (h : T2 q W t1 t2 v1 v2 l1 l2) (hb : Below W.heap.size W W') : T2 q W' t1 t2 v1 v2 l1 l2 := ⟨own_below h.o1 hb, own_below h.o2 hb, h.d12⟩
theorem own_lt {W : World} {q : Nat} {e : TypeId} {s : Nat} {v : Value} {n : Nat} {xs : List Value} (h : W.ownsRow q e s v n xs) {g : Nat} (hg : v.ownBlock = some g) : q ≤ g ∧ g < W.heap.size := by
  rcases h.2 with ⟨h1, _⟩ | ⟨g', cap, cur, h1, h2, h3, _⟩
  · rw [h1] at hg; cases hg
  · rw [h1] at hg
    cases hg
    exact ⟨h2, (Array.getElem?_eq_some_iff.1 h3).1⟩
/-- the first has grown, behind what was laid new -/
theorem T2.app {q : Nat} {W Wx W' : World} {t1 t2 : TypeId} {v1 v2 : Value} {l1 l2 : List Value} {p : Value} {n g cap : Nat} (h : T2 q W t1 t2 v1 v2 l1 l2) (hq : q ≤ W.heap.size) (hn : l1.length = n) (hx : Below W.heap.size W Wx)
    (ho : W'.ownsRow q t1 1 (.slice (some ⟨g, 0, none⟩) (n + 1) cap) (n + 1) (l1 ++ [p])) (hg : Wx.grownBy W' v1.ownBlock) (hat : v1.ownBlock = some g ∨ W.heap.size ≤ g) :
    T2 q W' t1 t2 (.slice (some ⟨g, 0, none⟩) (n + 1) cap) v2 (l1 ++ [p]) l2 ∧ Below q W W' ∧ ∀ b, b < Wx.heap.size → W.heap.size ≤ b → W'.heap[b]? = Wx.heap[b]? := by
  subst hn
  have hxs := hx.size
  have hs := hg.size
  refine ⟨⟨by rw [List.length_append]; exact ho, ?_, fun g' e1 e2 => ?_⟩, ⟨hg.os.trans hx.os, hg.tape.trans hx.tape, hg.output.trans hx.output, by omega, fun k hk => ?_⟩, fun b hb hb2 => hg.block b hb (fun e => by have := (own_lt h.o1 e.symm).2; omega)⟩
  · refine (own_below h.o2 hx).kept hg ?_
    cases hv1 : v1.ownBlock with
    | none => cases hvv : v2.ownBlock with
      | none => exact .inl rfl
      | some k => exact .inr (by intro e; cases e)
    | some k => exact .inr (h.d12 k hv1)
  · have e3 : g = g' := by simpa [Value.ownBlock] using e1
    subst e3
    rcases hat with h1 | h1
    · exact h.d12 g h1 e2
    · have := (own_lt h.o2 e2).2
      omega
  · refine (hg.block k (by omega) (fun e => ?_)).trans (hx.block k (by omega))
    have := (own_lt h.o1 e.symm).1
    omega
end Rf
end
section
namespace Rg
open Go.RowKit
section
variable {P : Program} {md : Region.Mode} {ops : Array Oper} {Q : Exit → Act → World → Prop} {S : World → Prop}
theorem wpOp_in {i : Nat} {o : Oper} {K : Act → World → Prop} {a : Act} {w : World} (ho : ops[i]? = some o) (hw : Region.wanted o (yielded ops a.tmps) = true) (h : o.wp P a w K Q) : wpOp P ops Q i K a w := by
  unfold wpOp
  rw [ho]
  simp only [hw, if_true]
  exact .inl h
theorem wpOp_k {i : Nat} {o : Oper} {K : Act → World → Prop} {a : Act} {w : World} (ho : ops[i]? = some o) (hw : Region.wanted o (yielded ops a.tmps) = true) (h : ∀ K' : Act → World → Prop, (∀ a w, K a w → K' a w) → o.wp P a w K' Q) : wpOp P ops Q i K a w := wpOp_in ho hw (h K fun _ _ h => h)
theorem take_at (i d : Nat) (v : Value) {oi : Oper} {fuel : Nat} {listed : Array Bool} {tm : Array Value} {df : _} {w : World} (hi : ops[i]? = some oi) (hd : oi.dst = some d) (hs : Region.noSelect ops = true) (hf : Region.free md ops listed i = true) (hr : (Region.ready md ops listed).contains i = true) (hQ : ∀ c a w, ¬ Q (.panic c) a w) (hS : S w) (hy : YieldsIf P ops S oi v ⟨tm, df⟩) (h : wpAnyH P md ops Q S fuel (listed.setIfInBounds i true) ⟨tm.setIfInBounds d v, df⟩ w) : wpAnyH P md ops Q S (fuel + 1) listed ⟨tm, df⟩ w := by
  refine wpAnyH_take hi hs hf hr (fun c a w h => (hQ c _ w h).elim) hy hS ?_
  rw [hd]
  exact h
theorem skip_at (i d j : Nat) (want : Bool) {oi : Oper} {fuel : Nat} {listed : Array Bool} {tm : Array Value} {df : _} {w : World} (hi : ops[i]? = some oi) (hd : oi.dst = some d) (hg : oi.guard = some (j, want)) (hj : yielded ops tm j = some (!want)) (hs : Region.noSelect ops = true) (hf : Region.free md ops listed i = true) (hr : (Region.ready md ops listed).contains i = true) (hQ : ∀ c a w, ¬ Q (.panic c) a w) (hS : S w) (h : wpAnyH P md ops Q S fuel (listed.setIfInBounds i true) ⟨tm.setIfInBounds d undef, df⟩ w) : wpAnyH P md ops Q S (fuel + 1) listed ⟨tm, df⟩ w := by
  refine take_at i d undef hi hd hs hf hr hQ hS (Or.inr ⟨?_, rfl⟩) h
  unfold Region.wanted
  rw [hg]
  show (yielded ops tm j == some want) = false
  rw [hj]
  cases want <;> rfl
theorem skipU_at (i d j : Nat) (want : Bool) {oi : Oper} {fuel : Nat} {listed : Array Bool} {tm : Array Value} {df : _} {w : World} (hi : ops[i]? = some oi) (hd : oi.dst = some d) (hg : oi.guard = some (j, want)) (hj : yielded ops tm j = none) (hs : Region.noSelect ops = true) (hf : Region.free md ops listed i = true) (hr : (Region.ready md ops listed).contains i = true) (hQ : ∀ c a w, ¬ Q (.panic c) a w) (hS : S w) (h : wpAnyH P md ops Q S fuel (listed.setIfInBounds i true) ⟨tm.setIfInBounds d undef, df⟩ w) : wpAnyH P md ops Q S (fuel + 1) listed ⟨tm, df⟩ w := by
  refine take_at i d undef hi hd hs hf hr hQ hS (Or.inr ⟨?_, rfl⟩) h
  unfold Region.wanted
  rw [hg]
  show (yielded ops tm j == some want) = false
  rw [hj]
  rfl
theorem wpOp_skip (i d j : Nat) (want : Bool) {o : Oper} {K : Act → World → Prop} {tm : Array Value} {df : _} {w : World} (ho : ops[i]? = some o) (hd : o.dst = some d) (hg : o.guard = some (j, want)) (hj : yielded ops tm j = some (!want)) (h : K ⟨tm.setIfInBounds d undef, df⟩ w) : wpOp P ops Q i K ⟨tm, df⟩ w := by
  have hw : Region.wanted o (yielded ops tm) = false := by
    unfold Region.wanted
    rw [hg]
    show (yielded ops tm j == some want) = false
    rw [hj]
    cases want <;> rfl
  unfold wpOp
  rw [ho]
  simp only [hw]
  rw [hd]
  exact h
/-- those that may come up, one by one -/
theorem ready_at {rs : List Nat} {f : Nat} {l : Array Bool} {a : Act} {w : World} (hr : Region.ready md ops l = rs) (hne : rs ≠ []) (h : ∀ i ∈ rs, wpOp P ops Q i (fun a' w' => S w' ∧ wpAnyH P md ops Q S f (l.setIfInBounds i true) a' w') a w) : wpAnyH P md ops Q S (f + 1) l a w :=
  ⟨fun h0 => absurd (hr ▸ h0) hne, hr ▸ h⟩
theorem ready_one {i : Nat} {f : Nat} {l : Array Bool} {a : Act} {w : World} (hr : Region.ready md ops l = [i]) (h : wpOp P ops Q i (fun a' w' => S w' ∧ wpAnyH P md ops Q S f (l.setIfInBounds i true) a' w') a w) : wpAnyH P md ops Q S (f + 1) l a w :=
  ready_at hr (by simp) (fun j hj => by obtain rfl := List.mem_singleton.1 hj; exact h)
theorem ready_two {i j : Nat} {f : Nat} {l : Array Bool} {a : Act} {w : World} (hr : Region.ready md ops l = [i, j]) (h : wpOp P ops Q i (fun a' w' => S w' ∧ wpAnyH P md ops Q S f (l.setIfInBounds i true) a' w') a w) (h2 : wpOp P ops Q j (fun a' w' => S w' ∧ wpAnyH P md ops Q S f (l.setIfInBounds j true) a' w') a w) : wpAnyH P md ops Q S (f + 1) l a w :=
  ready_at hr (by simp) (fun k hk => by
    rcases List.mem_cons.1 hk with rfl | hk
    · exact h
    · obtain rfl := List.mem_singleton.1 hk; exact h2)
end
end Rg
end
end Go.Proofs.YtkpfahbodlfpiaaGreatDoor
