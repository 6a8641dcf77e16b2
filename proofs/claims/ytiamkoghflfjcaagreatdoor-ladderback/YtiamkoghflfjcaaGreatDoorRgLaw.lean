/-
  A law of our own for 'for .. := range f': the iterator may keep cells of its own ('X': which blocks those are, told by how many blocks lie where it begins); the body keeps them.
-/
import Derived.RangeFuncNested
import Derived.RangeFuncBound
import Derived.RangeFuncCalls
import Derived.RangeFuncLeaves
import Derived.Shelf.Abstract
import Derived.Shelf.RegionOpen
import Derived.WalkKit
import Derived.OwnWalkIn
import Derived.TacticsInMore
import Derived.LoopNIn
import Derived.LoopIn
namespace Go.Proofs.YtiamkoghflfjcaaGreatDoor
open Go.RowKit
section
variable {α : Type} {P : Program}
/-- these blocks stand -/
def KeepX (X : Nat → Prop) (A B : World) : Prop := A.heap.size ≤ B.heap.size ∧ ∀ k, X k → B.heap[k]? = A.heap[k]?
/-- whatever is said stands though these blocks turn -/
def AbidesX (X : Nat → Prop) (J : List α → World → Prop) : Prop := ∀ s A B row, J s A → A.grownBy B row → (∀ r, row = some r → X r) → J s B
/-- an iterator: it hands these on, one by one, and turns no blocks but its own -/
def SeqX (P : Program) (gf : Nat) (lb : Array Value) (encs : α → Array Value) (X : Nat → Nat → Prop) (m : Nat) (S Sp : List α → Prop) (N : Nat) (w : World) : Prop :=
  ∀ (l : Nat) (J Jx : List α → World → Prop) (W : World), Below w.heap.size w W → AbidesX (X W.heap.size) J → AbidesX (X W.heap.size) Jx →
    (∀ pre x W1, J pre W1 → pre.length < N → W.heap.size + m ≤ W1.heap.size → YieldAt Fence.wide 0 P l (encs x) W1 fun e W' =>
      (e = .returned (.bool true) ∧ J (pre ++ [x]) W' ∧ KeepX (X W.heap.size) W1 W') ∨ (e = .returned (.bool false) ∧ Jx (pre ++ [x]) W' ∧ KeepX (X W.heap.size) W1 W')) →
    J [] W →
    Calls P gf (#[.func (.yield l) #[] #[]] ++ lb) W fun e W' => (∃ v, e = .returned v) ∧ ((∃ xs, S xs ∧ J xs W') ∨ ∃ pre, Sp pre ∧ Jx pre W')
theorem round_any {m m' : Nat} {l : Nat} {f : FuncId} {tmps : Array Value} {assign body : Code} {w : World} {R : Ending → World → Prop} (h : RoundIn Fence.wide m P l f tmps assign body w R) : RoundIn Fence.wide m' P l f tmps assign body w R :=
  ⟨h.1, fun c cs _ => h.2 c cs (room_wide _)⟩
theorem yield_any {m : Nat} (m' : Nat) {l : Nat} {args : Array Value} {W : World} {R : Ending → World → Prop} (h : YieldAt Fence.wide m P l args W R) : YieldAt Fence.wide m' P l args W R := by
  obtain ⟨fn, tmps, assign, body, hy, hR⟩ := h
  exact ⟨fn, tmps, assign, body, hy, round_any hR⟩
/-- how a round's body may be left: it goes on, or it returns -/
def BodyX (Y : Nat → Prop) (I Ix : List α → World → Prop) (xs : List α) (W : World) : Exit → Act → World → Prop
  | .normal, _, W' => KeepX Y W W' ∧ I xs W'
  | .ret, _, W' => KeepX Y W W' ∧ Ix xs W'
  | _, _, _ => False
/-- the blocks that turn between two rounds: the loop's two, and the iterator's -/
def TurnX (X : Nat → Nat → Prop) (n k : Nat) : Prop := k = n ∨ k = n + 1 ∨ X (n + 2) k
theorem range_law {g : Operand} {ps : Array Tmp} {assign body : Code} {Q : Exit → Act → World → Prop} {a : Act} {w : World} {n gf : Nat} {lb : Array Value} (hg : a.eval g = .func (.func gf) #[] lb) (eg : ∀ args w, (callFunc gf args).run P w = .ok (.enter gf args) w)
    {encs : α → Array Value} {X : Nat → Nat → Prop} {m N : Nat} {S Sp : List α → Prop} (hseq : SeqX P gf lb encs X m S Sp N w) (hX : ∀ k, X (w.heap.size + 2) k → k ≠ w.heap.size ∧ k ≠ w.heap.size + 1) (hps : ∀ x, (encs x).size = ps.size)
    (I Ix : List α → World → Prop) (hI : AbidesX (TurnX X w.heap.size) I) (hIx : AbidesX (TurnX X w.heap.size) Ix) (h0 : I [] w) (a₁ : α → Act)
    (hassign : ∀ (l : Nat) (x : α) (W : World) (K : Act → World → Prop), K (a₁ x) W →
      assign.wpIn (Fence.wide.inRound l) 0 P (Exit.then K (fun _ _ _ => False)) { tmps := (ps.zip (encs x)).foldl (fun t (p, v) => t.setIfInBounds p v) a.tmps, defers := [] } W)
    (hbody : ∀ (l : Nat) (pre : List α) (x : α) (W : World), w.heap.size + 2 + m ≤ W.heap.size → I pre W → pre.length < N → body.wpIn (Fence.wide.inRound l) 0 P (BodyX (TurnX X w.heap.size) I Ix (pre ++ [x]) W) (a₁ x) W)
    (hdone : ∀ (xs : List α) (W : World), S xs → I xs W → W.heap[w.heap.size]? = some (.deferred (some [])) → Q .normal { a with defers := { target := .collected w.heap.size, args := #[] } :: a.defers } W)
    (hstop : ∀ (pre : List α) (W : World), Sp pre → Ix pre W → W.heap[w.heap.size]? = some (.deferred (some [])) → Code.wpIn Fence.wide n P .ret Q { a with defers := { target := .collected w.heap.size, args := #[] } :: a.defers } W) :
    (Code.rangeFunc g ps assign body).wpIn Fence.wide n P Q a w := by
  refine wpIn_rangeFunc ?_
  intro fn hfn
  obtain ⟨rc, hrc⟩ : ∃ rc : LoopState → Option Code → Loop, rc = fun st pe => { state := st, pending := pe, fn, tmps := a.tmps, params := ps, assign, body, defers := w.heap.size } := ⟨_, rfl⟩
  obtain ⟨V, hV⟩ : ∃ V, V = (w.alloc (.deferred (some []))).alloc (.loop (rc .ready none)) := ⟨_, rfl⟩
  have hVs : V.heap.size = w.heap.size + 2 := by rw [hV]; simp
  have hVl : V.heap[w.heap.size + 1]? = some (.loop (rc .ready none)) := by
    have := World.alloc_heap_new (w.alloc (.deferred (some []))) (.loop (rc .ready none))
    rw [World.size_alloc] at this
    rw [hV]; exact this
  have hVd : V.heap[w.heap.size]? = some (.deferred (some [])) := by rw [hV]; exact (Below.heap_alloc _ _ _ (by simp)).trans (World.alloc_heap_new w _)
  have hVI : I [] V := by
    rw [hV]
    exact hI _ _ _ none (hI _ _ _ none h0 (World.grownBy_alloc _ _ none) (fun r e => by cases e)) (World.grownBy_alloc _ _ none) (fun r e => by cases e)
  have hVb : Below w.heap.size w V := by rw [hV]; exact ((Below.refl _ w).alloc (Nat.le_refl _) _).alloc (by simp) _
  refine ⟨w.heap.size + 1, [{ target := .collected w.heap.size, args := #[] }], V, { target := .fn (.func gf) lb, args := #[.func (.yield (w.heap.size + 1)) #[] #[]] }, V, gf, #[.func (.yield (w.heap.size + 1)) #[] #[]] ++ lb, V, ?_, ?_, fun _ _ => trivial, ?_, fun h => by simp [Fence.wide] at h, ?_⟩
  · rw [hV, hrc]; exact run_enterLoop_outer _ _ _ _ _
  · simp only [resolve, hg]
    simp [go_sem]
  · simp [invoke, go_sem, eg]
  refine callsIn_wide.2 ((hseq (w.heap.size + 1)
    (fun pre W => I pre W ∧ W.heap[w.heap.size + 1]? = some (.loop (rc .ready none)) ∧ W.heap[w.heap.size]? = some (.deferred (some [])))
    (fun pre W => Ix pre W ∧ W.heap[w.heap.size + 1]? = some (.loop (rc .done (some .ret))) ∧ W.heap[w.heap.size]? = some (.deferred (some [])))
    V hVb ?_ ?_ ?_ ⟨hVI, hVl, hVd⟩).mono ?_)
  · rintro s A B row ⟨q1, q2, q3⟩ hgr hr
    rw [hVs] at hr
    refine ⟨hI s A B row q1 hgr (fun r e => .inr (.inr (hr r e))), ?_, ?_⟩
    · rw [hgr.block _ (Array.getElem?_eq_some_iff.1 q2).1 (fun e => (hX _ (hr _ e.symm)).2 rfl)]; exact q2
    · rw [hgr.block _ (Array.getElem?_eq_some_iff.1 q3).1 (fun e => (hX _ (hr _ e.symm)).1 rfl)]; exact q3
  · rintro s A B row ⟨q1, q2, q3⟩ hgr hr
    rw [hVs] at hr
    refine ⟨hIx s A B row q1 hgr (fun r e => .inr (.inr (hr r e))), ?_, ?_⟩
    · rw [hgr.block _ (Array.getElem?_eq_some_iff.1 q2).1 (fun e => (hX _ (hr _ e.symm)).2 rfl)]; exact q2
    · rw [hgr.block _ (Array.getElem?_eq_some_iff.1 q3).1 (fun e => (hX _ (hr _ e.symm)).1 rfl)]; exact q3
  · rintro pre x W ⟨hi, hl, hd⟩ hlen hsz
    rw [hVs] at hsz
    rw [hVs]
    have hlt : w.heap.size + 1 < W.heap.size := (Array.getElem?_eq_some_iff.1 hl).1
    have hy := run_yield (P := P) (args := encs x) hl (by rw [hrc]; exact hps x)
    rw [hrc] at hy
    refine ⟨fn, _, assign, body, hy, roundIn_of_wpIn hfn (hassign _ x W _ ?_)⟩
    clear hy
    refine ⟨_, run_beginRound hl (by rw [hrc]), ?_⟩
    obtain ⟨U, hU⟩ : ∃ U, U = W.putObj (w.heap.size + 1) (.loop { rc .ready none with state := .busy }) := ⟨_, rfl⟩
    rw [← hU]
    have hUl : U.heap[w.heap.size + 1]? = some (.loop { rc .ready none with state := .busy }) := by rw [hU]; exact World.putObj_heap_same hlt
    have hUo : ∀ k, k ≠ w.heap.size + 1 → U.heap[k]? = W.heap[k]? := fun k hk => by rw [hU]; exact World.putObj_heap_other hk
    have hUs : U.heap.size = W.heap.size := by rw [hU]; simp [World.putObj]
    have hUI : I pre U := by rw [hU]; exact hI _ _ _ _ hi (grownBy_putObj' _ _ _) (fun r e => by cases e; exact .inr (.inl rfl))
    refine wpIn_mono (hbody _ pre x U (by omega) hUI hlen) ?_
    have fin : ∀ (jump : Option Code) (Z : World), KeepX (TurnX X w.heap.size) U Z →
        (Instr.endRound (w.heap.size + 1) jump).run P Z = .ok (.bool jump.isNone) (Z.putObj (w.heap.size + 1) (.loop (rc (if jump.isNone then .ready else .done) jump))) ∧
        (Z.putObj (w.heap.size + 1) (.loop (rc (if jump.isNone then .ready else .done) jump))).heap[w.heap.size + 1]? = some (.loop (rc (if jump.isNone then .ready else .done) jump)) ∧
        (Z.putObj (w.heap.size + 1) (.loop (rc (if jump.isNone then .ready else .done) jump))).heap[w.heap.size]? = some (.deferred (some [])) ∧
        KeepX (X (w.heap.size + 2)) W (Z.putObj (w.heap.size + 1) (.loop (rc (if jump.isNone then .ready else .done) jump))) := by
      intro jump Z hZ
      have hZl := (hZ.2 _ (.inr (.inl rfl))).trans hUl
      have he := run_endRound (P := P) jump hZl
      refine ⟨by rw [he, hrc], World.putObj_heap_same (Array.getElem?_eq_some_iff.1 hZl).1, ?_, ?_, ?_⟩
      · rw [World.putObj_heap_other (by omega), hZ.2 _ (.inl rfl), hUo _ (by omega)]; exact hd
      · have := hZ.1; simp [World.putObj]; omega
      · intro k hk
        have hk2 := (hX k hk).2
        rw [World.putObj_heap_other hk2, hZ.2 k (.inr (.inr hk)), hUo k hk2]
    rintro e a3 Z hp
    cases e with
    | normal =>
      obtain ⟨hZ, hi3⟩ := hp
      obtain ⟨q1, q2, q3, q4⟩ := fin none Z hZ
      exact ⟨_, _, q1, .inl ⟨rfl, ⟨hI _ _ _ _ hi3 (grownBy_putObj' _ _ _) (fun r e => by cases e; exact .inr (.inl rfl)), q2, q3⟩, q4⟩⟩
    | ret =>
      obtain ⟨hZ, hi3⟩ := hp
      obtain ⟨q1, q2, q3, q4⟩ := fin (some .ret) Z hZ
      exact ⟨_, _, q1, .inr ⟨rfl, ⟨hIx _ _ _ _ hi3 (grownBy_putObj' _ _ _) (fun r e => by cases e; exact .inr (.inl rfl)), q2, q3⟩, q4⟩⟩
    | exit id => exact hp.elim
    | goto t => exact hp.elim
    | panic ch => exact hp.elim
    | outgrown => exact hp.elim
  · rintro e W2 ⟨⟨v, rfl⟩, (⟨xs, hS, hi, hl, hd⟩ | ⟨pre, hSp, hi, hl, hd⟩)⟩
    · exact ⟨none, _, by have := run_endLoop (P := P) hl (by rw [hrc]; simp); rw [hrc] at this; exact this, hdone xs _ hS (hI _ _ _ _ hi (grownBy_putObj' _ _ _) (fun r e => by cases e; exact .inr (.inl rfl))) ((World.putObj_heap_other (by omega)).trans hd)⟩
    · exact ⟨some .ret, _, by have := run_endLoop (P := P) hl (by rw [hrc]; simp); rw [hrc] at this; exact this, hstop pre _ hSp (hIx _ _ _ _ hi (grownBy_putObj' _ _ _) (fun r e => by cases e; exact .inr (.inl rfl))) ((World.putObj_heap_other (by omega)).trans hd)⟩
end
end Go.Proofs.YtiamkoghflfjcaaGreatDoor
