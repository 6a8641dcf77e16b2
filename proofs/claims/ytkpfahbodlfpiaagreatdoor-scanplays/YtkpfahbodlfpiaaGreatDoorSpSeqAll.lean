/-
  A law of our own for 'for .. := range f': the iterator may keep cells of its own ('X': which blocks those are, told by how many blocks lie where it begins); the body keeps them. The walk of strings.SplitSeq's iterator, at one byte: the pieces between these bytes, one by one.
-/
import Derived.RangeFuncNested
import Derived.RangeFuncBound
import Derived.RangeFuncCalls
import Derived.RangeFuncLeaves
import Derived.Shelf.Abstract
import Derived.Shelf.RegionOpen
import Derived.WalkKit
import Derived.OwnWalkIn
import Derived.TacticsInMore
import Derived.LoopNIn
import Derived.LoopIn
import Derived.Test.YtkpfahbodlfpiaaGreatDoorLdBack
import Derived.Test.YtkpfahbodlfpiaaGreatDoorShelf
import Derived.Test.YtkpfahbodlfpiaaGreatDoorNmWalkAll
namespace Go.Proofs.YtkpfahbodlfpiaaGreatDoor
section
open Go.RowKit
section
variable {α : Type} {P : Program}
/-- these blocks stand -/
def KeepX (X : Nat → Prop) (A B : World) : Prop := A.heap.size ≤ B.heap.size ∧ ∀ k, X k → B.heap[k]? = A.heap[k]?
/-- whatever is said stands though these blocks turn -/
def AbidesX (X : Nat → Prop) (J : List α → World → Prop) : Prop := ∀ s A B row, J s A → A.grownBy B row → (∀ r, row = some r → X r) → J s B
/-- an iterator: it hands these on, one by one, and turns no blocks but its own -/
def SeqX (P : Program) (gf : Nat) (lb : Array Value) (encs : α → Array Value) (X : Nat → Nat → Prop) (m : Nat) (S Sp : List α → Prop) (N : Nat) (w : World) : Prop :=
  ∀ (l : Nat) (J Jx : List α → World → Prop) (W : World), Below w.heap.size w W → AbidesX (X W.heap.size) J → AbidesX (X W.heap.size) Jx →
    (∀ pre x W1, J pre W1 → pre.length < N → W.heap.size + m ≤ W1.heap.size → YieldAt Fence.wide 0 P l (encs x) W1 fun e W' =>
      (e = .returned (.bool true) ∧ J (pre ++ [x]) W' ∧ KeepX (X W.heap.size) W1 W') ∨ (e = .returned (.bool false) ∧ Jx (pre ++ [x]) W' ∧ KeepX (X W.heap.size) W1 W')) →
    J [] W →
    Calls P gf (#[.func (.yield l) #[] #[]] ++ lb) W fun e W' => (∃ v, e = .returned v) ∧ ((∃ xs, S xs ∧ J xs W') ∨ ∃ pre, Sp pre ∧ Jx pre W')
theorem round_any {m m' : Nat} {l : Nat} {f : FuncId} {tmps : Array Value} {assign body : Code} {w : World} {R : Ending → World → Prop} (h : RoundIn Fence.wide m P l f tmps assign body w R) : RoundIn Fence.wide m' P l f tmps assign body w R :=
  ⟨h.1, fun c cs _ => h.2 c cs (room_wide _)⟩
theorem yield_any {m : Nat} (m' : Nat) {l : Nat} {args : Array Value} {W : World} {R : Ending → World → Prop} (h : YieldAt Fence.wide m P l args W R) : YieldAt Fence.wide m' P l args W R := by
  obtain ⟨fn, tmps, assign, body, hy, hR⟩ := h
  exact ⟨fn, tmps, assign, body, hy, round_any hR⟩
/-- how a round's body may be left: it goes on, or it returns -/
def BodyX (Y : Nat → Prop) (I Ix : List α → World → Prop) (xs : List α) (W : World) : Exit → Act → World → Prop
  | .normal, _, W' => KeepX Y W W' ∧ I xs W'
  | .ret, _, W' => KeepX Y W W' ∧ Ix xs W'
  | _, _, _ => False
/-- the blocks that turn between two rounds: the loop's two, and the iterator's -/
def TurnX (X : Nat → Nat → Prop) (n k : Nat) : Prop := k = n ∨ k = n + 1 ∨ X (n + 2) k
theorem range_law {g : Operand} {ps : Array Tmp} {assign body : Code} {Q : Exit → Act → World → Prop} {a : Act} {w : World} {n gf : Nat} {lb : Array Value} (hg : a.eval g = .func (.func gf) #[] lb) (eg : ∀ args w, (callFunc gf args).run P w = .ok (.enter gf args) w)
    {encs : α → Array Value} {X : Nat → Nat → Prop} {m N : Nat} {S Sp : List α → Prop} (hseq : SeqX P gf lb encs X m S Sp N w) (hX : ∀ k, X (w.heap.size + 2) k → k ≠ w.heap.size ∧ k ≠ w.heap.size + 1) (hps : ∀ x, (encs x).size = ps.size)
    (I Ix : List α → World → Prop) (hI : AbidesX (TurnX X w.heap.size) I) (hIx : AbidesX (TurnX X w.heap.size) Ix) (h0 : I [] w) (a₁ : α → Act)
    (hassign : ∀ (l : Nat) (x : α) (W : World) (K : Act → World → Prop), K (a₁ x) W →
      assign.wpIn (Fence.wide.inRound l) 0 P (Exit.then K (fun _ _ _ => False)) { tmps := (ps.zip (encs x)).foldl (fun t (p, v) => t.setIfInBounds p v) a.tmps, defers := [] } W)
    (hbody : ∀ (l : Nat) (pre : List α) (x : α) (W : World), w.heap.size + 2 + m ≤ W.heap.size → I pre W → pre.length < N → body.wpIn (Fence.wide.inRound l) 0 P (BodyX (TurnX X w.heap.size) I Ix (pre ++ [x]) W) (a₁ x) W)
    (hdone : ∀ (xs : List α) (W : World), S xs → I xs W → W.heap[w.heap.size]? = some (.deferred (some [])) → Q .normal { a with defers := { target := .collected w.heap.size, args := #[] } :: a.defers } W)
    (hstop : ∀ (pre : List α) (W : World), Sp pre → Ix pre W → W.heap[w.heap.size]? = some (.deferred (some [])) → Code.wpIn Fence.wide n P .ret Q { a with defers := { target := .collected w.heap.size, args := #[] } :: a.defers } W) :
    (Code.rangeFunc g ps assign body).wpIn Fence.wide n P Q a w := by
  refine wpIn_rangeFunc ?_
  intro fn hfn
  obtain ⟨rc, hrc⟩ : ∃ rc : LoopState → Option Code → Loop, rc = fun st pe => { state := st, pending := pe, fn, tmps := a.tmps, params := ps, assign, body, defers := w.heap.size } := ⟨_, rfl⟩
  obtain ⟨V, hV⟩ : ∃ V, V = (w.alloc (.deferred (some []))).alloc (.loop (rc .ready none)) := ⟨_, rfl⟩
  have hVs : V.heap.size = w.heap.size + 2 := by rw [hV]; simp
  have hVl : V.heap[w.heap.size + 1]? = some (.loop (rc .ready none)) := by
    have := World.alloc_heap_new (w.alloc (.deferred (some []))) (.loop (rc .ready none))
    rw [World.size_alloc] at this
    rw [hV]; exact this
  have hVd : V.heap[w.heap.size]? = some (.deferred (some [])) := by rw [hV]; exact (Below.heap_alloc _ _ _ (by simp)).trans (World.alloc_heap_new w _)
  have hVI : I [] V := by
    rw [hV]
    exact hI _ _ _ none (hI _ _ _ none h0 (World.grownBy_alloc _ _ none) (fun r e => by cases e)) (World.grownBy_alloc _ _ none) (fun r e => by cases e)
  have hVb : Below w.heap.size w V := by rw [hV]; exact ((Below.refl _ w).alloc (Nat.le_refl _) _).alloc (by simp) _
  refine ⟨w.heap.size + 1, [{ target := .collected w.heap.size, args := #[] }], V, { target := .fn (.func gf) lb, args := #[.func (.yield (w.heap.size + 1)) #[] #[]] }, V, gf, #[.func (.yield (w.heap.size + 1)) #[] #[]] ++ lb, V, ?_, ?_, fun _ _ => trivial, ?_, fun h => by simp [Fence.wide] at h, ?_⟩
  · rw [hV, hrc]; exact run_enterLoop_outer _ _ _ _ _
  · simp only [resolve, hg]
    simp [go_sem]
  · simp [invoke, go_sem, eg]
  refine callsIn_wide.2 ((hseq (w.heap.size + 1)
    (fun pre W => I pre W ∧ W.heap[w.heap.size + 1]? = some (.loop (rc .ready none)) ∧ W.heap[w.heap.size]? = some (.deferred (some [])))
    (fun pre W => Ix pre W ∧ W.heap[w.heap.size + 1]? = some (.loop (rc .done (some .ret))) ∧ W.heap[w.heap.size]? = some (.deferred (some [])))
    V hVb ?_ ?_ ?_ ⟨hVI, hVl, hVd⟩).mono ?_)
  · rintro s A B row ⟨q1, q2, q3⟩ hgr hr
    rw [hVs] at hr
    refine ⟨hI s A B row q1 hgr (fun r e => .inr (.inr (hr r e))), ?_, ?_⟩
    · rw [hgr.block _ (Array.getElem?_eq_some_iff.1 q2).1 (fun e => (hX _ (hr _ e.symm)).2 rfl)]; exact q2
    · rw [hgr.block _ (Array.getElem?_eq_some_iff.1 q3).1 (fun e => (hX _ (hr _ e.symm)).1 rfl)]; exact q3
  · rintro s A B row ⟨q1, q2, q3⟩ hgr hr
    rw [hVs] at hr
    refine ⟨hIx s A B row q1 hgr (fun r e => .inr (.inr (hr r e))), ?_, ?_⟩
    · rw [hgr.block _ (Array.getElem?_eq_some_iff.1 q2).1 (fun e => (hX _ (hr _ e.symm)).2 rfl)]; exact q2
    · rw [hgr.block _ (Array.getElem?_eq_some_iff.1 q3).1 (fun e => (hX _ (hr _ e.symm)).1 rfl)]; exact q3
  · rintro pre x W ⟨hi, hl, hd⟩ hlen hsz
    rw [hVs] at hsz
    rw [hVs]
    have hlt : w.heap.size + 1 < W.heap.size := (Array.getElem?_eq_some_iff.1 hl).1
    have hy := run_yield (P := P) (args := encs x) hl (by rw [hrc]; exact hps x)
    rw [hrc] at hy
    refine ⟨fn, _, assign, body, hy, roundIn_of_wpIn hfn (hassign _ x W _ ?_)⟩
    clear hy
    refine ⟨_, run_beginRound hl (by rw [hrc]), ?_⟩
    obtain ⟨U, hU⟩ : ∃ U, U = W.putObj (w.heap.size + 1) (.loop { rc .ready none with state := .busy }) := ⟨_, rfl⟩
    rw [← hU]
    have hUl : U.heap[w.heap.size + 1]? = some (.loop { rc .ready none with state := .busy }) := by rw [hU]; exact World.putObj_heap_same hlt
    have hUo : ∀ k, k ≠ w.heap.size + 1 → U.heap[k]? = W.heap[k]? := fun k hk => by rw [hU]; exact World.putObj_heap_other hk
    have hUs : U.heap.size = W.heap.size := by rw [hU]; simp [World.putObj]
    have hUI : I pre U := by rw [hU]; exact hI _ _ _ _ hi (grownBy_putObj' _ _ _) (fun r e => by cases e; exact .inr (.inl rfl))
    refine wpIn_mono (hbody _ pre x U (by omega) hUI hlen) ?_
    have fin : ∀ (jump : Option Code) (Z : World), KeepX (TurnX X w.heap.size) U Z →
        (Instr.endRound (w.heap.size + 1) jump).run P Z = .ok (.bool jump.isNone) (Z.putObj (w.heap.size + 1) (.loop (rc (if jump.isNone then .ready else .done) jump))) ∧
        (Z.putObj (w.heap.size + 1) (.loop (rc (if jump.isNone then .ready else .done) jump))).heap[w.heap.size + 1]? = some (.loop (rc (if jump.isNone then .ready else .done) jump)) ∧
        (Z.putObj (w.heap.size + 1) (.loop (rc (if jump.isNone then .ready else .done) jump))).heap[w.heap.size]? = some (.deferred (some [])) ∧
        KeepX (X (w.heap.size + 2)) W (Z.putObj (w.heap.size + 1) (.loop (rc (if jump.isNone then .ready else .done) jump))) := by
      intro jump Z hZ
      have hZl := (hZ.2 _ (.inr (.inl rfl))).trans hUl
      have he := run_endRound (P := P) jump hZl
      refine ⟨by rw [he, hrc], World.putObj_heap_same (Array.getElem?_eq_some_iff.1 hZl).1, ?_, ?_, ?_⟩
      · rw [World.putObj_heap_other (by omega), hZ.2 _ (.inl rfl), hUo _ (by omega)]; exact hd
      · have := hZ.1; simp [World.putObj]; omega
      · intro k hk
        have hk2 := (hX k hk).2
        rw [World.putObj_heap_other hk2, hZ.2 k (.inr (.inr hk)), hUo k hk2]
    rintro e a3 Z hp
    cases e with
    | normal =>
      obtain ⟨hZ, hi3⟩ := hp
      obtain ⟨q1, q2, q3, q4⟩ := fin none Z hZ
      exact ⟨_, _, q1, .inl ⟨rfl, ⟨hI _ _ _ _ hi3 (grownBy_putObj' _ _ _) (fun r e => by cases e; exact .inr (.inl rfl)), q2, q3⟩, q4⟩⟩
    | ret =>
      obtain ⟨hZ, hi3⟩ := hp
      obtain ⟨q1, q2, q3, q4⟩ := fin (some .ret) Z hZ
      exact ⟨_, _, q1, .inr ⟨rfl, ⟨hIx _ _ _ _ hi3 (grownBy_putObj' _ _ _) (fun r e => by cases e; exact .inr (.inl rfl)), q2, q3⟩, q4⟩⟩
    | exit id => exact hp.elim
    | goto t => exact hp.elim
    | panic ch => exact hp.elim
    | outgrown => exact hp.elim
  · rintro e W2 ⟨⟨v, rfl⟩, (⟨xs, hS, hi, hl, hd⟩ | ⟨pre, hSp, hi, hl, hd⟩)⟩
    · exact ⟨none, _, by have := run_endLoop (P := P) hl (by rw [hrc]; simp); rw [hrc] at this; exact this, hdone xs _ hS (hI _ _ _ _ hi (grownBy_putObj' _ _ _) (fun r e => by cases e; exact .inr (.inl rfl))) ((World.putObj_heap_other (by omega)).trans hd)⟩
    · exact ⟨some .ret, _, by have := run_endLoop (P := P) hl (by rw [hrc]; simp); rw [hrc] at this; exact this, hstop pre _ hSp (hIx _ _ _ _ hi (grownBy_putObj' _ _ _) (fun r e => by cases e; exact .inr (.inl rfl))) ((World.putObj_heap_other (by omega)).trans hd)⟩
end
end
section
open Go.RowKit
attribute [local go_sem] Oper.semAt_some
namespace Ld
theorem split_len (c : UInt8) (l : List UInt8) : (split c l).length ≤ l.length + 1 := by
  induction l with
  | nil => simp [split]
  | cons a r ih =>
    unfold split
    by_cases h : a = c
    · rw [if_pos h]; simp only [List.length_cons]; omega
    · rw [if_neg h]
      cases hs : split c r with
      | nil => simp
      | cons x y => rw [hs] at ih; simp only [List.length_cons] at ih ⊢; omega
theorem index_split (c : UInt8) (l : List UInt8) : (Lib.indexByte l c = -1 ∧ c ∉ l) ∨ ∃ a r, l = a ++ c :: r ∧ c ∉ a ∧ Lib.indexByte l c = (a.length : Int) := by
  induction l with
  | nil => exact .inl ⟨rfl, by simp⟩
  | cons b t ih =>
    by_cases h : b = c
    · exact .inr ⟨[], t, by simp [h], by simp, by simp [Lib.indexByte, h]⟩
    · have hb : (b == c) = false := by simpa using h
      rcases ih with ⟨h1, h2⟩ | ⟨a, r, h1, h2, h3⟩
      · exact .inl ⟨by simp [Lib.indexByte, hb, h1], by simp [h2, Ne.symm h]⟩
      · refine .inr ⟨b :: a, r, by simp [h1], by simp [h2, Ne.symm h], ?_⟩
        have hne : ¬ ((a.length : Int) = -1) := by omega
        simp [Lib.indexByte, hb, h3, hne]
end Ld
/-- a piece of a text of at most so many bytes -/
abbrev Piece (M : Nat) := { l : List UInt8 // l.length ≤ M }
def left1 (bs : Nat) (W : World) : Nat := match W.cell? ⟨bs, 0, none⟩ with
  | some (.string s) => s.size + 1
  | _ => 0
set_option maxHeartbeats 2000000 in
set_option maxRecDepth 100000 in
theorem splitSeq1_seq (c : UInt8) (s : List UInt8) (bs bsep bsv M : Nat) (w : World) (hM : s.length ≤ M) (hM2 : M ≤ 1000000) (h1 : w.heap[bs]? = some (.cells #[.string ⟨s.toArray⟩] 9 (0, 0))) (h2 : w.heap[bsep]? = some (.cells #[.string ⟨#[c]⟩] 9 (0, 0))) (h3 : w.heap[bsv]? = some (.cells #[.int .i64 0] 3 (0, 0))) (hn2 : bs ≠ bsep) (hn3 : bs ≠ bsv) :
    SeqX Tryz.prog 169 #[.pointer (some ⟨bsep, 0, none⟩), .pointer (some ⟨bs, 0, none⟩), .pointer (some ⟨bsv, 0, none⟩)] (fun x : Piece M => #[.string ⟨x.1.toArray⟩]) (fun _ k => k = bs ∨ k = bsep ∨ k = bsv) 0 (fun xs => xs.map (·.1) = Ld.split c s) (fun pre => ∃ r, Ld.split c s = pre.map (·.1) ++ r) (s.length + 1) w := by
  intro l J Jx W hW hJ hJx hY h0
  have hb1 : bs < w.heap.size := (Array.getElem?_eq_some_iff.1 h1).1
  have hb2 : bsep < w.heap.size := (Array.getElem?_eq_some_iff.1 h2).1
  have hb3 : bsv < w.heap.size := (Array.getElem?_eq_some_iff.1 h3).1
  have k1 := (hW.block _ hb1).trans h1
  have k2 := (hW.block _ hb2).trans h2
  have k3 := (hW.block _ hb3).trans h3
  have c1 : W.cell? ⟨bsep, 0, none⟩ = some (.string ⟨#[c]⟩) := by rw [Lib.cell_of_heap k2]; rfl
  refine callsIn_wide.1 (callsIn_of_wp (n := 0) Tryz.func169 rfl trivial ?_ rfl)
  simp only [Tryz.ntmps169, List.size_toArray, List.length_cons, List.length_nil, Nat.reduceAdd, Nat.reduceSub, Array.replicate_succ, Array.replicate_zero, List.push_toArray, List.append_toArray, List.nil_append, List.cons_append]
  gi_wp2
  gi_loopw [7] (fun _ wr => ∃ (pre : List (Piece M)) (rest : List UInt8), Ld.split c s = pre.map (·.1) ++ Ld.split c rest ∧ rest.length ≤ s.length ∧ wr.heap[bs]? = some (.cells #[.string ⟨rest.toArray⟩] 9 (0, 0)) ∧ wr.heap[bsep]? = some (.cells #[.string ⟨#[c]⟩] 9 (0, 0)) ∧ wr.heap[bsv]? = some (.cells #[.int .i64 0] 3 (0, 0)) ∧ W.heap.size ≤ wr.heap.size ∧ J pre wr) (fun _ wr => left1 bs wr)
  case atStart => exact ⟨[], s, rfl, Nat.le_refl _, k1, k2, k3, Nat.le_refl _, h0⟩
  case round =>
    clear k1 k2 k3 c1
    obtain ⟨pre, rest, hsp, hrl, k1, k2, k3, hsz, hj⟩ := hrel
    have c1 : wr.cell? ⟨bsep, 0, none⟩ = some (.string ⟨#[c]⟩) := by rw [Lib.cell_of_heap k2]; rfl
    have c2 : wr.cell? ⟨bs, 0, none⟩ = some (.string ⟨rest.toArray⟩) := by rw [Lib.cell_of_heap k1]; rfl
    have c3 : wr.cell? ⟨bsv, 0, none⟩ = some (.int .i64 0) := by rw [Lib.cell_of_heap k3]; rfl
    have HIX := hide (Tryz.strings_Index_one ⟨rest.toArray⟩ c wr)
    have hlenN : pre.length < s.length + 1 := by
      have h1 := congrArg List.length hsp
      have h2 := Ld.split_len c s
      have h3 := Ld.split_ne c rest
      have h4 : 0 < (Ld.split c rest).length := List.length_pos_iff.2 h3
      rw [List.length_append, List.length_map] at h1
      omega
    rcases Ld.index_split c rest with ⟨hi, hno⟩ | ⟨a, r, hr, hno, hi⟩
    · have e : (⟨rest.toArray⟩ : ByteArray).data.toList = rest := rfl
      rw [e, hi] at HIX
      obtain ⟨fn, tmps, assign, body, hy, hR⟩ := hY pre ⟨rest, by omega⟩ wr hj hlenN (by omega)
      dsimp only at hy
      have HR := hide hR
      have HFIN : Hid (Ld.split c s = pre.map (·.1) ++ [rest]) := by show _ = _; rw [hsp, Ld.split_none c rest hno]
      clear hR
      gi_wp2_with fail
      refine ⟨trivial, rfl, ?_⟩
      refine (callsIn_wide.2 HIX.out).mono ?_
      rintro e w' ⟨rfl, rfl⟩
      gi_wp2_with fail
      refine ⟨rfl, (round_any HR.out).mono ?_⟩
      rintro e W' (⟨rfl, hJ', hk⟩ | ⟨rfl, hJx', hk⟩)
      · gi_wp2_with fail
        go_end0
        exact ⟨⟨_, rfl⟩, .inl ⟨_, by rw [HFIN.out]; simp, hJ'⟩⟩
      · gi_wp2_with fail
        go_end0
        exact ⟨⟨_, rfl⟩, .inr ⟨_, ⟨[], by rw [HFIN.out]; simp⟩, hJx'⟩⟩
    · have e : (⟨rest.toArray⟩ : ByteArray).data.toList = rest := rfl
      rw [e, hi] at HIX
      have hal : a.length ≤ M := by have := congrArg List.length hr; simp at this; omega
      obtain ⟨fn, tmps, assign, body, hy, hR⟩ := hY pre ⟨a, hal⟩ wr hj hlenN (by omega)
      dsimp only at hy
      have HR := hide hR
      clear hR
      have hrlen : (⟨rest.toArray⟩ : ByteArray).size = rest.length := by simp [ByteArray.size]
      have hlr : rest.length = a.length + 1 + r.length := by rw [hr]; simp; omega
      have HRE := hide hr
      have hx1 : (⟨rest.toArray⟩ : ByteArray).extract 0 a.length = ⟨a.toArray⟩ := by
        apply ByteArray.ext
        rw [ByteArray.data_extract]
        show rest.toArray.extract 0 a.length = a.toArray
        rw [List.extract_toArray, hr]
        simp [List.extract]
      have hx2 : (⟨rest.toArray⟩ : ByteArray).extract (a.length + 1) (a.length + 1 + r.length) = ⟨r.toArray⟩ := by
        apply ByteArray.ext
        rw [ByteArray.data_extract]
        show rest.toArray.extract (a.length + 1) (a.length + 1 + r.length) = r.toArray
        rw [List.extract_toArray, hr]
        have e1 : (a ++ c :: r) = (a ++ [c]) ++ r := by simp
        have e2 : a.length + 1 = (a ++ [c]).length := by simp
        rw [e1, e2, List.extract, List.drop_left, Nat.add_sub_cancel_left, List.take_length]
      rw [← hx1] at hy
      have HX2 := hide hx2
      have HSP : Hid (Ld.split c s = (pre ++ [(⟨a, hal⟩ : Piece M)]).map (·.1) ++ Ld.split c r) := by
        show _ = _
        rw [hsp, hr, Ld.split_at c a r hno, List.map_append]; simp
      have HLM : Hid (left1 bs wr = rest.length + 1) := by show _ = _; unfold left1; rw [c2]; simp only [hrlen]
      clear hr hx1 hx2
      gi_wp2_with fail
      refine ⟨trivial, rfl, ?_⟩
      refine (callsIn_wide.2 HIX.out).mono ?_
      rintro e w' ⟨rfl, rfl⟩
      gi_wp2_with fail
      refine ⟨rfl, (round_any HR.out).mono ?_⟩
      rintro e W' (⟨rfl, hJ', hk⟩ | ⟨rfl, hJx', hk⟩)
      · have g1 := (hk.2 bs (.inl rfl)).trans k1
        have g2 := (hk.2 bsep (.inr (.inl rfl))).trans k2
        have g3 := (hk.2 bsv (.inr (.inr rfl))).trans k3
        have d1 : W'.cell? ⟨bsep, 0, none⟩ = some (.string ⟨#[c]⟩) := by rw [Lib.cell_of_heap g2]; rfl
        have d2 : W'.cell? ⟨bs, 0, none⟩ = some (.string ⟨rest.toArray⟩) := by rw [Lib.cell_of_heap g1]; rfl
        have f2 : W'.frozen? ⟨bs, 0, none⟩ = false := Lib.frozen_of_heap g1 0
        have HJ' := hide hJ'
        have G1 := hide g1
        have G2 := hide g2
        have G3 := hide g3
        have HKS := hide hk.1
        clear hJ' hk g1 g2 g3 k1 k2 k3 c1 c2 c3 hY HR HIX hy
        gi_wp2_with fail
        rw [HX2.out]
        refine ⟨⟨pre ++ [⟨a, hal⟩], r, HSP.out, by omega, ?_, ?_, ?_, ?_, ?_⟩, ?_⟩
        · simp [World.setCell, Array.getElem?_modify, G1.out]
        · rw [Below.heap_setCell _ _ _ _ (fun e => hn2 (by simpa using e.symm))]; exact G2.out
        · rw [Below.heap_setCell _ _ _ _ (fun e => hn3 (by simpa using e.symm))]; exact G3.out
        · have := HKS.out
          simp [World.setCell]; omega
        · exact hJ _ W' _ (some bs) HJ'.out ⟨rfl, rfl, rfl, by simp [World.setCell], fun k _ hk => Below.heap_setCell _ _ _ _ (fun e => hk (by simp [e]))⟩ (fun r e => by cases e; exact .inl rfl)
        · rw [HLM.out]
          have hc : (W'.setCell ⟨bs, 0, none⟩ (.string ⟨r.toArray⟩)).cell? ⟨bs, 0, none⟩ = some (.string ⟨r.toArray⟩) := World.cell?_setCell_same' _ _ _ (by rw [Lib.cell_of_heap G1.out]; rfl)
          unfold left1
          rw [hc]
          have : (⟨r.toArray⟩ : ByteArray).size = r.length := by simp [ByteArray.size]
          simp only [this]
          omega
      · gi_wp2_with fail
        refine bodyPost_ret_by (v := .tuple #[]) ?_ rfl ⟨⟨_, rfl⟩, .inr ⟨_, ⟨Ld.split c r, HSP.out⟩, hJx'⟩⟩
        simp [results, Tryz.results169, go_sem]
end
end Go.Proofs.YtkpfahbodlfpiaaGreatDoor
