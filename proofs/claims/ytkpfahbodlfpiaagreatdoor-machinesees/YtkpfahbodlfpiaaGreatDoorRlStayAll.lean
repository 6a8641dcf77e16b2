/-
  An append of nothing. (Out of LdEdges.) What the document's ProgramParse leans on: words, and the words for kinds, as it reads them. Plain facts: one program and its text; what is read has nothing wrong; how long a read program's parts are. A program that is being made, in memory: its names, then its rungs, in rows of their own. Which blocks of the document's programs stand while rows of theirs grow.
-/
import Derived.Test.YtkpfahbodlfpiaaGreatDoorLdRepAll
import Derived.Laws.OwnMore
import Derived.Lib.AppendZeros
import Derived.Deep.RegionLaw
import Derived.Maps.AppendAt
import Derived.Test.YtkpfahbodlfpiaaGreatDoorRlLineAll
import Derived.Test.YtkpfahbodlfpiaaGreatDoorRlSplitAll
import Derived.Test.YtkpfahbodlfpiaaGreatDoorRlWords
import Derived.Test.YtkpfahbodlfpiaaGreatDoorLdParseWAll
import Derived.Test.YtkpfahbodlfpiaaGreatDoorSpSeqAll
import Derived.ProofKit
import Derived.Test.YtkpfahbodlfpiaaGreatDoorRpRuneAll
import Derived.Test.YtkpfahbodlfpiaaGreatDoorLdKindAll
namespace Go.Proofs.YtkpfahbodlfpiaaGreatDoor
section
open Go.RowKit
/-- an append whose run is known, at a step of a region that draws its order -/
theorem step_append_run {P : Program} (w : World) {ops : Array Oper} {o : Oper} {a : Act} {K : Act → World → Prop} {Q : Exit → Act → World → Prop} {E : Prop} (hgd : o.guard = none) (s x : Operand) (t tn : TypeId)
    (ho : o.op = .call { callee := .builtin .append, args := #[s, x], argTypes := #[t, tn] }) (vs vx : Value) (hs : a.eval s = vs) (hx : a.eval x = vx)
    (v' : Value) (w' : World) (hr : (Builtin.append_ #[t, tn] o.type #[vs, vx]).run P w = .ok v' w') (h : K (a.put o.dst v') w') : if Region.wanted o (yielded ops a.tmps) = true then Oper.wp P o a w K Q else E := by
  have hw : Region.wanted o (yielded ops a.tmps) = true := by simp [Region.wanted, hgd]
  rw [if_pos hw]
  exact Lib.wp_append_run w s x t tn ho vs vx hs hx v' w' hr h
/-- nothing is appended -/
theorem append_zero {W : World} (base : Nat) (t ty e : TypeId) (i : TypeInfo) (size : Nat) (ht : Tryz.prog.underlying t = some (.slice e)) (hi : Tryz.prog.info? e = some i) (v : Value) (n : Nat) (xs : List Value) (hown : W.ownsRow base e size v n xs) (a : Option Addr) (c : Nat) :
    (Builtin.append_ #[t, t] ty #[v, .slice a 0 c]).run Tryz.prog W = .ok v W := by
  rcases hown.2 with ⟨rfl, rfl⟩ | ⟨g, cap, cur, rfl, _, _, hnc, _⟩
  · cases a <;> simp [Builtin.append_, run_underlying ht, sizeOf, typeInfo, hi, Builtin.lenOf, Builtin.firstCells, loadCells, loadCellsFrom]
  · cases a <;> simp [Builtin.append_, run_underlying ht, sizeOf, typeInfo, hi, Builtin.lenOf, Builtin.firstCells, hnc, storeCells, loadCells, loadCellsFrom]
end
section
open Go.RowKit
/-- the document's words for kinds, all of them, as they are laid -/
def RWds (w : World) : Prop := ∃ b1 o1 cw1 b2 o2 cw2, (w.cell? ⟨1, 0, none⟩ = some (.slice (some ⟨b1, o1, none⟩) 5 cw1) ∧ 5 ≤ cw1 ∧ ∀ k, k < 5 → w.cell? ⟨b1, o1 + k, none⟩ = some (.string ⟨(Ld.nameW k).toArray⟩)) ∧ (w.cell? ⟨0, 0, none⟩ = some (.slice (some ⟨b2, o2, none⟩) 7 cw2) ∧ 7 ≤ cw2 ∧ ∀ k, k < 7 → w.cell? ⟨b2, o2 + k, none⟩ = some (.string ⟨(Ld.rungW k).toArray⟩))
theorem RWds.below {w w' : World} (h : RWds w) (hb : Below w.heap.size w w') : RWds w' := by
  obtain ⟨b1, o1, cw1, b2, o2, cw2, ⟨h1, h5, h2⟩, h3, h6, h4⟩ := h
  have key : ∀ (p : Addr) v, w.cell? p = some v → w'.cell? p = some v := fun p v hv => (hb.cell (World.block_lt_of_cell? _ _ hv)).trans hv
  exact ⟨b1, o1, cw1, b2, o2, cw2, ⟨key _ _ h1, h5, fun k hk => key _ _ (h2 k hk)⟩, key _ _ h3, h6, fun k hk => key _ _ (h4 k hk)⟩
theorem RWds.names {w : World} (h : RWds w) : ∃ sv, w.cell? ⟨1, 0, none⟩ = some sv ∧ (∃ a n c, sv = .slice a n c) ∧ Strs w sv (Ld.nameL.map toBA) := by
  obtain ⟨b1, o1, cw1, b2, o2, cw2, ⟨h1, h5, h2⟩, _⟩ := h
  refine ⟨_, h1, ⟨_, _, _, rfl⟩, .inr ⟨b1, o1, cw1, rfl, h5, by decide, fun k y hy => ?_⟩⟩
  have hk : k < 5 := by have := (List.getElem?_eq_some_iff.1 hy).1; simpa [Ld.nameL] using this
  rw [h2 k hk]
  have : k = 0 ∨ k = 1 ∨ k = 2 ∨ k = 3 ∨ k = 4 := by omega
  rcases this with rfl | rfl | rfl | rfl | rfl <;> (simp [Ld.nameL, toBA] at hy; rw [← hy])
theorem RWds.rungs {w : World} (h : RWds w) : ∃ sv, w.cell? ⟨0, 0, none⟩ = some sv ∧ (∃ a n c, sv = .slice a n c) ∧ Strs w sv (Ld.rungL.map toBA) := by
  obtain ⟨b1, o1, cw1, b2, o2, cw2, _, h1, h5, h2⟩ := h
  refine ⟨_, h1, ⟨_, _, _, rfl⟩, .inr ⟨b2, o2, cw2, rfl, h5, by decide, fun k y hy => ?_⟩⟩
  have hk : k < 7 := by have := (List.getElem?_eq_some_iff.1 hy).1; simpa [Ld.rungL] using this
  rw [h2 k hk]
  have : k = 0 ∨ k = 1 ∨ k = 2 ∨ k = 3 ∨ k = 4 ∨ k = 5 ∨ k = 6 := by omega
  rcases this with rfl | rfl | rfl | rfl | rfl | rfl | rfl <;> (simp [Ld.rungL, toBA] at hy; rw [← hy])
/-- what a program's reading leans on -/
structure PLaid (w : World) : Prop where
  r : RLaid w
  wd : RWds w
  errs : NumErrs w
  pows : Pows w
  low : 14 ≤ w.heap.size
theorem PLaid.below {w w' : World} (h : PLaid w) (hb : Below w.heap.size w w') : PLaid w' :=
  ⟨h.r.below hb, h.wd.below hb, h.errs.low hb h.low, h.pows.low hb h.low, Nat.le_trans h.low hb.size⟩
/-- words in memory, as one reads them -/
def WAt (w : World) (a : Option Addr) (c : Nat) (wl : List (List UInt8)) : Prop := ∀ (k : Nat) y, wl[k]? = some y → ∃ g, a = some ⟨g, 0, none⟩ ∧ wl.length ≤ c ∧ w.cell? ⟨g, k, none⟩ = some (.string ⟨y.toArray⟩)
theorem WAt.below {w w' : World} {a : Option Addr} {c : Nat} {wl : List (List UInt8)} (h : WAt w a c wl) (hb : Below w.heap.size w w') : WAt w' a c wl := fun k y hk => by
  obtain ⟨g, h1, h2, h3⟩ := h k y hk
  exact ⟨g, h1, h2, (hb.cell (World.block_lt_of_cell? _ _ h3)).trans h3⟩
theorem words_count (s : List UInt8) (hs : s.length ≤ 20000) : (Ld.words s).length ≤ 20001 := by
  have h : ∀ l : List UInt8, (Ld.split 32 l).length ≤ l.length + 1 := by
    intro l
    induction l with
    | nil => simp [Ld.split]
    | cons a r ih =>
      unfold Ld.split
      by_cases h : a = 32
      · rw [if_pos h]; simp; omega
      · rw [if_neg h]
        cases hs : Ld.split 32 r with
        | nil => simp
        | cons x t => rw [hs] at ih; simp at ih ⊢; omega
  unfold Ld.words
  exact Nat.le_trans (List.length_filter_le _ _) (Nat.le_trans (h s) (by omega))
theorem rwords2 (s : List UInt8) (w : World) (hs : s.length ≤ 20000) (hL : PLaid w) :
    Calls Tryz.prog 50 #[.string ⟨s.toArray⟩] w fun e w' => ∃ a c, e = .returned (.slice a (Ld.words s).length c) ∧ WAt w' a c (Ld.words s) ∧ Below w.heap.size w w' := by
  obtain ⟨m, hm⟩ := hL.r.len
  refine (rwords_any ⟨s.toArray⟩ m w (by simp [ByteArray.size]; omega) hm).mono ?_
  rintro e w' ⟨v, rfl, ho, hb⟩
  have e0 : (⟨s.toArray⟩ : ByteArray).data.toList = s := rfl
  rw [e0] at ho
  rcases ho.2 with ⟨rfl, h0⟩ | ⟨g, cap, cur, rfl, _, hcur, hcap, _, _, htk⟩
  · refine ⟨none, 0, by rw [h0], fun k y hk => ?_, hb⟩
    rw [List.length_eq_zero_iff.1 h0] at hk
    simp at hk
  · refine ⟨_, cap, rfl, fun k y hk => ⟨g, rfl, hcap, ?_⟩, hb⟩
    exact row_cell hcur htk (by rw [List.getElem?_map, hk]; rfl)
/-- what ProgramParse comes to -/
def RParsed (w : World) (res : (Nat × Option Nat) ⊕ Ld.Prg) (e : Ending) (w' : World) : Prop :=
  Below w.heap.size w w' ∧ match res with
    | .inl (er, pl) => e = .returned (.tuple #[.agg #[.slice none 0 0, .slice none 0 0], faultV (er : Int) (match pl with | none => -1 | some p => (p : Int))]) ∧ er ≠ 0
    | .inr p => ∃ nv rv, e = .returned (.tuple #[.agg #[nv, rv], faultV 0 (-1)]) ∧ IsRPrg w' p (.agg #[nv, rv]) ∧ Ld.check p = none
theorem RdY.start {w : World} {b q : Nat} {W : World} (hblk : W.heap[b]? = some (.cells #[.slice none 0 0, .slice none 0 0] 30 (0, 0))) (hlo : Below b w W) : RdY b q w [] [] [] [] (.slice none 0 0) (.slice none 0 0) (.slice none 0 0) (.slice none 0 0) [] W :=
  ⟨hblk, World.ownsRow_nil _ _ _ _, World.ownsRow_nil _ _ _ _, World.ownsRow_nil _ _ _ _, World.ownsRow_nil _ _ _ _, (fun _ e _ => by cases e), (fun _ => rfl), rfl, (fun i g v h => by simp at h), (fun n hn => by simp at hn), (fun n hn => by simp at hn), hlo⟩
/-- it stands where blocks below b turn -/
theorem RdY.moved {b q : Nat} {w0 : World} {ns : List Ld.Nme} {rs : List Ld.Rng} {ps gs : List Nat} {nv rv pv gv : Value} {vs : List Value} {W W' : World} (h : RdY b q w0 ns rs ps gs nv rv pv gv vs W) (hbq : b < q) (hk : ∀ k, b ≤ k → k < W.heap.size → W'.heap[k]? = W.heap[k]?) : RdY b q W' ns rs ps gs nv rv pv gv vs W' :=
  have key : ∀ k, q ≤ k → k < W.heap.size → W'.heap[k]? = W.heap[k]? := fun k h1 h2 => hk k (by omega) h2
  ⟨(hk b (Nat.le_refl _) h.lt).trans h.blk, own_moved h.on key, own_moved h.org key, own_moved h.op key, own_moved h.og key, h.ap, h.gnil, h.len, (fun i g v h1 h2 => by
    obtain ⟨x, l, p, e1, e2, e3, e4⟩ := h.ex i g v h1 h2
    refine ⟨x, l, p, e1, e2, e3, IsRx.stay ?_ (fun _ h => h) x p e4⟩
    intro k i u hok hc
    rw [World.cell?_of_block (w' := W') (w := W) (key k hok.1 (World.block_lt_of_cell? _ _ hc))]; exact hc), h.bn, h.br, Below.refl _ _⟩
/-- while a name is put: its place's row stands, behind the first append; the block, behind the second -/
theorem RdY.midP {b q : Nat} {w0 : World} {ns : List Ld.Nme} {rs : List Ld.Rng} {ps gs : List Nat} {nv rv pv gv : Value} {vs : List Value} {W W1 : World} (h : RdY b q w0 ns rs ps gs nv rv pv gv vs W) (o1 : Obj) (g1 : (W.alloc o1).grownBy W1 nv.ownBlock) : W1.ownsRow q 3 1 pv ps.length (ps.map intV) := (h.op.alloc o1).kept g1 (own_apart (h.op.alloc o1) (h.on.alloc o1) (by decide))
theorem RdY.midG {b q : Nat} {w0 : World} {ns : List Ld.Nme} {rs : List Ld.Rng} {ps gs : List Nat} {nv rv pv gv : Value} {vs : List Value} {W W1 : World} (h : RdY b q w0 ns rs ps gs nv rv pv gv vs W) (o1 : Obj) (g1 : (W.alloc o1).grownBy W1 rv.ownBlock) : W1.ownsRow q 3 1 gv gs.length (gs.map intV) := (h.og.alloc o1).kept g1 (own_apart (h.og.alloc o1) (h.org.alloc o1) (by decide))
theorem RdY.keepN {b q : Nat} {w0 : World} {ns : List Ld.Nme} {rs : List Ld.Rng} {ps gs : List Nat} {nv rv pv gv : Value} {vs : List Value} {W W1 W2 : World} (h : RdY b q w0 ns rs ps gs nv rv pv gv vs W) (hq : q ≤ W.heap.size) (o1 o2 : Obj) (g1 : (W.alloc o1).grownBy W1 nv.ownBlock) (g2 : (W1.alloc o2).grownBy W2 pv.ownBlock) (k : Nat) (hk : k < q) : W2.heap[k]? = W.heap[k]? := by
  have z1 := g1.size
  have z2 := g2.size
  rw [World.size_alloc] at z1 z2
  rw [g2.block k (by rw [World.size_alloc]; omega) (fun e => by have := (h.op.lt k e.symm).1; omega), Below.heap_alloc _ _ _ (by omega), g1.block k (by rw [World.size_alloc]; omega) (fun e => by have := (h.on.lt k e.symm).1; omega), Below.heap_alloc _ _ _ (by omega)]
theorem RdY.keepR {b q : Nat} {w0 : World} {ns : List Ld.Nme} {rs : List Ld.Rng} {ps gs : List Nat} {nv rv pv gv : Value} {vs : List Value} {W W1 W2 : World} (h : RdY b q w0 ns rs ps gs nv rv pv gv vs W) (hq : q ≤ W.heap.size) (o1 o2 : Obj) (g1 : (W.alloc o1).grownBy W1 rv.ownBlock) (g2 : (W1.alloc o2).grownBy W2 gv.ownBlock) (k : Nat) (hk : k < q) : W2.heap[k]? = W.heap[k]? := by
  have z1 := g1.size
  have z2 := g2.size
  rw [World.size_alloc] at z1 z2
  rw [g2.block k (by rw [World.size_alloc]; omega) (fun e => by have := (h.og.lt k e.symm).1; omega), Below.heap_alloc _ _ _ (by omega), g1.block k (by rw [World.size_alloc]; omega) (fun e => by have := (h.org.lt k e.symm).1; omega), Below.heap_alloc _ _ _ (by omega)]
/-- numbers are appended to an own row -/
theorem append_ints {W : World} (base : Nat) (ty : TypeId) (v sv : Value) (ps gs : List Nat) (hown : W.ownsRow base 3 1 v ps.length (ps.map intV)) (hs : W.ownsRow base 3 1 sv gs.length (gs.map intV)) (hb : base ≤ W.heap.size) (hx : ps.length ≤ 1000000) (hy : gs.length ≤ 1000000) :
    ∃ v' W', (Builtin.append_ #[22, 22] ty #[v, sv]).run Tryz.prog W = .ok v' W' ∧ W'.ownsRow base 3 1 v' (ps.length + gs.length) ((ps ++ gs).map intV) ∧ W.grownBy W' v.ownBlock := by
  obtain ⟨i0, hi0, hz0, hz1, hz2⟩ := info_parts Tryz.infoInt
  by_cases h0 : gs = []
  · subst h0
    obtain ⟨a, c, rfl⟩ := own_slice hs
    exact ⟨v, W, append_zero base _ ty _ i0 1 Tryz.underlying22 hi0 v _ _ hown a c, by simpa using hown, ⟨rfl, rfl, rfl, Nat.le_refl _, fun _ _ _ => rfl⟩⟩
  · rcases hs.2 with ⟨_, h1⟩ | ⟨g, cap, cur, rfl, _, hcur, hcap, _, _, htk⟩
    · exact (h0 (List.length_eq_zero_iff.1 h1)).elim
    · obtain ⟨v', W', h1, h2, h3, _⟩ := run_append_own_at (P := Tryz.prog) W base 22 ty 3 i0 _ 1 8 Tryz.underlying22 hi0 hz0 hz1 hz2 rfl (by decide) v ps.length (ps.map intV) hown ⟨g, 0, none⟩ gs.length cap (gs.map intV) (by simp) (fun j u hu => by
        have := row_cell hcur htk hu
        cases j <;> simpa [Addr.add] using this) (fun u hu => by
        obtain ⟨b, _, rfl⟩ := List.mem_map.1 hu
        rfl) (by unfold maxLen; omega) (by omega) hb
      exact ⟨v', W', h1, by rw [List.map_append]; exact h2, h3⟩
theorem Tryz.infoRName : (Tryz.prog.info? 93).map (fun i => (i.zero, i.size, i.bytes)) = some (some (.agg #[.string ⟨#[]⟩, .int .i64 0, .int .i64 0]), 3, 32) := by kernel_rfl
theorem Tryz.infoRRung : (Tryz.prog.info? 97).map (fun i => (i.zero, i.size, i.bytes)) = some (some (.agg #[.int .i64 0, .string ⟨#[]⟩, .pointer none]), 3, 32) := by kernel_rfl
end
section
namespace Ld
def litA : Ex := ⟨2, [97], []⟩
def lit : Prg := ⟨[⟨[97], 1, 0⟩, ⟨[109], 2, 0⟩], [⟨2, [109], some litA⟩]⟩
theorem checked_check (r : Rdg) (p : Prg) (h : checked r = .inr p) : check p = none := by
  unfold checked at h
  split at h
  · rename_i h1; cases h; exact h1
  · cases h
  · cases h
/-- what is read has nothing wrong -/
theorem parse_check (l : List UInt8) (p : Prg) (h : parse l = .inr p) : check p = none := by
  unfold parse at h
  split at h
  · cases h
  · split at h
    · cases h
    · exact checked_check _ p h
theorem litA_text : litA.text = [97] := by simp [litA, Ex.text]
theorem litA_parse : Ex.parse [97] = .inr litA := by kernel_rfl
theorem litA_named : litA.named true = [[97]] := by simp [litA, Ex.named]
theorem lit_check : check lit = none := by
  have h0 : number lit.names [97] = 0 := by kernel_rfl
  have h1 : number lit.names [109] = 1 := by kernel_rfl
  have n1 : Nm.name [97] = true := by kernel_rfl
  have n2 : Nm.name [109] = true := by kernel_rfl
  have a0 : nameAt lit.names 0 = 0 := by rw [nameAt_at _ _ (by decide)]; show wrongN lit.names 0 ⟨[97], 1, 0⟩ = 0; simp [wrongN, n1, h0, mayCount, counted]
  have a1 : nameAt lit.names 1 = 0 := by rw [nameAt_at _ _ (by decide)]; show wrongN lit.names 1 ⟨[109], 2, 0⟩ = 0; simp [wrongN, n2, h1, mayCount, counted]
  have hk : known lit.names litA = true := by simp [known, litA_named, h0]
  have hka : kindAt lit.names 1 = 2 := rfl
  have b0 : rungAt lit 0 = 0 := by rw [rungAt_at _ _ (by decide)]; show wrongR lit.names ⟨2, [109], some litA⟩ = 0; simp [wrongR, h1, hka, kindOf, hk]
  have hb : bad (nameAt lit.names) 2 = none := by simp [bad, a0, a1]
  have hc : bad (rungAt lit) 1 = none := by simp [bad, b0]
  have e1 : lit.names.length = 2 := rfl
  have e2 : lit.rungs.length = 1 := rfl
  simp [check, e1, e2, hb, hc]
theorem lit_text : text lit = [105, 110, 112, 117, 116, 32, 97, 10, 99, 111, 105, 108, 32, 109, 10, 115, 101, 116, 32, 109, 32, 61, 32, 97, 10] := by
  rw [text, if_pos lit_check]
  simp [lit, linesT, nameT, rungT, headT, condT, litA_text, counted, nameW, rungW, ended]
theorem lit_parse : parse [105, 110, 112, 117, 116, 32, 97, 10, 99, 111, 105, 108, 32, 109, 10, 115, 101, 116, 32, 109, 32, 61, 32, 97, 10] = .inr lit := by
  have h := parse_text lit lit_check (fun r hr x hx => ?_) (by rw [lit_text]; decide) (fun r hr => ?_)
  · rw [lit_text] at h; exact h
  · simp only [lit, List.mem_singleton] at hr
    subst hr
    cases hx
    exact ⟨_, litA_parse⟩
  · simp only [lit, List.mem_singleton] at hr
    subst hr
    show litA.text.length ≤ _
    rw [litA_text]; decide
theorem lit_number : number lit.names [109] = 1 := by kernel_rfl
end Ld
end
section
open Go.RowKit
/-- an expression's rows lie where interface values do -/
theorem IsEx.head {ok : Nat → Prop} {w : World} : ∀ (x : Ex) (v : Value), IsEx ok w x v → IsEx (fun g => ∃ t y, w.cell? ⟨g, 0, none⟩ = some (.iface t y)) w x v := by
  intro x
  induction x using Ex.ind with
  | h k nm l ih =>
    intro v h
    have sub : ∀ (i : Nat) (P : Value → Prop), (l.map fun x => IsEx (fun g => ∃ t y, w.cell? ⟨g, 0, none⟩ = some (.iface t y)) w x)[i]? = some P → ∃ Q : Value → Prop, (l.map fun x => IsEx ok w x)[i]? = some Q ∧ ∀ u, Q u → P u := by
      intro i P hP
      rw [List.getElem?_map] at hP
      cases hl : l[i]? with
      | none => rw [hl] at hP; simp at hP
      | some y =>
        rw [hl] at hP
        simp only [Option.map_some, Option.some.injEq] at hP
        exact ⟨IsEx ok w y, by rw [List.getElem?_map, hl]; rfl, fun u hu => by rw [← hP]; exact ih y (List.mem_of_getElem? hl) u hu⟩
    have hlist : ∀ t, IsList ok w t l.length (l.map fun x => IsEx ok w x) v → IsList (fun g => ∃ t y, w.cell? ⟨g, 0, none⟩ = some (.iface t y)) w t l.length (l.map fun x => IsEx (fun g => ∃ t y, w.cell? ⟨g, 0, none⟩ = some (.iface t y)) w x) v := by
      rintro t ⟨h1, h2, g, cap, h3, h4, h5, h6⟩
      have hg : ∃ t y, w.cell? ⟨g, 0, none⟩ = some (.iface t y) := by
        obtain ⟨u, hu, hx⟩ := h6 0 (IsEx ok w l[0]) (by rw [List.getElem?_map, List.getElem?_eq_getElem (by omega)]; rfl)
        obtain ⟨t, y, rfl⟩ := IsEx.iface _ u hx
        exact ⟨t, y, hu⟩
      refine ⟨h1, h2, g, cap, h3, h4, hg, ?_⟩
      intro i P hP
      obtain ⟨Q, hQ, hq⟩ := sub i P hP
      obtain ⟨u, hu, hx⟩ := h6 i Q hQ
      exact ⟨u, hu, hq u hx⟩
    match k, h with
    | 0, h => simp only [IsEx] at h ⊢; exact h
    | 1, h => simp only [IsEx] at h ⊢; exact h
    | 2, h => simp only [IsEx] at h ⊢; exact h
    | 3, h => simp only [IsEx] at h ⊢; exact h
    | 4, h => simp only [IsEx] at h ⊢; exact h
    | 5, h =>
      simp only [IsEx] at h ⊢
      obtain ⟨h1, h2, u, h3, h4⟩ := h
      refine ⟨h1, h2, u, h3, ?_⟩
      intro P hP
      obtain ⟨Q, hQ, hq⟩ := sub 0 P hP
      exact hq u (h4 Q hQ)
    | 6, h => simp only [IsEx] at h ⊢; exact ⟨h.1, hlist _ h.2⟩
    | 7, h => simp only [IsEx] at h ⊢; exact ⟨h.1, hlist _ h.2⟩
    | n + 8, h => simp only [IsEx] at h
namespace Sl
/-- a block whose first cell is a text or an interface value -/
def Plain (w : World) (g : Nat) : Prop := (∃ s, w.cell? ⟨g, 0, none⟩ = some (.string s)) ∨ ∃ t y, w.cell? ⟨g, 0, none⟩ = some (.iface t y)
/-- such blocks stand -/
def PStay (w w' : World) : Prop := ∀ g i u, Plain w g → w.cell? ⟨g, i, none⟩ = some u → w'.cell? ⟨g, i, none⟩ = some u
theorem cond_stay {w w' : World} (hs : PStay w w') {x : Option Ex} {v : Value} (h : CondAt w x v) : CondAt w' x v := by
  cases x with
  | none => exact h
  | some x => exact ⟨IsEx.stay (fun g i u hg hc => hs g i u (.inr hg) hc) (fun _ _ => trivial) x v (IsEx.head x v h.1), h.2⟩
theorem names_stay {w w' : World} (hs : PStay w w') {sv : Value} {ns : List Ld.Nme} (h : NamesAt w sv ns) : NamesAt w' sv ns := by
  rcases h with h | ⟨g, cap, h1, h2, h3, h4⟩
  · exact .inl h
  · refine .inr ⟨g, cap, h1, h2, h3, fun i n hi => ?_⟩
    have h0 : Plain w g := by
      have hil := (List.getElem?_eq_some_iff.1 hi).1
      have := (h4 0 (ns[0]'(by omega)) (List.getElem?_eq_getElem _)).1
      exact .inl ⟨_, by simpa using this⟩
    obtain ⟨c1, c2, c3, c4⟩ := h4 i n hi
    exact ⟨hs _ _ _ h0 c1, hs _ _ _ h0 c2, hs _ _ _ h0 c3, c4⟩
theorem PStay.below {w w' : World} (hb : Below w.heap.size w w') : PStay w w' := fun _ _ _ _ hc => (hb.cell (World.block_lt_of_cell? _ _ hc)).trans hc
/-- names that are laid -/
structure PN (wS : World) (b : Nat) (ns : List Ld.Nme) (nv : Value) (W : World) : Prop where
  low : Below b wS W
  blk : W.heap[b]? = some (.cells #[nv, .slice none 0 0] 26 (0, 0))
  on : W.ownsRow (b + 1) 135 3 nv ns.length (ns.flatMap nmCells)
  bn : ∀ n, n ∈ ns → n.name.length ≤ maxLen ∧ I64 n.kind ∧ I64 n.count
theorem PN.lt {wS : World} {b : Nat} {ns : List Ld.Nme} {nv : Value} {W : World} (h : PN wS b ns nv W) : b < W.heap.size := (Array.getElem?_eq_some_iff.1 h.blk).1
theorem PN.below {wS : World} {b : Nat} {ns : List Ld.Nme} {nv : Value} {W W' : World} (h : PN wS b ns nv W) (hb : Below W.heap.size W W') : PN wS b ns nv W' :=
  ⟨h.low.trans (hb.mono (Nat.le_of_lt h.lt)), (hb.block _ h.lt).trans h.blk, h.on.kept (row := none) (grown_below hb) (by cases nv.ownBlock <;> simp), h.bn⟩
theorem PN.put {wS : World} {b : Nat} {ns : List Ld.Nme} {nv : Value} {W wC : World} (h : PN wS b ns nv W) (n : Ld.Nme) (hn : n.name.length ≤ maxLen ∧ I64 n.kind ∧ I64 n.count) (g cap : Nat) (hown : wC.ownsRow (b + 1) 135 3 (.slice (some ⟨g, 0, none⟩) (ns.length + 1) cap) (ns.length + 1) (ns.flatMap nmCells ++ nmCells n)) (hg : W.grownBy wC nv.ownBlock) :
    (wC.cell? ⟨b, 0, none⟩ = some nv ∧ wC.frozen? ⟨b, 0, none⟩ = false) ∧ PN wS b (ns ++ [n]) (.slice (some ⟨g, 0, none⟩) (ns.length + 1) cap) (wC.setCell ⟨b, 0, none⟩ (.slice (some ⟨g, 0, none⟩) (ns.length + 1) cap)) := by
  have hbk : wC.heap[b]? = some (.cells #[nv, .slice none 0 0] 26 (0, 0)) := (hg.block b h.lt (fun e => by have := (h.on.lt b e.symm).1; omega)).trans h.blk
  obtain ⟨k1, k2, k3, k4⟩ := grown_store (b := b) (q := b + 1) (i := 0) (v' := .slice (some ⟨g, 0, none⟩) (ns.length + 1) cap) h.blk h.low hg (fun g e => (h.on.lt g e).1) (by omega) h.lt
  refine ⟨⟨by rw [Lib.cell_of_heap hbk]; rfl, Lib.frozen_of_heap hbk 0⟩, k3, by simpa using k1, ?_, ?_⟩
  · have e1 : (ns ++ [n]).length = ns.length + 1 := by simp
    have e2 : (ns ++ [n]).flatMap nmCells = ns.flatMap nmCells ++ nmCells n := by simp
    rw [e1, e2]
    exact hown.kept k4 (.inr (by intro e; have := (hown.lt g rfl).1; simp only [Value.ownBlock, Option.some.injEq] at e; omega))
  · intro m hm
    rw [List.mem_append] at hm
    rcases hm with hm | hm
    · exact h.bn m hm
    · simp at hm; subst hm; exact hn
theorem PN.names {wS : World} {b : Nat} {ns : List Ld.Nme} {nv : Value} {W : World} (h : PN wS b ns nv W) (hl : ns.length ≤ 1000000) : NamesAt W nv ns := by
  rcases h.on.2 with ⟨rfl, h0⟩ | ⟨g, cap, cur, rfl, _, hcur, hcap, _, _, htk⟩
  · exact .inl ⟨List.length_eq_zero_iff.1 h0, _, _, rfl⟩
  · refine .inr ⟨g, cap, rfl, hcap, hl, fun i n hi => ?_⟩
    have hc := fun j hj => flat3 nmCells (fun _ => rfl) ns i n hi j hj
    exact ⟨row_cell hcur htk (hc 0 (by omega)), row_cell hcur htk (hc 1 (by omega)), row_cell hcur htk (hc 2 (by omega)), h.bn n (List.mem_of_getElem? hi)⟩
/-- rungs that are laid -/
structure PR (wS : World) (b : Nat) (ns : List Ld.Nme) (rs : List (Ld.Rng × Value)) (nv rv : Value) (W : World) : Prop where
  low : Below b wS W
  blk : W.heap[b]? = some (.cells #[nv, rv] 26 (0, 0))
  nat : NamesAt W nv ns
  org : W.ownsRow (b + 1) 131 3 rv rs.length (rs.flatMap rgCells)
  br : ∀ r, r ∈ rs → r.1.name.length ≤ maxLen ∧ I64 r.1.kind ∧ CondAt W r.1.cond r.2
  e0 : rs = [] → rv = .slice none 0 0
theorem PN.rungs {wS : World} {b : Nat} {ns : List Ld.Nme} {nv : Value} {W : World} (h : PN wS b ns nv W) (hl : ns.length ≤ 1000000) : PR wS b ns [] nv (.slice none 0 0) W :=
  ⟨h.low, h.blk, h.names hl, ⟨rfl, .inl ⟨rfl, rfl⟩⟩, (fun r hr => by cases hr), fun _ => rfl⟩
theorem PR.lt {wS : World} {b : Nat} {ns : List Ld.Nme} {rs : List (Ld.Rng × Value)} {nv rv : Value} {W : World} (h : PR wS b ns rs nv rv W) : b < W.heap.size := (Array.getElem?_eq_some_iff.1 h.blk).1
theorem PR.below {wS : World} {b : Nat} {ns : List Ld.Nme} {rs : List (Ld.Rng × Value)} {nv rv : Value} {W W' : World} (h : PR wS b ns rs nv rv W) (hb : Below W.heap.size W W') : PR wS b ns rs nv rv W' :=
  ⟨h.low.trans (hb.mono (Nat.le_of_lt h.lt)), (hb.block _ h.lt).trans h.blk, h.nat.below hb, h.org.kept (row := none) (grown_below hb) (by cases rv.ownBlock <;> simp), fun r hr => ⟨(h.br r hr).1, (h.br r hr).2.1, (h.br r hr).2.2.below hb⟩, h.e0⟩
theorem PR.apart {wS : World} {b : Nat} {ns : List Ld.Nme} {rs : List (Ld.Rng × Value)} {nv rv : Value} {W : World} (h : PR wS b ns rs nv rv W) {g : Nat} (hg : Plain W g) : g ≠ b ∧ some g ≠ rv.ownBlock := by
  constructor
  · intro e
    subst e
    obtain ⟨a, c, rfl, _⟩ := h.nat.slice
    have h0 : W.cell? ⟨g, 0, none⟩ = some (.slice a ns.length c) := by rw [Lib.cell_of_heap h.blk]; rfl
    rcases hg with ⟨s, h1⟩ | ⟨t, y, h1⟩
    · rw [h0] at h1; cases h1
    · rw [h0] at h1; cases h1
  · intro e
    cases rs with
    | nil => rw [h.e0 rfl] at e; cases e
    | cons r rs =>
      rcases h.org.2 with ⟨rfl, _⟩ | ⟨g', cap, cur, rfl, _, hcur, hcap, _, _, htk⟩
      · cases e
      · simp only [Value.ownBlock, Option.some.injEq] at e
        subst e
        have h0 : W.cell? ⟨g, 0, none⟩ = some (.int .i64 r.1.kind) := row_cell hcur htk (by simp [rgCells])
        rcases hg with ⟨s, h1⟩ | ⟨t, y, h1⟩
        · rw [h0] at h1; cases h1
        · rw [h0] at h1; cases h1
theorem PR.put {wS : World} {b : Nat} {ns : List Ld.Nme} {rs : List (Ld.Rng × Value)} {nv rv : Value} {W wC : World} (h : PR wS b ns rs nv rv W) (r : Ld.Rng × Value) (hr : r.1.name.length ≤ maxLen ∧ I64 r.1.kind ∧ CondAt W r.1.cond r.2) (g cap : Nat) (hown : wC.ownsRow (b + 1) 131 3 (.slice (some ⟨g, 0, none⟩) (rs.length + 1) cap) (rs.length + 1) (rs.flatMap rgCells ++ rgCells r)) (hg : W.grownBy wC rv.ownBlock) :
    (wC.cell? ⟨b, 1, none⟩ = some rv ∧ wC.frozen? ⟨b, 1, none⟩ = false) ∧ PR wS b ns (rs ++ [r]) nv (.slice (some ⟨g, 0, none⟩) (rs.length + 1) cap) (wC.setCell ⟨b, 1, none⟩ (.slice (some ⟨g, 0, none⟩) (rs.length + 1) cap)) := by
  have hbk : wC.heap[b]? = some (.cells #[nv, rv] 26 (0, 0)) := (hg.block b h.lt (fun e => by have := (h.org.lt b e.symm).1; omega)).trans h.blk
  obtain ⟨k1, k2, k3, k4⟩ := grown_store (b := b) (q := b + 1) (i := 1) (v' := .slice (some ⟨g, 0, none⟩) (rs.length + 1) cap) h.blk h.low hg (fun g e => (h.org.lt g e).1) (by omega) h.lt
  have hst : PStay W (wC.setCell ⟨b, 1, none⟩ (.slice (some ⟨g, 0, none⟩) (rs.length + 1) cap)) := fun g' i u hp hc => by
    obtain ⟨n1, n2⟩ := h.apart hp
    exact k4.cell (hg.cell hc n2) (fun e => n1 (by simpa using e))
  refine ⟨⟨by rw [Lib.cell_of_heap hbk]; rfl, Lib.frozen_of_heap hbk 1⟩, k3, by simpa using k1, names_stay hst h.nat, ?_, ?_, fun e => by simp at e⟩
  · have e1 : (rs ++ [r]).length = rs.length + 1 := by simp
    have e2 : (rs ++ [r]).flatMap rgCells = rs.flatMap rgCells ++ rgCells r := by simp
    rw [e1, e2]
    exact hown.kept k4 (.inr (by intro e; have := (hown.lt g rfl).1; simp only [Value.ownBlock, Option.some.injEq] at e; omega))
  · intro m hm
    rw [List.mem_append] at hm
    rcases hm with hm | hm
    · exact ⟨(h.br m hm).1, (h.br m hm).2.1, cond_stay hst (h.br m hm).2.2⟩
    · simp only [List.mem_singleton] at hm
      subst hm
      exact ⟨hr.1, hr.2.1, cond_stay hst hr.2.2⟩
/-- what was made is a program -/
theorem PR.prg {wS : World} {b : Nat} {ns : List Ld.Nme} {rs : List (Ld.Rng × Value)} {nv rv : Value} {W : World} (h : PR wS b ns rs nv rv W) (hl : rs.length ≤ 1000000) : IsPrg W ⟨ns, rs.map fun r => r.1⟩ (.agg #[nv, rv]) := by
  refine ⟨nv, rv, rfl, h.nat, ?_⟩
  rcases h.org.2 with ⟨rfl, h0⟩ | ⟨g, cap, cur, rfl, _, hcur, hcap, _, _, htk⟩
  · exact .inl ⟨by simpa using h0, _, _, rfl⟩
  · refine .inr ⟨g, cap, by simp, by simpa using hcap, by simpa using hl, fun i r hi => ?_⟩
    rw [List.getElem?_map] at hi
    cases hrs : rs[i]? with
    | none => rw [hrs] at hi; cases hi
    | some p =>
      rw [hrs] at hi
      simp only [Option.map_some, Option.some.injEq] at hi
      subst hi
      have hc := fun j hj => flat3 rgCells (fun _ => rfl) rs i p hrs j hj
      obtain ⟨b1, b2, b3⟩ := h.br p (List.mem_of_getElem? hrs)
      exact ⟨p.2, row_cell hcur htk (hc 0 (by omega)), row_cell hcur htk (hc 1 (by omega)), row_cell hcur htk (hc 2 (by omega)), b1, b2, b3⟩
end Sl
end
section
open Go.RowKit
namespace Sl
/-- a block whose first cell is a text, an interface value or a pointer -/
def PlainR (w : World) (g : Nat) : Prop := Plain w g ∨ ∃ a, w.cell? ⟨g, 0, none⟩ = some (.pointer a)
def RStay (w w' : World) : Prop := ∀ g i u, PlainR w g → w.cell? ⟨g, i, none⟩ = some u → w'.cell? ⟨g, i, none⟩ = some u
theorem RStay.names {w w' : World} (h : RStay w w') : PStay w w' := fun g i u hp hc => h g i u (.inl hp) hc
theorem rx_head {ok : Nat → Prop} {w : World} : ∀ (x : Ex) (g : Nat), IsRx ok w x g → IsRx (PlainR w) w x g := by
  intro x
  induction x using Ex.ind with
  | h k nm l ih =>
    intro g h
    rw [IsRx.def] at h ⊢
    obtain ⟨h1, h2, h3, h4, h5, sv, h6, h7⟩ := h
    refine ⟨.inl (.inl ⟨_, h4⟩), h2, h3, h4, h5, sv, h6, ?_⟩
    rcases h7 with h7 | ⟨h0, b, cap, e1, e2, e3, e4⟩
    · exact .inl h7
    · refine .inr ⟨h0, b, cap, e1, e2, ?_, ?_⟩
      · obtain ⟨q, hq, _⟩ := e4 0 (IsRx ok w l[0]) (by rw [List.getElem?_map, List.getElem?_eq_getElem (by omega)]; rfl)
        exact .inr ⟨_, hq⟩
      · intro i P hP
        rw [List.getElem?_map] at hP
        cases hl : l[i]? with
        | none => rw [hl] at hP; simp at hP
        | some y =>
          rw [hl] at hP
          simp only [Option.map_some, Option.some.injEq] at hP
          obtain ⟨q, hq, hx⟩ := e4 i (IsRx ok w y) (by rw [List.getElem?_map, hl]; rfl)
          exact ⟨q, hq, by rw [← hP]; exact ih y (List.mem_of_getElem? hl) q hx⟩
theorem rcond_stay {w w' : World} (hs : RStay w w') {x : Option Ex} {v : Value} (h : RCondAt w x v) : RCondAt w' x v := by
  cases x with
  | none => exact h
  | some x =>
    obtain ⟨g, h1, h2, h3⟩ := h
    exact ⟨g, h1, IsRx.stay hs (fun _ _ => trivial) x g (rx_head x g h2), h3⟩
end Sl
end
end Go.Proofs.YtkpfahbodlfpiaaGreatDoor
