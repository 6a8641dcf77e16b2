/-
  Programs in memory, as package ladder lays them: two slices; three cells a name, three a rung. Rows of bools; all that is old stands, but for two rows. (Out of ScRung and ScStart: for seats without package scan.) What a type switch over an expression comes to, type by type.
-/
import Derived.Test.YtglmpkpcbafgdaaGreatDoorLdMathAll
import Derived.Test.YtglmpkpcbafgdaaGreatDoorExRepAll
namespace Go.Proofs.YtglmpkpcbafgdaaGreatDoor
section
open Go.RowKit
/-- a number that an int holds -/
def I64 (n : Int) : Prop := -9223372036854775808 ≤ n ∧ n ≤ 9223372036854775807
/-- a name's three cells -/
def NameAt (w : World) (g i : Nat) (n : Ld.Nme) : Prop :=
  w.cell? ⟨g, i * 3, none⟩ = some (.string ⟨n.name.toArray⟩) ∧ w.cell? ⟨g, i * 3 + 1, none⟩ = some (.int .i64 n.kind) ∧ w.cell? ⟨g, i * 3 + 2, none⟩ = some (.int .i64 n.count) ∧ n.name.length ≤ maxLen ∧ I64 n.kind ∧ I64 n.count
/-- a slice of names -/
def NamesAt (w : World) (sv : Value) (ns : List Ld.Nme) : Prop :=
  (ns = [] ∧ ∃ a cap, sv = .slice a 0 cap) ∨ ∃ g cap, sv = .slice (some ⟨g, 0, none⟩) ns.length cap ∧ ns.length ≤ cap ∧ ns.length ≤ 1000000 ∧ ∀ (i : Nat) (n : Ld.Nme), ns[i]? = some n → NameAt w g i n
/-- what a rung asks, in memory -/
def CondAt (w : World) (x : Option Ex) (v : Value) : Prop := match x with
  | none => v = .nilIface
  | some x => IsEx (fun _ => True) w x v ∧ x.size ≤ 1000000 ∧ x.text.length ≤ 1000000
/-- a rung's three cells -/
def RungAt (w : World) (g i : Nat) (r : Ld.Rng) : Prop :=
  ∃ v, w.cell? ⟨g, i * 3, none⟩ = some (.int .i64 r.kind) ∧ w.cell? ⟨g, i * 3 + 1, none⟩ = some (.string ⟨r.name.toArray⟩) ∧ w.cell? ⟨g, i * 3 + 2, none⟩ = some v ∧ r.name.length ≤ maxLen ∧ I64 r.kind ∧ CondAt w r.cond v
def RungsAt (w : World) (sv : Value) (rs : List Ld.Rng) : Prop :=
  (rs = [] ∧ ∃ a cap, sv = .slice a 0 cap) ∨ ∃ g cap, sv = .slice (some ⟨g, 0, none⟩) rs.length cap ∧ rs.length ≤ cap ∧ rs.length ≤ 1000000 ∧ ∀ (i : Nat) (r : Ld.Rng), rs[i]? = some r → RungAt w g i r
/-- a program -/
def IsPrg (w : World) (p : Ld.Prg) (v : Value) : Prop := ∃ nv rv, v = .agg #[nv, rv] ∧ NamesAt w nv p.names ∧ RungsAt w rv p.rungs
theorem NameAt.below {w w' : World} {g i : Nat} {n : Ld.Nme} (h : NameAt w g i n) (hb : Below w.heap.size w w') : NameAt w' g i n := by
  obtain ⟨h1, h2, h3, h4⟩ := h
  exact ⟨(hb.cell (World.block_lt_of_cell? _ _ h1)).trans h1, (hb.cell (World.block_lt_of_cell? _ _ h2)).trans h2, (hb.cell (World.block_lt_of_cell? _ _ h3)).trans h3, h4⟩
theorem NamesAt.below {w w' : World} {sv : Value} {ns : List Ld.Nme} (h : NamesAt w sv ns) (hb : Below w.heap.size w w') : NamesAt w' sv ns := by
  rcases h with h | ⟨g, cap, h1, h2, h3, h4⟩
  · exact .inl h
  · exact .inr ⟨g, cap, h1, h2, h3, fun i n hi => (h4 i n hi).below hb⟩
theorem IsEx.aft {ok : Nat → Prop} {w w' : World} {x : Ex} {v : Value} (h : IsEx ok w x v) (hb : Below w.heap.size w w') : IsEx (fun _ => True) w' x v := IsEx.stay (Stay.below hb) (fun _ _ => trivial) x v h
theorem CondAt.below {w w' : World} {x : Option Ex} {v : Value} (h : CondAt w x v) (hb : Below w.heap.size w w') : CondAt w' x v := by
  cases x with
  | none => exact h
  | some x => exact ⟨h.1.aft hb, h.2⟩
theorem RungAt.below {w w' : World} {g i : Nat} {r : Ld.Rng} (h : RungAt w g i r) (hb : Below w.heap.size w w') : RungAt w' g i r := by
  obtain ⟨v, h1, h2, h3, h4, h5, h6⟩ := h
  exact ⟨v, (hb.cell (World.block_lt_of_cell? _ _ h1)).trans h1, (hb.cell (World.block_lt_of_cell? _ _ h2)).trans h2, (hb.cell (World.block_lt_of_cell? _ _ h3)).trans h3, h4, h5, h6.below hb⟩
theorem RungsAt.below {w w' : World} {sv : Value} {rs : List Ld.Rng} (h : RungsAt w sv rs) (hb : Below w.heap.size w w') : RungsAt w' sv rs := by
  rcases h with h | ⟨g, cap, h1, h2, h3, h4⟩
  · exact .inl h
  · exact .inr ⟨g, cap, h1, h2, h3, fun i n hi => (h4 i n hi).below hb⟩
theorem IsPrg.below {w w' : World} {p : Ld.Prg} {v : Value} (h : IsPrg w p v) (hb : Below w.heap.size w w') : IsPrg w' p v := by
  obtain ⟨nv, rv, h1, h2, h3⟩ := h
  exact ⟨nv, rv, h1, h2.below hb, h3.below hb⟩
theorem NamesAt.slice {w : World} {sv : Value} {ns : List Ld.Nme} (h : NamesAt w sv ns) : ∃ a c, sv = .slice a ns.length c ∧ ns.length ≤ 1000000 := by
  rcases h with ⟨rfl, a, c, rfl⟩ | ⟨g, cap, rfl, _, h3, _⟩
  · exact ⟨a, c, rfl, by simp⟩
  · exact ⟨_, _, rfl, h3⟩
theorem RungsAt.slice {w : World} {sv : Value} {rs : List Ld.Rng} (h : RungsAt w sv rs) : ∃ a c, sv = .slice a rs.length c ∧ rs.length ≤ 1000000 := by
  rcases h with ⟨rfl, a, c, rfl⟩ | ⟨g, cap, rfl, _, h3, _⟩
  · exact ⟨a, c, rfl, by simp⟩
  · exact ⟨_, _, rfl, h3⟩
end
section
open Go.RowKit
def boolV (b : Bool) : Value := .bool b
def iV (k : Int) : Value := .int .i64 k
/-- all that is old stands, but for two rows -/
structure Two (gi gc : Nat) (w w' : World) : Prop where
  os : w'.os = w.os
  tape : w'.tape = w.tape
  output : w'.output = w.output
  size : w.heap.size ≤ w'.heap.size
  block : ∀ k, k < w.heap.size → k ≠ gi → k ≠ gc → w'.heap[k]? = w.heap[k]?
theorem Two.refl (gi gc : Nat) (w : World) : Two gi gc w w := ⟨rfl, rfl, rfl, Nat.le_refl _, fun _ _ _ _ => rfl⟩
theorem Two.trans {gi gc : Nat} {A B C : World} (h : Two gi gc A B) (k : Two gi gc B C) : Two gi gc A C :=
  ⟨k.os.trans h.os, k.tape.trans h.tape, k.output.trans h.output, Nat.le_trans h.size k.size, fun i h1 h2 h3 => (k.block i (Nat.lt_of_lt_of_le h1 h.size) h2 h3).trans (h.block i h1 h2 h3)⟩
theorem Two.below {gi gc : Nat} {w w' : World} (h : Below w.heap.size w w') : Two gi gc w w' := ⟨h.os, h.tape, h.output, h.size, fun k hk _ _ => h.block k hk⟩
theorem Two.setI {gi gc : Nat} (w : World) (i : Nat) (v : Value) : Two gi gc w (w.setCell ⟨gi, i, none⟩ v) := ⟨rfl, rfl, rfl, by simp [World.setCell], fun k _ h _ => Below.heap_setCell _ _ _ _ (fun e => h e)⟩
theorem Two.setC {gi gc : Nat} (w : World) (i : Nat) (v : Value) : Two gi gc w (w.setCell ⟨gc, i, none⟩ v) := ⟨rfl, rfl, rfl, by simp [World.setCell], fun k _ _ h => Below.heap_setCell _ _ _ _ (fun e => h e)⟩
theorem upto12 {P : Nat → Prop} (h0 : P 0) (h1 : P 1) (h2 : P 2) (h3 : P 3) (h4 : P 4) (h5 : P 5) (h6 : P 6) (h7 : P 7) (h8 : P 8) (h9 : P 9) (h10 : P 10) (h11 : P 11) (h12 : P 12) (n : Nat) (hn : n ≤ 12) : P n := by
  rcases (show n = 0 ∨ n = 1 ∨ n = 2 ∨ n = 3 ∨ n = 4 ∨ n = 5 ∨ n = 6 ∨ n = 7 ∨ n = 8 ∨ n = 9 ∨ n = 10 ∨ n = 11 ∨ n = 12 by omega) with rfl | rfl | rfl | rfl | rfl | rfl | rfl | rfl | rfl | rfl | rfl | rfl | rfl <;> assumption
theorem makeB (w : World) : ∀ n : Nat, n ≤ 12 → (Instr.makeSlice 33 (.int .i64 (n : Int)) (.int .i64 (n : Int))).run Tryz.prog w = .ok (.slice (some ⟨w.heap.size, 0, none⟩) n n) (w.alloc (.cells ⟨(List.replicate n false).map boolV⟩ 4)) := by
  apply upto12 <;> kernel_rfl
end
section
@[go_sem] theorem asConstConst (v : Value) (w : World) : (Instr.typeAssert (.iface 219 v) 54 219 true).run Tryz.prog w = .ok (.tuple #[v, .bool true]) w := by kernel_rfl
@[go_sem] theorem asConstBit (v : Value) (w : World) : (Instr.typeAssert (.iface 219 v) 54 179 true).run Tryz.prog w = .ok (.tuple #[.string ⟨#[]⟩, .bool false]) w := by kernel_rfl
@[go_sem] theorem asConstRise (v : Value) (w : World) : (Instr.typeAssert (.iface 219 v) 54 180 true).run Tryz.prog w = .ok (.tuple #[.string ⟨#[]⟩, .bool false]) w := by kernel_rfl
@[go_sem] theorem asConstFall (v : Value) (w : World) : (Instr.typeAssert (.iface 219 v) 54 181 true).run Tryz.prog w = .ok (.tuple #[.string ⟨#[]⟩, .bool false]) w := by kernel_rfl
@[go_sem] theorem asConstNot (v : Value) (w : World) : (Instr.typeAssert (.iface 219 v) 54 212 true).run Tryz.prog w = .ok (.tuple #[.agg #[.nilIface], .bool false]) w := by kernel_rfl
@[go_sem] theorem asConstAnd (v : Value) (w : World) : (Instr.typeAssert (.iface 219 v) 54 192 true).run Tryz.prog w = .ok (.tuple #[.slice none 0 0, .bool false]) w := by kernel_rfl
@[go_sem] theorem asConstOr (v : Value) (w : World) : (Instr.typeAssert (.iface 219 v) 54 150 true).run Tryz.prog w = .ok (.tuple #[.slice none 0 0, .bool false]) w := by kernel_rfl
@[go_sem] theorem asBitConst (v : Value) (w : World) : (Instr.typeAssert (.iface 179 v) 54 219 true).run Tryz.prog w = .ok (.tuple #[.bool false, .bool false]) w := by kernel_rfl
@[go_sem] theorem asBitBit (v : Value) (w : World) : (Instr.typeAssert (.iface 179 v) 54 179 true).run Tryz.prog w = .ok (.tuple #[v, .bool true]) w := by kernel_rfl
@[go_sem] theorem asBitRise (v : Value) (w : World) : (Instr.typeAssert (.iface 179 v) 54 180 true).run Tryz.prog w = .ok (.tuple #[.string ⟨#[]⟩, .bool false]) w := by kernel_rfl
@[go_sem] theorem asBitFall (v : Value) (w : World) : (Instr.typeAssert (.iface 179 v) 54 181 true).run Tryz.prog w = .ok (.tuple #[.string ⟨#[]⟩, .bool false]) w := by kernel_rfl
@[go_sem] theorem asBitNot (v : Value) (w : World) : (Instr.typeAssert (.iface 179 v) 54 212 true).run Tryz.prog w = .ok (.tuple #[.agg #[.nilIface], .bool false]) w := by kernel_rfl
@[go_sem] theorem asBitAnd (v : Value) (w : World) : (Instr.typeAssert (.iface 179 v) 54 192 true).run Tryz.prog w = .ok (.tuple #[.slice none 0 0, .bool false]) w := by kernel_rfl
@[go_sem] theorem asBitOr (v : Value) (w : World) : (Instr.typeAssert (.iface 179 v) 54 150 true).run Tryz.prog w = .ok (.tuple #[.slice none 0 0, .bool false]) w := by kernel_rfl
@[go_sem] theorem asRiseConst (v : Value) (w : World) : (Instr.typeAssert (.iface 180 v) 54 219 true).run Tryz.prog w = .ok (.tuple #[.bool false, .bool false]) w := by kernel_rfl
@[go_sem] theorem asRiseBit (v : Value) (w : World) : (Instr.typeAssert (.iface 180 v) 54 179 true).run Tryz.prog w = .ok (.tuple #[.string ⟨#[]⟩, .bool false]) w := by kernel_rfl
@[go_sem] theorem asRiseRise (v : Value) (w : World) : (Instr.typeAssert (.iface 180 v) 54 180 true).run Tryz.prog w = .ok (.tuple #[v, .bool true]) w := by kernel_rfl
@[go_sem] theorem asRiseFall (v : Value) (w : World) : (Instr.typeAssert (.iface 180 v) 54 181 true).run Tryz.prog w = .ok (.tuple #[.string ⟨#[]⟩, .bool false]) w := by kernel_rfl
@[go_sem] theorem asRiseNot (v : Value) (w : World) : (Instr.typeAssert (.iface 180 v) 54 212 true).run Tryz.prog w = .ok (.tuple #[.agg #[.nilIface], .bool false]) w := by kernel_rfl
@[go_sem] theorem asRiseAnd (v : Value) (w : World) : (Instr.typeAssert (.iface 180 v) 54 192 true).run Tryz.prog w = .ok (.tuple #[.slice none 0 0, .bool false]) w := by kernel_rfl
@[go_sem] theorem asRiseOr (v : Value) (w : World) : (Instr.typeAssert (.iface 180 v) 54 150 true).run Tryz.prog w = .ok (.tuple #[.slice none 0 0, .bool false]) w := by kernel_rfl
@[go_sem] theorem asFallConst (v : Value) (w : World) : (Instr.typeAssert (.iface 181 v) 54 219 true).run Tryz.prog w = .ok (.tuple #[.bool false, .bool false]) w := by kernel_rfl
@[go_sem] theorem asFallBit (v : Value) (w : World) : (Instr.typeAssert (.iface 181 v) 54 179 true).run Tryz.prog w = .ok (.tuple #[.string ⟨#[]⟩, .bool false]) w := by kernel_rfl
@[go_sem] theorem asFallRise (v : Value) (w : World) : (Instr.typeAssert (.iface 181 v) 54 180 true).run Tryz.prog w = .ok (.tuple #[.string ⟨#[]⟩, .bool false]) w := by kernel_rfl
@[go_sem] theorem asFallFall (v : Value) (w : World) : (Instr.typeAssert (.iface 181 v) 54 181 true).run Tryz.prog w = .ok (.tuple #[v, .bool true]) w := by kernel_rfl
@[go_sem] theorem asFallNot (v : Value) (w : World) : (Instr.typeAssert (.iface 181 v) 54 212 true).run Tryz.prog w = .ok (.tuple #[.agg #[.nilIface], .bool false]) w := by kernel_rfl
@[go_sem] theorem asFallAnd (v : Value) (w : World) : (Instr.typeAssert (.iface 181 v) 54 192 true).run Tryz.prog w = .ok (.tuple #[.slice none 0 0, .bool false]) w := by kernel_rfl
@[go_sem] theorem asFallOr (v : Value) (w : World) : (Instr.typeAssert (.iface 181 v) 54 150 true).run Tryz.prog w = .ok (.tuple #[.slice none 0 0, .bool false]) w := by kernel_rfl
@[go_sem] theorem asNotConst (v : Value) (w : World) : (Instr.typeAssert (.iface 212 v) 54 219 true).run Tryz.prog w = .ok (.tuple #[.bool false, .bool false]) w := by kernel_rfl
@[go_sem] theorem asNotBit (v : Value) (w : World) : (Instr.typeAssert (.iface 212 v) 54 179 true).run Tryz.prog w = .ok (.tuple #[.string ⟨#[]⟩, .bool false]) w := by kernel_rfl
@[go_sem] theorem asNotRise (v : Value) (w : World) : (Instr.typeAssert (.iface 212 v) 54 180 true).run Tryz.prog w = .ok (.tuple #[.string ⟨#[]⟩, .bool false]) w := by kernel_rfl
@[go_sem] theorem asNotFall (v : Value) (w : World) : (Instr.typeAssert (.iface 212 v) 54 181 true).run Tryz.prog w = .ok (.tuple #[.string ⟨#[]⟩, .bool false]) w := by kernel_rfl
@[go_sem] theorem asNotNot (v : Value) (w : World) : (Instr.typeAssert (.iface 212 v) 54 212 true).run Tryz.prog w = .ok (.tuple #[v, .bool true]) w := by kernel_rfl
@[go_sem] theorem asNotAnd (v : Value) (w : World) : (Instr.typeAssert (.iface 212 v) 54 192 true).run Tryz.prog w = .ok (.tuple #[.slice none 0 0, .bool false]) w := by kernel_rfl
@[go_sem] theorem asNotOr (v : Value) (w : World) : (Instr.typeAssert (.iface 212 v) 54 150 true).run Tryz.prog w = .ok (.tuple #[.slice none 0 0, .bool false]) w := by kernel_rfl
@[go_sem] theorem asAndConst (v : Value) (w : World) : (Instr.typeAssert (.iface 192 v) 54 219 true).run Tryz.prog w = .ok (.tuple #[.bool false, .bool false]) w := by kernel_rfl
@[go_sem] theorem asAndBit (v : Value) (w : World) : (Instr.typeAssert (.iface 192 v) 54 179 true).run Tryz.prog w = .ok (.tuple #[.string ⟨#[]⟩, .bool false]) w := by kernel_rfl
@[go_sem] theorem asAndRise (v : Value) (w : World) : (Instr.typeAssert (.iface 192 v) 54 180 true).run Tryz.prog w = .ok (.tuple #[.string ⟨#[]⟩, .bool false]) w := by kernel_rfl
@[go_sem] theorem asAndFall (v : Value) (w : World) : (Instr.typeAssert (.iface 192 v) 54 181 true).run Tryz.prog w = .ok (.tuple #[.string ⟨#[]⟩, .bool false]) w := by kernel_rfl
@[go_sem] theorem asAndNot (v : Value) (w : World) : (Instr.typeAssert (.iface 192 v) 54 212 true).run Tryz.prog w = .ok (.tuple #[.agg #[.nilIface], .bool false]) w := by kernel_rfl
@[go_sem] theorem asAndAnd (v : Value) (w : World) : (Instr.typeAssert (.iface 192 v) 54 192 true).run Tryz.prog w = .ok (.tuple #[v, .bool true]) w := by kernel_rfl
@[go_sem] theorem asAndOr (v : Value) (w : World) : (Instr.typeAssert (.iface 192 v) 54 150 true).run Tryz.prog w = .ok (.tuple #[.slice none 0 0, .bool false]) w := by kernel_rfl
@[go_sem] theorem asOrConst (v : Value) (w : World) : (Instr.typeAssert (.iface 150 v) 54 219 true).run Tryz.prog w = .ok (.tuple #[.bool false, .bool false]) w := by kernel_rfl
@[go_sem] theorem asOrBit (v : Value) (w : World) : (Instr.typeAssert (.iface 150 v) 54 179 true).run Tryz.prog w = .ok (.tuple #[.string ⟨#[]⟩, .bool false]) w := by kernel_rfl
@[go_sem] theorem asOrRise (v : Value) (w : World) : (Instr.typeAssert (.iface 150 v) 54 180 true).run Tryz.prog w = .ok (.tuple #[.string ⟨#[]⟩, .bool false]) w := by kernel_rfl
@[go_sem] theorem asOrFall (v : Value) (w : World) : (Instr.typeAssert (.iface 150 v) 54 181 true).run Tryz.prog w = .ok (.tuple #[.string ⟨#[]⟩, .bool false]) w := by kernel_rfl
@[go_sem] theorem asOrNot (v : Value) (w : World) : (Instr.typeAssert (.iface 150 v) 54 212 true).run Tryz.prog w = .ok (.tuple #[.agg #[.nilIface], .bool false]) w := by kernel_rfl
@[go_sem] theorem asOrAnd (v : Value) (w : World) : (Instr.typeAssert (.iface 150 v) 54 192 true).run Tryz.prog w = .ok (.tuple #[.slice none 0 0, .bool false]) w := by kernel_rfl
@[go_sem] theorem asOrOr (v : Value) (w : World) : (Instr.typeAssert (.iface 150 v) 54 150 true).run Tryz.prog w = .ok (.tuple #[v, .bool true]) w := by kernel_rfl
end
end Go.Proofs.YtglmpkpcbafgdaaGreatDoor
