/-
  Programs in memory, as package ladder lays them: two slices; three cells a name, three a rung.
-/
import Derived.Test.YtiamkoghflfjcaaGreatDoorLdMath
import Derived.Test.YtiamkoghflfjcaaGreatDoorExRep
namespace Go.Proofs.YtiamkoghflfjcaaGreatDoor
open Go.RowKit
/-- a number that an int holds -/
def I64 (n : Int) : Prop := -9223372036854775808 ≤ n ∧ n ≤ 9223372036854775807
/-- a name's three cells -/
def NameAt (w : World) (g i : Nat) (n : Ld.Nme) : Prop :=
  w.cell? ⟨g, i * 3, none⟩ = some (.string ⟨n.name.toArray⟩) ∧ w.cell? ⟨g, i * 3 + 1, none⟩ = some (.int .i64 n.kind) ∧ w.cell? ⟨g, i * 3 + 2, none⟩ = some (.int .i64 n.count) ∧ n.name.length ≤ maxLen ∧ I64 n.kind ∧ I64 n.count
/-- a slice of names -/
def NamesAt (w : World) (sv : Value) (ns : List Ld.Nme) : Prop :=
  (ns = [] ∧ ∃ a cap, sv = .slice a 0 cap) ∨ ∃ g cap, sv = .slice (some ⟨g, 0, none⟩) ns.length cap ∧ ns.length ≤ cap ∧ ns.length ≤ 1000000 ∧ ∀ (i : Nat) (n : Ld.Nme), ns[i]? = some n → NameAt w g i n
/-- what a rung asks, in memory -/
def CondAt (w : World) (x : Option Ex) (v : Value) : Prop := match x with
  | none => v = .nilIface
  | some x => IsEx (fun _ => True) w x v ∧ x.size ≤ 1000000 ∧ x.text.length ≤ 1000000
/-- a rung's three cells -/
def RungAt (w : World) (g i : Nat) (r : Ld.Rng) : Prop :=
  ∃ v, w.cell? ⟨g, i * 3, none⟩ = some (.int .i64 r.kind) ∧ w.cell? ⟨g, i * 3 + 1, none⟩ = some (.string ⟨r.name.toArray⟩) ∧ w.cell? ⟨g, i * 3 + 2, none⟩ = some v ∧ r.name.length ≤ maxLen ∧ I64 r.kind ∧ CondAt w r.cond v
def RungsAt (w : World) (sv : Value) (rs : List Ld.Rng) : Prop :=
  (rs = [] ∧ ∃ a cap, sv = .slice a 0 cap) ∨ ∃ g cap, sv = .slice (some ⟨g, 0, none⟩) rs.length cap ∧ rs.length ≤ cap ∧ rs.length ≤ 1000000 ∧ ∀ (i : Nat) (r : Ld.Rng), rs[i]? = some r → RungAt w g i r
/-- a program -/
def IsPrg (w : World) (p : Ld.Prg) (v : Value) : Prop := ∃ nv rv, v = .agg #[nv, rv] ∧ NamesAt w nv p.names ∧ RungsAt w rv p.rungs
theorem NameAt.below {w w' : World} {g i : Nat} {n : Ld.Nme} (h : NameAt w g i n) (hb : Below w.heap.size w w') : NameAt w' g i n := by
  obtain ⟨h1, h2, h3, h4⟩ := h
  exact ⟨(hb.cell (World.block_lt_of_cell? _ _ h1)).trans h1, (hb.cell (World.block_lt_of_cell? _ _ h2)).trans h2, (hb.cell (World.block_lt_of_cell? _ _ h3)).trans h3, h4⟩
theorem NamesAt.below {w w' : World} {sv : Value} {ns : List Ld.Nme} (h : NamesAt w sv ns) (hb : Below w.heap.size w w') : NamesAt w' sv ns := by
  rcases h with h | ⟨g, cap, h1, h2, h3, h4⟩
  · exact .inl h
  · exact .inr ⟨g, cap, h1, h2, h3, fun i n hi => (h4 i n hi).below hb⟩
theorem IsEx.aft {ok : Nat → Prop} {w w' : World} {x : Ex} {v : Value} (h : IsEx ok w x v) (hb : Below w.heap.size w w') : IsEx (fun _ => True) w' x v := IsEx.stay (Stay.below hb) (fun _ _ => trivial) x v h
theorem CondAt.below {w w' : World} {x : Option Ex} {v : Value} (h : CondAt w x v) (hb : Below w.heap.size w w') : CondAt w' x v := by
  cases x with
  | none => exact h
  | some x => exact ⟨h.1.aft hb, h.2⟩
theorem RungAt.below {w w' : World} {g i : Nat} {r : Ld.Rng} (h : RungAt w g i r) (hb : Below w.heap.size w w') : RungAt w' g i r := by
  obtain ⟨v, h1, h2, h3, h4, h5, h6⟩ := h
  exact ⟨v, (hb.cell (World.block_lt_of_cell? _ _ h1)).trans h1, (hb.cell (World.block_lt_of_cell? _ _ h2)).trans h2, (hb.cell (World.block_lt_of_cell? _ _ h3)).trans h3, h4, h5, h6.below hb⟩
theorem RungsAt.below {w w' : World} {sv : Value} {rs : List Ld.Rng} (h : RungsAt w sv rs) (hb : Below w.heap.size w w') : RungsAt w' sv rs := by
  rcases h with h | ⟨g, cap, h1, h2, h3, h4⟩
  · exact .inl h
  · exact .inr ⟨g, cap, h1, h2, h3, fun i n hi => (h4 i n hi).below hb⟩
theorem IsPrg.below {w w' : World} {p : Ld.Prg} {v : Value} (h : IsPrg w p v) (hb : Below w.heap.size w w') : IsPrg w' p v := by
  obtain ⟨nv, rv, h1, h2, h3⟩ := h
  exact ⟨nv, rv, h1, h2.below hb, h3.below hb⟩
theorem NamesAt.slice {w : World} {sv : Value} {ns : List Ld.Nme} (h : NamesAt w sv ns) : ∃ a c, sv = .slice a ns.length c ∧ ns.length ≤ 1000000 := by
  rcases h with ⟨rfl, a, c, rfl⟩ | ⟨g, cap, rfl, _, h3, _⟩
  · exact ⟨a, c, rfl, by simp⟩
  · exact ⟨_, _, rfl, h3⟩
theorem RungsAt.slice {w : World} {sv : Value} {rs : List Ld.Rng} (h : RungsAt w sv rs) : ∃ a c, sv = .slice a rs.length c ∧ rs.length ≤ 1000000 := by
  rcases h with ⟨rfl, a, c, rfl⟩ | ⟨g, cap, rfl, _, h3, _⟩
  · exact ⟨a, c, rfl, by simp⟩
  · exact ⟨_, _, rfl, h3⟩
end Go.Proofs.YtiamkoghflfjcaaGreatDoor
