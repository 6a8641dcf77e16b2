/-
  Expressions in memory, as package expr lays them: an interface value; And and Or are rows of such. 'ok' says which blocks those rows may lie in. Programs in memory, as package ladder lays them: two slices; three cells a name, three a rung. A table's program, as package route lays it, is the plain one.
-/
import Derived.Test.YtgdmohombcgjbaaGreatDoorRdKeepAll
import Derived.Test.YtgdmohombcgjbaaGreatDoorLdMathAll
import Derived.Test.YtgdmohombcgjbaaGreatDoorRoFineAll
namespace Go.Proofs.YtgdmohombcgjbaaGreatDoor
section
open Go.RowKit
/-- in block g lie, from its head on, values of which these hold -/
def Row (w : World) (g : Nat) (Ps : List (Value → Prop)) : Prop := ∀ i P, Ps[i]? = some P → ∃ u, w.cell? ⟨g, i, none⟩ = some u ∧ P u
/-- the value of a list of that type: a row of at least two -/
def IsList (ok : Nat → Prop) (w : World) (t : Nat) (n : Nat) (Ps : List (Value → Prop)) (v : Value) : Prop :=
  2 ≤ n ∧ n ≤ 9223372036854775807 ∧ ∃ g cap, v = .iface t (.slice (some ⟨g, 0, none⟩) n cap) ∧ n ≤ cap ∧ ok g ∧ Row w g Ps
def IsEx (ok : Nat → Prop) (w : World) : Ex → Value → Prop
  | ⟨0, nm, l⟩ => fun v => nm = [] ∧ l = [] ∧ v = .iface 100 (.bool false)
  | ⟨1, nm, l⟩ => fun v => nm = [] ∧ l = [] ∧ v = .iface 100 (.bool true)
  | ⟨2, nm, l⟩ => fun v => l = [] ∧ nm.length ≤ 8 ∧ v = .iface 102 (.string ⟨nm.toArray⟩)
  | ⟨3, nm, l⟩ => fun v => l = [] ∧ nm.length ≤ 8 ∧ v = .iface 103 (.string ⟨nm.toArray⟩)
  | ⟨4, nm, l⟩ => fun v => l = [] ∧ nm.length ≤ 8 ∧ v = .iface 104 (.string ⟨nm.toArray⟩)
  | ⟨5, nm, l⟩ => fun v => nm = [] ∧ l.length = 1 ∧ ∃ u, v = .iface 59 (.agg #[u]) ∧ ∀ P, (l.map fun x => IsEx ok w x)[0]? = some P → P u
  | ⟨6, nm, l⟩ => fun v => nm = [] ∧ IsList ok w 101 l.length (l.map fun x => IsEx ok w x) v
  | ⟨7, nm, l⟩ => fun v => nm = [] ∧ IsList ok w 143 l.length (l.map fun x => IsEx ok w x) v
  | ⟨_, _, _⟩ => fun _ => False
/-- cells in such blocks stand as they stood -/
def Stay (ok : Nat → Prop) (w w' : World) : Prop := ∀ g i u, ok g → w.cell? ⟨g, i, none⟩ = some u → w'.cell? ⟨g, i, none⟩ = some u
theorem Stay.trans {ok : Nat → Prop} {x y z : World} (h : Stay ok x y) (k : Stay ok y z) : Stay ok x z := fun g i u hg hc => k g i u hg (h g i u hg hc)
theorem Stay.keep {ok : Nat → Prop} {b : Nat} {w w' : World} (hk : Keep b w w') (hb : ∀ g, ok g → g ≠ b) : Stay ok w w' := fun g i u hg hc => by
  rw [hk.cell (p := ⟨g, i, none⟩) (World.block_lt_of_cell? _ _ hc) (hb g hg)]; exact hc
theorem Stay.below {ok : Nat → Prop} {w w' : World} (hk : Below w.heap.size w w') : Stay ok w w' := fun g i u _ hc => by
  rw [hk.cell (p := ⟨g, i, none⟩) (World.block_lt_of_cell? _ _ hc)]; exact hc
theorem Stay.grown {ok : Nat → Prop} {w w' : World} {row : Option Nat} (hk : w.grownBy w' row) (hb : ∀ g, ok g → some g ≠ row) : Stay ok w w' := fun g _ _ hg hc => hk.cell hc (hb g hg)
/-- an expression stands where its cells do; and what is asked of its blocks may be less -/
theorem IsEx.stay {ok ok' : Nat → Prop} {w w' : World} (hs : Stay ok w w') (hok : ∀ g, ok g → ok' g) : ∀ (x : Ex) (v : Value), IsEx ok w x v → IsEx ok' w' x v := by
  intro x
  induction x using Ex.ind with
  | h k nm l ih =>
    intro v h
    have hrow : ∀ g, ok g → Row w g (l.map fun x => IsEx ok w x) → Row w' g (l.map fun x => IsEx ok' w' x) := by
      intro g hg hr i P hP
      rw [List.getElem?_map] at hP
      cases hl : l[i]? with
      | none => rw [hl] at hP; simp at hP
      | some y =>
        rw [hl] at hP
        simp only [Option.map_some, Option.some.injEq] at hP
        obtain ⟨u, hu, hx⟩ := hr i (IsEx ok w y) (by rw [List.getElem?_map, hl]; rfl)
        exact ⟨u, hs g i u hg hu, by rw [← hP]; exact ih y (List.mem_of_getElem? hl) u hx⟩
    have hlist : ∀ t, IsList ok w t l.length (l.map fun x => IsEx ok w x) v → IsList ok' w' t l.length (l.map fun x => IsEx ok' w' x) v := by
      rintro t ⟨h1, h2, g, cap, h3, h4, h5, h6⟩
      exact ⟨h1, h2, g, cap, h3, h4, hok g h5, hrow g h5 h6⟩
    match k, h with
    | 0, h => simp only [IsEx] at h ⊢; exact h
    | 1, h => simp only [IsEx] at h ⊢; exact h
    | 2, h => simp only [IsEx] at h ⊢; exact h
    | 3, h => simp only [IsEx] at h ⊢; exact h
    | 4, h => simp only [IsEx] at h ⊢; exact h
    | 5, h =>
      simp only [IsEx] at h ⊢
      obtain ⟨h1, h2, u, h3, h4⟩ := h
      refine ⟨h1, h2, u, h3, ?_⟩
      intro P hP
      rw [List.getElem?_map] at hP
      cases hl : l[0]? with
      | none => rw [hl] at hP; simp at hP
      | some y =>
        rw [hl] at hP
        simp only [Option.map_some, Option.some.injEq] at hP
        rw [← hP]
        exact ih y (List.mem_of_getElem? hl) u (h4 _ (by rw [List.getElem?_map, hl]; rfl))
    | 6, h => simp only [IsEx] at h ⊢; exact ⟨h.1, hlist _ h.2⟩
    | 7, h => simp only [IsEx] at h ⊢; exact ⟨h.1, hlist _ h.2⟩
    | n + 8, h => simp only [IsEx] at h
/-- an error at a place: an At in a block that is not b -/
def IsErr (b : Nat) (w : World) (v : Value) (err p : Nat) : Prop :=
  ∃ a, a ≠ b ∧ v = .iface 88 (.pointer (some ⟨a, 0, none⟩)) ∧ w.cell? ⟨a, 0, none⟩ = some (.int .i64 (err : Int)) ∧ w.cell? ⟨a, 1, none⟩ = some (.int .i64 (p : Int))
theorem IsErr.stay {b : Nat} {w w' : World} {v : Value} {err p : Nat} (hs : Stay (fun g => g ≠ b) w w') (h : IsErr b w v err p) : IsErr b w' v err p := by
  obtain ⟨a, h1, h2, h3, h4⟩ := h
  exact ⟨a, h1, h2, hs a 0 _ h1 h3, hs a 1 _ h1 h4⟩
/-- What reading comes to in memory: an error, or what is read; the reader's place; all else is as it was. -/
def Read (b : Nat) (s : ByteArray) (d : Nat) (w : World) (r : Ex.Res Ex) (e : Ending) (w' : World) : Prop :=
  Keep b w w' ∧
  match r with
  | .inl (err, p) => ∃ v i, e = .returned (.tuple #[.nilIface, v]) ∧ IsErr b w' v err p ∧ Rd b s i d w'
  | .inr (x, m) => ∃ v, e = .returned (.tuple #[v, .nilIface]) ∧ IsEx (fun g => w.heap.size ≤ g) w' x v ∧ Rd b s m d w'
end
section
open Go.RowKit
/-- a number that an int holds -/
def I64 (n : Int) : Prop := -9223372036854775808 ≤ n ∧ n ≤ 9223372036854775807
/-- a name's three cells -/
def NameAt (w : World) (g i : Nat) (n : Ld.Nme) : Prop :=
  w.cell? ⟨g, i * 3, none⟩ = some (.string ⟨n.name.toArray⟩) ∧ w.cell? ⟨g, i * 3 + 1, none⟩ = some (.int .i64 n.kind) ∧ w.cell? ⟨g, i * 3 + 2, none⟩ = some (.int .i64 n.count) ∧ n.name.length ≤ maxLen ∧ I64 n.kind ∧ I64 n.count
/-- a slice of names -/
def NamesAt (w : World) (sv : Value) (ns : List Ld.Nme) : Prop :=
  (ns = [] ∧ ∃ a cap, sv = .slice a 0 cap) ∨ ∃ g cap, sv = .slice (some ⟨g, 0, none⟩) ns.length cap ∧ ns.length ≤ cap ∧ ns.length ≤ 1000000 ∧ ∀ (i : Nat) (n : Ld.Nme), ns[i]? = some n → NameAt w g i n
/-- what a rung asks, in memory -/
def CondAt (w : World) (x : Option Ex) (v : Value) : Prop := match x with
  | none => v = .nilIface
  | some x => IsEx (fun _ => True) w x v ∧ x.size ≤ 1000000 ∧ x.text.length ≤ 1000000
/-- a rung's three cells -/
def RungAt (w : World) (g i : Nat) (r : Ld.Rng) : Prop :=
  ∃ v, w.cell? ⟨g, i * 3, none⟩ = some (.int .i64 r.kind) ∧ w.cell? ⟨g, i * 3 + 1, none⟩ = some (.string ⟨r.name.toArray⟩) ∧ w.cell? ⟨g, i * 3 + 2, none⟩ = some v ∧ r.name.length ≤ maxLen ∧ I64 r.kind ∧ CondAt w r.cond v
def RungsAt (w : World) (sv : Value) (rs : List Ld.Rng) : Prop :=
  (rs = [] ∧ ∃ a cap, sv = .slice a 0 cap) ∨ ∃ g cap, sv = .slice (some ⟨g, 0, none⟩) rs.length cap ∧ rs.length ≤ cap ∧ rs.length ≤ 1000000 ∧ ∀ (i : Nat) (r : Ld.Rng), rs[i]? = some r → RungAt w g i r
/-- a program -/
def IsPrg (w : World) (p : Ld.Prg) (v : Value) : Prop := ∃ nv rv, v = .agg #[nv, rv] ∧ NamesAt w nv p.names ∧ RungsAt w rv p.rungs
theorem NameAt.below {w w' : World} {g i : Nat} {n : Ld.Nme} (h : NameAt w g i n) (hb : Below w.heap.size w w') : NameAt w' g i n := by
  obtain ⟨h1, h2, h3, h4⟩ := h
  exact ⟨(hb.cell (World.block_lt_of_cell? _ _ h1)).trans h1, (hb.cell (World.block_lt_of_cell? _ _ h2)).trans h2, (hb.cell (World.block_lt_of_cell? _ _ h3)).trans h3, h4⟩
theorem NamesAt.below {w w' : World} {sv : Value} {ns : List Ld.Nme} (h : NamesAt w sv ns) (hb : Below w.heap.size w w') : NamesAt w' sv ns := by
  rcases h with h | ⟨g, cap, h1, h2, h3, h4⟩
  · exact .inl h
  · exact .inr ⟨g, cap, h1, h2, h3, fun i n hi => (h4 i n hi).below hb⟩
theorem IsEx.aft {ok : Nat → Prop} {w w' : World} {x : Ex} {v : Value} (h : IsEx ok w x v) (hb : Below w.heap.size w w') : IsEx (fun _ => True) w' x v := IsEx.stay (Stay.below hb) (fun _ _ => trivial) x v h
theorem CondAt.below {w w' : World} {x : Option Ex} {v : Value} (h : CondAt w x v) (hb : Below w.heap.size w w') : CondAt w' x v := by
  cases x with
  | none => exact h
  | some x => exact ⟨h.1.aft hb, h.2⟩
theorem RungAt.below {w w' : World} {g i : Nat} {r : Ld.Rng} (h : RungAt w g i r) (hb : Below w.heap.size w w') : RungAt w' g i r := by
  obtain ⟨v, h1, h2, h3, h4, h5, h6⟩ := h
  exact ⟨v, (hb.cell (World.block_lt_of_cell? _ _ h1)).trans h1, (hb.cell (World.block_lt_of_cell? _ _ h2)).trans h2, (hb.cell (World.block_lt_of_cell? _ _ h3)).trans h3, h4, h5, h6.below hb⟩
theorem RungsAt.below {w w' : World} {sv : Value} {rs : List Ld.Rng} (h : RungsAt w sv rs) (hb : Below w.heap.size w w') : RungsAt w' sv rs := by
  rcases h with h | ⟨g, cap, h1, h2, h3, h4⟩
  · exact .inl h
  · exact .inr ⟨g, cap, h1, h2, h3, fun i n hi => (h4 i n hi).below hb⟩
theorem IsPrg.below {w w' : World} {p : Ld.Prg} {v : Value} (h : IsPrg w p v) (hb : Below w.heap.size w w') : IsPrg w' p v := by
  obtain ⟨nv, rv, h1, h2, h3⟩ := h
  exact ⟨nv, rv, h1, h2.below hb, h3.below hb⟩
theorem NamesAt.slice {w : World} {sv : Value} {ns : List Ld.Nme} (h : NamesAt w sv ns) : ∃ a c, sv = .slice a ns.length c ∧ ns.length ≤ 1000000 := by
  rcases h with ⟨rfl, a, c, rfl⟩ | ⟨g, cap, rfl, _, h3, _⟩
  · exact ⟨a, c, rfl, by simp⟩
  · exact ⟨_, _, rfl, h3⟩
theorem RungsAt.slice {w : World} {sv : Value} {rs : List Ld.Rng} (h : RungsAt w sv rs) : ∃ a c, sv = .slice a rs.length c ∧ rs.length ≤ 1000000 := by
  rcases h with ⟨rfl, a, c, rfl⟩ | ⟨g, cap, rfl, _, h3, _⟩
  · exact ⟨a, c, rfl, by simp⟩
  · exact ⟨_, _, rfl, h3⟩
end
section
namespace Ro
open Go.RowKit
/-- two lists, one by one -/
def All2 {α β : Type} (R : α → β → Prop) : List α → List β → Prop
  | [], [] => True
  | a :: l, b :: m => R a b ∧ All2 R l m
  | _, _ => False
theorem All2.append {α β : Type} {R : α → β → Prop} : ∀ {l : List α} {m : List β} {l' : List α} {m' : List β}, All2 R l m → All2 R l' m' → All2 R (l ++ l') (m ++ m')
  | [], [], _, _, _, h => h
  | _ :: _, _ :: _, _, _, ⟨h1, h2⟩, h => ⟨h1, All2.append h2 h⟩
  | [], _ :: _, _, _, h, _ => h.elim
  | _ :: _, [], _, _, h, _ => h.elim
theorem All2.map {α β γ : Type} {R : α → β → Prop} (f : γ → α) (g : γ → β) : ∀ (l : List γ), (∀ x, x ∈ l → R (f x) (g x)) → All2 R (l.map f) (l.map g)
  | [], _ => trivial
  | a :: l, h => ⟨h a (by simp), All2.map f g l fun x hx => h x (by simp [hx])⟩
theorem All2.flat {α β γ : Type} {R : α → β → Prop} (f : γ → List α) (g : γ → List β) : ∀ (l : List γ), (∀ x, x ∈ l → All2 R (f x) (g x)) → All2 R (l.flatMap f) (l.flatMap g)
  | [], _ => trivial
  | a :: l, h => by
    rw [List.flatMap_cons, List.flatMap_cons]
    exact (h a (by simp)).append (All2.flat f g l fun x hx => h x (by simp [hx]))
theorem All2.len {α β : Type} {R : α → β → Prop} : ∀ {l : List α} {m : List β}, All2 R l m → l.length = m.length
  | [], [], _ => rfl
  | _ :: _, _ :: _, ⟨_, h⟩ => by rw [List.length_cons, List.length_cons, h.len]
  | [], _ :: _, h => h.elim
  | _ :: _, [], h => h.elim
theorem All2.at_ {α β : Type} {R : α → β → Prop} : ∀ {l : List α} {m : List β}, All2 R l m → ∀ (k : Nat) (b : β), m[k]? = some b → ∃ a, l[k]? = some a ∧ R a b
  | [], [], _, k, b, h => by simp at h
  | a :: l, c :: m, ⟨h1, h2⟩, 0, b, h => by
    simp at h
    subst h
    exact ⟨a, rfl, h1⟩
  | a :: l, c :: m, ⟨h1, h2⟩, k + 1, b, h => by
    simp at h
    simpa using h2.at_ k b h
  | [], _ :: _, h, _, _, _ => h.elim
  | _ :: _, [], h, _, _, _ => h.elim
/-- a part in memory, and plainly -/
def EV (u : Value) (x : Ex) : Prop := (∃ c i, u = bitV c i ∧ x = bitE c i) ∨ ∃ c i, u = notV c i ∧ x = notE c i
theorem EV.isEx {u : Value} {x : Ex} (h : EV u x) (ok : Nat → Prop) (w : World) : IsEx ok w x u ∧ x.size ≤ 2 ∧ x.text.length ≤ 3 := by
  have hb : ∀ c i, IsEx ok w (bitE c i) (bitV c i) ∧ (bitE c i).text = pnm c i := fun c i => ⟨by
    unfold bitE
    simp only [IsEx]
    exact ⟨trivial, by simp [pnm], rfl⟩, by simp [bitE, Ex.text]⟩
  rcases h with ⟨c, i, rfl, rfl⟩ | ⟨c, i, rfl, rfl⟩
  · exact ⟨(hb c i).1, by simp [bitE, Ex.size], by rw [(hb c i).2]; simp [pnm]⟩
  · refine ⟨?_, by simp [notE, bitE, Ex.size], by simp [notE, bitE, Ex.text, Ex.par, pnm]⟩
    unfold notE
    simp only [IsEx]
    refine ⟨trivial, rfl, bitV c i, rfl, fun P hP => ?_⟩
    simp at hP
    subst hP
    exact (hb c i).1
/-- a rung in memory, and plainly -/
def RE (r : Rg) (e : Ld.Rng) : Prop := e.kind = r.kind ∧ e.name = nmB r.c r.i ∧ ∃ xs, All2 EV r.us xs ∧ ((r.ty = 101 ∧ e.cond = some (allE xs)) ∨ (r.ty = 143 ∧ e.cond = some (someE xs)))
theorem free_ev (r : Rt) : All2 EV (freeVs r) (freeE r) := All2.map _ _ _ fun s _ => .inr ⟨98, s.toNat, rfl, rfl⟩
theorem lay_re (t : Tbl) (p : Nat) (b : Bool) : All2 RE (layRg t p b) (layE t p b) := by
  unfold layRg layE
  by_cases h : wanting t ((p : Int), b) = []
  · rw [if_pos (by rw [h]; rfl), if_pos h]
    trivial
  · rw [if_neg (fun e => h (List.map_eq_nil_iff.1 e)), if_neg h]
    exact ⟨⟨rfl, rfl, _, All2.map _ _ _ fun j _ => .inl ⟨108, j, rfl, rfl⟩, .inr ⟨rfl, rfl⟩⟩, trivial⟩
theorem rungs_re (t : Tbl) (S P : Nat) : All2 RE (ladderRg t P) (ladderE t S P).rungs := by
  unfold ladderRg ladderE
  refine ((All2.map _ _ _ fun i _ => ?_).append (All2.map _ _ _ fun i _ => ?_)).append ?_
  · exact ⟨rfl, rfl, notE 97 i :: freeE (rt t i), (⟨.inr ⟨97, i, rfl, rfl⟩, free_ev _⟩ : All2 EV (notV 97 i :: freeVs (rt t i)) (notE 97 i :: freeE (rt t i))), .inl ⟨rfl, rfl⟩⟩
  · exact ⟨rfl, rfl, _, All2.append (l := bitV 97 i :: freeVs (rt t i)) (m := bitE 97 i :: freeE (rt t i)) ⟨.inl ⟨97, i, rfl, rfl⟩, free_ev _⟩ (All2.map _ _ _ fun j _ => .inr ⟨108, j, rfl, rfl⟩), .inl ⟨rfl, rfl⟩⟩
  · exact All2.flat _ _ _ fun p _ => (lay_re t p true).append (lay_re t p false)
theorem flat3_at {α : Type} (f : α → List Value) (hf : ∀ x, (f x).length = 3) : ∀ (l : List α) (i j : Nat) (x : α), l[i]? = some x → j < 3 → (l.flatMap f)[i * 3 + j]? = (f x)[j]?
  | [], i, j, x, h, _ => by simp at h
  | a :: l, 0, j, x, h, hj => by
    simp at h
    subst h
    rw [List.flatMap_cons, List.getElem?_append_left (by rw [hf]; omega)]
    simp
  | a :: l, i + 1, j, x, h, hj => by
    rw [List.flatMap_cons, List.getElem?_append_right (by rw [hf]; omega), hf, show (i + 1) * 3 + j - 3 = i * 3 + j by omega]
    exact flat3_at f hf l i j x (by simpa using h) hj
theorem join_le (sep : List UInt8) (hs : sep.length = 3) (m : Nat) : ∀ l : List (List UInt8), (∀ x, x ∈ l → x.length ≤ m) → (Ex.join sep l).length ≤ (m + 3) * l.length
  | [], _ => by simp [Ex.join]
  | [a], h => by have := h a (by simp); simp [Ex.join]; omega
  | a :: b :: l, h => by
    have ih := join_le sep hs m (b :: l) fun x hx => h x (by simp at hx ⊢; exact .inr hx)
    have := h a (by simp)
    simp only [Ex.join, List.length_append, List.length_cons] at ih ⊢
    rw [hs, Nat.mul_add _ _ 1]
    omega
theorem sum_le (f : Ex → Nat) (m : Nat) : ∀ (l : List Ex), (∀ x, x ∈ l → f x ≤ m) → (l.map f).sum ≤ m * l.length
  | [], _ => by simp
  | a :: l, h => by
    have ih := sum_le f m l fun x hx => h x (by simp [hx])
    have := h a (by simp)
    rw [List.map_cons, List.sum_cons, List.length_cons, Nat.mul_add]
    omega
theorem par_len (b : Bool) (l : List UInt8) : (Ex.par b l).length ≤ l.length + 2 := by unfold Ex.par; split <;> simp
/-- what a rung asks -/
theorem cond_is {w : World} {ty : TypeId} {us : List Value} {v : Value} {xs : List Ex} {y : Ex} (h : CondV (fun _ => True) w ty us v) (he : All2 EV us xs) (hy : (ty = 101 ∧ y = allE xs) ∨ (ty = 143 ∧ y = someE xs)) : CondAt w (some y) v := by
  have hl := he.len
  rcases h with ⟨t, z, h1, h2⟩ | ⟨h1, h2, g, cap, h3, h4, _, h5⟩
  · subst h1
    match xs, he with
    | [x], ⟨hx, _⟩ =>
      have e : y = x := by rcases hy with ⟨_, rfl⟩ | ⟨_, rfl⟩ <;> rfl
      subst e
      obtain ⟨k1, k2, k3⟩ := hx.isEx (fun _ => True) w
      exact ⟨k1, by omega, by omega⟩
  · have hxl : 2 ≤ xs.length := by omega
    have hx1 : xs.length ≤ 1000 := by omega
    have hrow : ∀ (i : Nat) (Q : Value → Prop), (xs.map fun x => IsEx (fun _ => True) w x)[i]? = some Q → ∃ u, w.cell? ⟨g, i, none⟩ = some u ∧ Q u := fun i Q hQ => by
      rw [List.getElem?_map] at hQ
      cases hx : xs[i]? with
      | none => rw [hx] at hQ; cases hQ
      | some x =>
        rw [hx] at hQ
        cases hQ
        obtain ⟨u, hu, hev⟩ := he.at_ i x hx
        exact ⟨u, h5 i u hu, (hev.isEx (fun _ => True) w).1⟩
    have hev : ∀ x, x ∈ xs → x.size ≤ 2 ∧ x.text.length ≤ 3 := fun x hx => by
      obtain ⟨i, hi, rfl⟩ := List.getElem_of_mem hx
      obtain ⟨u, _, hev⟩ := he.at_ i _ (List.getElem?_eq_getElem hi)
      exact (hev.isEx (fun _ => True) w).2
    have hsz := sum_le (fun x => x.size) 2 xs fun x hx => (hev x hx).1
    have hil : ∀ t', v = .iface t' (.slice (some ⟨g, 0, none⟩) us.length cap) → IsList (fun _ => True) w t' xs.length (xs.map fun x => IsEx (fun _ => True) w x) v := fun t' ht' => ⟨hxl, by omega, g, cap, by rw [ht', hl], by omega, trivial, hrow⟩
    rcases hy with ⟨rfl, rfl⟩ | ⟨rfl, rfl⟩
    · have e : allE xs = ⟨6, [], xs⟩ := by
        match xs, hxl with
        | a :: b :: r, _ => rfl
      rw [e]
      refine ⟨by simp only [IsEx]; exact ⟨trivial, hil _ h3⟩, by simp only [Ex.size]; omega, ?_⟩
      have := join_le [32, 38, 32] rfl 5 (xs.map fun x => Ex.par (decide (6 ≤ x.kind)) x.text) (fun z hz => by
        obtain ⟨x, hx, rfl⟩ := List.mem_map.1 hz
        have := par_len (decide (6 ≤ x.kind)) x.text
        have := (hev x hx).2
        omega)
      rw [List.length_map] at this
      simp only [Ex.text]
      omega
    · have e : someE xs = ⟨7, [], xs⟩ := by
        match xs, hxl with
        | a :: b :: r, _ => rfl
      rw [e]
      refine ⟨by simp only [IsEx]; exact ⟨trivial, hil _ h3⟩, by simp only [Ex.size]; omega, ?_⟩
      have := join_le [32, 124, 32] rfl 5 (xs.map fun x => Ex.par (decide (7 ≤ x.kind)) x.text) (fun z hz => by
        obtain ⟨x, hx, rfl⟩ := List.mem_map.1 hz
        have := par_len (decide (7 ≤ x.kind)) x.text
        have := (hev x hx).2
        omega)
      rw [List.length_map] at this
      simp only [Ex.text]
      omega
def nmc (n : Ld.Nme) : List Value := [.string ⟨n.name.toArray⟩, .int .i64 n.kind, .int .i64 n.count]
theorem namesV_flat (R S P : Nat) : namesV R S P = (namesE R S P).flatMap nmc := by
  unfold namesV namesE nmsV
  rw [List.flatMap_append, List.flatMap_append, List.flatMap_append, List.flatMap_map, List.flatMap_map, List.flatMap_map, List.flatMap_map]
  rfl
theorem names_mem (R S P : Nat) (n : Ld.Nme) (h : n ∈ namesE R S P) : n.name.length = 2 ∧ (n.kind = 1 ∨ n.kind = 2) ∧ n.count = 0 := by
  unfold namesE at h
  simp only [List.mem_append, List.mem_map] at h
  rcases h with ((⟨i, _, rfl⟩ | ⟨i, _, rfl⟩) | ⟨i, _, rfl⟩) | ⟨i, _, rfl⟩ <;> simp [pnm]
/-- a table's program in memory is the plain one -/
theorem prg_is {w : World} {t : Tbl} {S P : Nat} {nv rv : Value} (f : Fits t S P) (h : PrgAt w t S P nv rv) : IsPrg w (ladderE t S P) (.agg #[nv, rv]) := by
  obtain ⟨h1, l, h2, h3, h4⟩ := h
  have hR := f.R1
  have hre := rungs_re t S P
  refine ⟨nv, rv, rfl, ?_, ?_⟩
  · rcases h1.2 with ⟨_, h0⟩ | ⟨g, cap, cur, hx, _, hcur, hcap, _, _, htk⟩
    · omega
    · have hnl : (ladderE t S P).names.length = t.rts.length + S + t.rts.length + P := namesE_len _ _ _
      have h3' := f.R3
      have hS := f.S3
      have hP := f.P2
      refine .inr ⟨g, cap, by rw [hnl]; exact hx, by omega, by omega, fun i n hi => ?_⟩
      have hc : ∀ j u, j < 3 → (nmc n)[j]? = some u → w.cell? ⟨g, i * 3 + j, none⟩ = some u := fun j u hj hu => row_cell hcur htk (by rw [namesV_flat, flat3_at nmc (fun _ => rfl) (namesE t.rts.length S P) i j n hi hj]; exact hu)
      obtain ⟨m1, m2, m3⟩ := names_mem _ _ _ n (List.mem_of_getElem? hi)
      exact ⟨hc 0 _ (by omega) rfl, hc 1 _ (by omega) rfl, hc 2 _ (by omega) rfl, by rw [m1]; unfold maxLen; omega, by unfold Go.Proofs.YtgdmohombcgjbaaGreatDoor.I64; omega, by unfold Go.Proofs.YtgdmohombcgjbaaGreatDoor.I64; omega⟩
  · have hll : l.length = (ladderE t S P).rungs.length := by rw [← hre.len, ← h2, List.length_map]
    have hl10 : (ladderE t S P).rungs.length ≤ 10 := by
      have hl := laysE_len t P
      have h3' := f.R3
      have hP := f.P2
      unfold ladderE
      simp only [List.length_append, List.length_map, List.length_range]
      omega
    rcases h3.2 with ⟨_, h0⟩ | ⟨g, cap, cur, hx, _, hcur, hcap, _, _, htk⟩
    · have h5 : (ladderE t S P).rungs.length = (t.rts.length + t.rts.length) + (laysE t P).length := by
        unfold ladderE
        simp only [List.length_append, List.length_map, List.length_range]
      omega
    · refine .inr ⟨g, cap, by rw [← hll]; exact hx, by omega, by omega, fun i r hi => ?_⟩
      obtain ⟨q, hq, e1, e2, xs, e3, e4⟩ := hre.at_ i r hi
      rw [← h2, List.getElem?_map] at hq
      cases hli : l[i]? with
      | none => rw [hli] at hq; cases hq
      | some x =>
        rw [hli] at hq
        cases hq
        have hc : ∀ j u, j < 3 → (rg3 x)[j]? = some u → w.cell? ⟨g, i * 3 + j, none⟩ = some u := fun j u hj hu => row_cell hcur htk (by rw [fl, flat3_at rg3 (fun _ => rfl) _ i j x hli hj]; exact hu)
        have hk := rung_ok f r (List.mem_of_getElem? hi)
        obtain ⟨y, hy⟩ : ∃ y, r.cond = some y := by rcases e4 with ⟨_, e⟩ | ⟨_, e⟩ <;> exact ⟨_, e⟩
        have hkd : 1 ≤ r.kind ∧ r.kind ≤ 6 := by
          unfold Ld.wrongR at hk
          split at hk
          · cases hk
          · omega
        refine ⟨x.2, by rw [e1]; exact hc 0 _ (by omega) rfl, by rw [e2]; exact hc 1 _ (by omega) rfl, hc 2 _ (by omega) rfl, by rw [e2]; simp [nmB, maxLen], by unfold Go.Proofs.YtgdmohombcgjbaaGreatDoor.I64; omega, ?_⟩
        rw [hy]
        refine cond_is (h4 x (List.mem_of_getElem? hli)) e3 ?_
        rcases e4 with ⟨a, e⟩ | ⟨a, e⟩
        · exact .inl ⟨a, Option.some.inj (hy.symm.trans e)⟩
        · exact .inr ⟨a, Option.some.inj (hy.symm.trans e)⟩
end Ro
end
end Go.Proofs.YtgdmohombcgjbaaGreatDoor
