/-
  Expressions as the document's package lays them: a block a part. What its reading comes to in memory. Programs as the document's package lays them: the names as package ladder does, three cells a rung, the last a pointer to an expression. The walks of package ladder's numbers and Kind: the places of names of a kind.
-/
import Derived.Test.YtkpfahbodlfpiaaGreatDoorRpWordAll
import Derived.Test.YtkpfahbodlfpiaaGreatDoorLdRepAll
import Derived.Test.YtkpfahbodlfpiaaGreatDoorRtBoundAll
import Derived.Test.YtkpfahbodlfpiaaGreatDoorRdListAll
import Derived.Maps.AppendAt
import Derived.Deep.AppendLies
namespace Go.Proofs.YtkpfahbodlfpiaaGreatDoor
section
open Go.RowKit
/-- the document's word for a kind -/
def kindS : Nat → List UInt8
  | 0 => [48]
  | 1 => [49]
  | 2 => [98, 105, 116]
  | 3 => [94]
  | 4 => [126]
  | 5 => [33]
  | 6 => [38]
  | _ => [124]
/-- in block h lie, from its head on, pointers to blocks of which these hold -/
def RowP (w : World) (h : Nat) (Ps : List (Nat → Prop)) : Prop := ∀ (i : Nat) (P : Nat → Prop), Ps[i]? = some P → ∃ g, w.cell? ⟨h, i, none⟩ = some (.pointer (some ⟨g, 0, none⟩)) ∧ P g
def OfRow (ok : Nat → Prop) (w : World) (sv : Value) (n : Nat) (Ps : List (Nat → Prop)) : Prop :=
  (n = 0 ∧ sv = .slice none 0 0) ∨ (0 < n ∧ ∃ h cap, sv = .slice (some ⟨h, 0, none⟩) n cap ∧ n ≤ cap ∧ ok h ∧ RowP w h Ps)
/-- an expression's form -/
def RWf (k : Nat) (nm : List UInt8) (n : Nat) : Prop :=
  (k ≤ 1 ∧ nm = [] ∧ n = 0) ∨ (2 ≤ k ∧ k ≤ 4 ∧ nm ≠ [] ∧ n = 0) ∨ (k = 5 ∧ nm = [] ∧ n = 1) ∨ (6 ≤ k ∧ k ≤ 7 ∧ nm = [] ∧ 2 ≤ n)
def IsRx (ok : Nat → Prop) (w : World) : Ex → Nat → Prop
  | ⟨k, nm, l⟩ => fun g => ok g ∧ RWf k nm l.length ∧ l.length ≤ 1000000 ∧ w.cell? ⟨g, 0, none⟩ = some (.string ⟨(kindS k).toArray⟩) ∧ w.cell? ⟨g, 1, none⟩ = some (.string ⟨nm.toArray⟩) ∧
    ∃ sv, w.cell? ⟨g, 2, none⟩ = some sv ∧ OfRow ok w sv l.length (l.map fun y => IsRx ok w y)
theorem IsRx.def (ok : Nat → Prop) (w : World) (k : Nat) (nm : List UInt8) (l : List Ex) (g : Nat) : IsRx ok w ⟨k, nm, l⟩ g ↔ ok g ∧ RWf k nm l.length ∧ l.length ≤ 1000000 ∧ w.cell? ⟨g, 0, none⟩ = some (.string ⟨(kindS k).toArray⟩) ∧ w.cell? ⟨g, 1, none⟩ = some (.string ⟨nm.toArray⟩) ∧
    ∃ sv, w.cell? ⟨g, 2, none⟩ = some sv ∧ OfRow ok w sv l.length (l.map fun y => IsRx ok w y) := by simp only [IsRx]
theorem IsRx.stay {ok ok' : Nat → Prop} {w w' : World} (hs : Stay ok w w') (hok : ∀ g, ok g → ok' g) : ∀ (x : Ex) (g : Nat), IsRx ok w x g → IsRx ok' w' x g := by
  intro x
  induction x using Ex.ind with
  | h k nm l ih =>
    intro g h
    rw [IsRx.def] at h ⊢
    obtain ⟨h1, h2, h3, h4, h5, sv, h6, h7⟩ := h
    refine ⟨hok g h1, h2, h3, hs g 0 _ h1 h4, hs g 1 _ h1 h5, sv, hs g 2 _ h1 h6, ?_⟩
    rcases h7 with h7 | ⟨h0, b, cap, e1, e2, e3, e4⟩
    · exact .inl h7
    · refine .inr ⟨h0, b, cap, e1, e2, hok b e3, ?_⟩
      intro i P hP
      rw [List.getElem?_map] at hP
      cases hl : l[i]? with
      | none => rw [hl] at hP; simp at hP
      | some y =>
        rw [hl] at hP
        simp only [Option.map_some, Option.some.injEq] at hP
        obtain ⟨q, hq, hx⟩ := e4 i (IsRx ok w y) (by rw [List.getElem?_map, hl]; rfl)
        exact ⟨q, hs b i _ e3 hq, by rw [← hP]; exact ih y (List.mem_of_getElem? hl) q hx⟩
theorem IsRx.lt {ok : Nat → Prop} {w : World} : ∀ (x : Ex) (g : Nat), IsRx ok w x g → IsRx (fun g => ok g ∧ g < w.heap.size) w x g := by
  intro x
  induction x using Ex.ind with
  | h k nm l ih =>
    intro g h
    rw [IsRx.def] at h ⊢
    obtain ⟨h1, h2, h3, h4, h5, sv, h6, h7⟩ := h
    refine ⟨⟨h1, World.block_lt_of_cell? _ _ h4⟩, h2, h3, h4, h5, sv, h6, ?_⟩
    rcases h7 with h7 | ⟨h0, b, cap, e1, e2, e3, e4⟩
    · exact .inl h7
    · refine .inr ⟨h0, b, cap, e1, e2, ⟨e3, ?_⟩, ?_⟩
      · obtain ⟨q, hq, _⟩ := e4 0 (IsRx ok w l[0]) (by rw [List.getElem?_map, List.getElem?_eq_getElem (by omega)]; rfl)
        exact World.block_lt_of_cell? _ _ hq
      · intro i P hP
        rw [List.getElem?_map] at hP
        cases hl : l[i]? with
        | none => rw [hl] at hP; simp at hP
        | some y =>
          rw [hl] at hP
          simp only [Option.map_some, Option.some.injEq] at hP
          obtain ⟨q, hq, hx⟩ := e4 i (IsRx ok w y) (by rw [List.getElem?_map, hl]; rfl)
          exact ⟨q, hq, by rw [← hP]; exact ih y (List.mem_of_getElem? hl) q hx⟩
/-- What reading comes to in memory: a fault, or what is read; the reader's place; all else is as it was. -/
def ReadR (b : Nat) (s : ByteArray) (D : Nat) (w : World) (r : Ex.Res Ex) (e : Ending) (w' : World) : Prop :=
  Keep b w w' ∧
  match r with
  | .inl (err, p) => ∃ q i, e = .returned (.pointer q) ∧ i ≤ s.size + D ∧ err ≠ 0 ∧ Rp b s i (err : Int) (p : Int) w'
  | .inr (x, m) => ∃ g, e = .returned (.pointer (some ⟨g, 0, none⟩)) ∧ IsRx (fun g => w.heap.size ≤ g) w' x g ∧ Rp b s m 0 (-1) w'
/-- a row of the call's own of pointers -/
structure LR (b : Nat) (w : World) (v : Value) (us : List Value) (wr : World) : Prop where
  keep : Keep b w wr
  hb : b < w.heap.size
  own : wr.ownsRow w.heap.size 95 1 v us.length us
  ptr : ∀ u, u ∈ us → ∃ q, u = .pointer q
  ne : us ≠ []
/-- what they point to -/
structure Good (w : World) (v : Value) (xs : List Ex) (us : List Value) (wr : World) : Prop where
  len : us.length = xs.length
  each : ∀ (j : Nat) (x : Ex) (u : Value), xs[j]? = some x → us[j]? = some u → ∃ g, u = .pointer (some ⟨g, 0, none⟩) ∧ IsRx (fun g => w.heap.size ≤ g ∧ some g ≠ v.ownBlock) wr x g
namespace LR
variable {b : Nat} {w : World} {v : Value} {us : List Value} {wr : World}
theorem far (h : LR b w v us wr) : v.ownBlock = none ∨ v.ownBlock ≠ some b := by
  cases hv : v.ownBlock with
  | none => exact .inl rfl
  | some k => right; intro e; have := h.own.lt k hv; have h1 := h.hb; simp only [Option.some.injEq] at e; omega
theorem nb (h : LR b w v us wr) : some b ≠ v.ownBlock := fun e => by rcases h.far with h1 | h1 <;> simp [← e] at h1
theorem read {w1 : World} (h : LR b w v us wr) (hk : Keep b wr w1) : LR b w v us w1 := ⟨h.keep.trans hk, h.hb, h.own.kept hk.toGrown h.far, h.ptr, h.ne⟩
theorem push {u v' : Value} {w2 : World} {o : Obj} (h : LR b w v us wr) (hg : (wr.alloc o).grownBy w2 v.ownBlock) (hown : w2.ownsRow w.heap.size 95 1 v' (us.length + 1) (us ++ [u])) (hu : ∃ q, u = .pointer q) : LR b w v' (us ++ [u]) w2 := by
  refine ⟨(h.keep.alloc o).grown hg (fun k hk => (h.own.lt k hk).1), h.hb, ?_, ?_, by simp⟩
  · have e : (us ++ [u]).length = us.length + 1 := by simp
    rw [e]; exact hown
  · intro y hy
    rcases List.mem_append.1 hy with hy | hy
    · exact h.ptr y hy
    · simp only [List.mem_singleton] at hy; rw [hy]; exact hu
end LR
theorem Good.read {b : Nat} {w : World} {v : Value} {xs : List Ex} {us : List Value} {wr w1 : World} (h : Good w v xs us wr) (hb : b < w.heap.size) (hk : Keep b wr w1) : Good w v xs us w1 :=
  ⟨h.len, fun j x u hx hu => by
    obtain ⟨g, e, hg⟩ := h.each j x u hx hu
    exact ⟨g, e, IsRx.stay (Stay.keep hk fun g hg e => by omega) (fun g hg => hg) x g hg⟩⟩
theorem Good.push {w : World} {v v' : Value} {xs : List Ex} {us : List Value} {wr w2 : World} {x : Ex} {g B : Nat} {o : Obj} (h : Good w v xs us wr) (hB : w.heap.size ≤ B) (hv : ∀ k, v.ownBlock = some k → k < B) (hx : IsRx (fun g => B ≤ g) wr x g)
    (hg : (wr.alloc o).grownBy w2 v.ownBlock) (hat : v'.ownBlock = v.ownBlock ∨ v'.ownBlock = some (wr.heap.size + 1)) : Good w v' (xs ++ [x]) (us ++ [.pointer (some ⟨g, 0, none⟩)]) w2 := by
  have hal : Below wr.heap.size wr (wr.alloc o) := (Below.refl _ _).alloc (Nat.le_refl _) o
  have st : ∀ (ok : Nat → Prop), (∀ g, ok g → some g ≠ v.ownBlock) → Stay ok wr w2 := fun ok hok => (Stay.below hal).trans (Stay.grown hg hok)
  refine ⟨by simp [h.len], ?_⟩
  intro j y z hy hz
  have fin : ∀ (ok : Nat → Prop) (q : Nat), (∀ g, ok g → w.heap.size ≤ g ∧ some g ≠ v.ownBlock ∧ g < wr.heap.size) → IsRx ok wr y q → IsRx (fun g => w.heap.size ≤ g ∧ some g ≠ v'.ownBlock) w2 y q := by
    intro ok q hok hyz
    refine IsRx.stay (st ok fun g hg => (hok g hg).2.1) (fun g hg => ⟨(hok g hg).1, ?_⟩) y q hyz
    have h3 := hok g hg
    rcases hat with e | e
    · rw [e]; exact h3.2.1
    · rw [e]; intro e2; simp only [Option.some.injEq] at e2; omega
  by_cases hj : j < xs.length
  · rw [List.getElem?_append_left hj] at hy
    rw [List.getElem?_append_left (by rw [h.len]; exact hj)] at hz
    obtain ⟨q, e, hq⟩ := h.each j y z hy hz
    exact ⟨q, e, fin _ q (fun g hg => ⟨hg.1.1, hg.1.2, hg.2⟩) (IsRx.lt y q hq)⟩
  · have hj2 : j = xs.length := by
      by_cases e : j = xs.length
      · exact e
      · rw [List.getElem?_eq_none (by simp; omega)] at hy; cases hy
    subst hj2
    rw [List.getElem?_append_right (Nat.le_refl _)] at hy
    rw [List.getElem?_append_right (by rw [h.len]; exact Nat.le_refl _)] at hz
    simp only [Nat.sub_self, List.getElem?_cons_zero, Option.some.injEq] at hy
    rw [h.len] at hz
    simp only [Nat.sub_self, List.getElem?_cons_zero, Option.some.injEq] at hz
    subst hy hz
    refine ⟨g, rfl, fin _ g ?_ (IsRx.lt x g hx)⟩
    intro q hq
    refine ⟨by have := hq.1; omega, fun e => ?_, hq.2⟩
    have := hv q e.symm
    have := hq.1
    omega
theorem owns_one (w : World) (B : Nat) (hB : B ≤ w.heap.size) (t : TypeId) (u : Value) : (w.alloc (.cells #[u] t)).ownsRow B t 1 (.slice (some ⟨w.heap.size, 0, none⟩) 1 1) 1 [u] := by
  refine ⟨by simp, .inr ⟨w.heap.size, 1, #[u], rfl, hB, (by show (w.heap.push _)[w.heap.size]? = _; simp), ?_, ?_, ?_, ?_⟩⟩ <;> first | rfl | simp | (unfold maxLen; decide)
/-- the row's beginning: one that was read -/
theorem LR.start {b : Nat} {w w1 : World} (hk : Keep b w w1) (hb : b < w.heap.size) (q : Option Addr) : LR b w (.slice (some ⟨w1.heap.size, 0, none⟩) 1 1) [.pointer q] (w1.alloc (.cells #[.pointer q] 95)) :=
  ⟨hk.alloc _, hb, owns_one w1 _ hk.size _ _, fun u hu => by simp at hu; exact ⟨q, hu⟩, by simp⟩
theorem Good.start {w w1 : World} {x : Ex} {g : Nat} (hx : IsRx (fun g => w.heap.size ≤ g) w1 x g) : Good w (.slice (some ⟨w1.heap.size, 0, none⟩) 1 1) [x] [.pointer (some ⟨g, 0, none⟩)] (w1.alloc (.cells #[.pointer (some ⟨g, 0, none⟩)] 95)) := by
  refine ⟨rfl, ?_⟩
  intro j y u hy hu
  match j, hy, hu with
  | 0, hy, hu =>
    simp at hy hu
    subst hy hu
    refine ⟨g, rfl, IsRx.stay (Stay.below ((Below.refl _ _).alloc (Nat.le_refl _) _)) (fun q hq => ⟨hq.1, ?_⟩) _ g (IsRx.lt _ g hx)⟩
    intro e
    simp [Value.ownBlock] at e
    have := hq.2
    omega
  | j + 1, hy, _ => simp at hy
end
section
open Go.RowKit
def RCondAt (w : World) (x : Option Ex) (v : Value) : Prop := match x with
  | none => v = .pointer none
  | some x => ∃ g, v = .pointer (some ⟨g, 0, none⟩) ∧ IsRx (fun _ => True) w x g ∧ x.size ≤ 1000000 ∧ x.text.length ≤ 1000000
def RRungAt (w : World) (g i : Nat) (r : Ld.Rng) : Prop :=
  ∃ v, w.cell? ⟨g, i * 3, none⟩ = some (.int .i64 r.kind) ∧ w.cell? ⟨g, i * 3 + 1, none⟩ = some (.string ⟨r.name.toArray⟩) ∧ w.cell? ⟨g, i * 3 + 2, none⟩ = some v ∧ r.name.length ≤ maxLen ∧ I64 r.kind ∧ RCondAt w r.cond v
def RRungsAt (w : World) (sv : Value) (rs : List Ld.Rng) : Prop :=
  (rs = [] ∧ ∃ a cap, sv = .slice a 0 cap) ∨ ∃ g cap, sv = .slice (some ⟨g, 0, none⟩) rs.length cap ∧ rs.length ≤ cap ∧ rs.length ≤ 1000000 ∧ ∀ (i : Nat) (r : Ld.Rng), rs[i]? = some r → RRungAt w g i r
/-- the document's program -/
def IsRPrg (w : World) (p : Ld.Prg) (v : Value) : Prop := ∃ nv rv, v = .agg #[nv, rv] ∧ NamesAt w nv p.names ∧ RRungsAt w rv p.rungs
theorem RCondAt.below {w w' : World} {x : Option Ex} {v : Value} (h : RCondAt w x v) (hb : Below w.heap.size w w') : RCondAt w' x v := by
  cases x with
  | none => exact h
  | some x =>
    obtain ⟨g, h1, h2, h3⟩ := h
    exact ⟨g, h1, IsRx.stay (Stay.below hb) (fun _ h => h) x g h2, h3⟩
theorem RRungAt.below {w w' : World} {g i : Nat} {r : Ld.Rng} (h : RRungAt w g i r) (hb : Below w.heap.size w w') : RRungAt w' g i r := by
  obtain ⟨v, h1, h2, h3, h4, h5, h6⟩ := h
  exact ⟨v, (hb.cell (World.block_lt_of_cell? _ _ h1)).trans h1, (hb.cell (World.block_lt_of_cell? _ _ h2)).trans h2, (hb.cell (World.block_lt_of_cell? _ _ h3)).trans h3, h4, h5, h6.below hb⟩
theorem RRungsAt.below {w w' : World} {sv : Value} {rs : List Ld.Rng} (h : RRungsAt w sv rs) (hb : Below w.heap.size w w') : RRungsAt w' sv rs := by
  rcases h with h | ⟨g, cap, h1, h2, h3, h4⟩
  · exact .inl h
  · exact .inr ⟨g, cap, h1, h2, h3, fun i n hi => (h4 i n hi).below hb⟩
theorem IsRPrg.below {w w' : World} {p : Ld.Prg} {v : Value} (h : IsRPrg w p v) (hb : Below w.heap.size w w') : IsRPrg w' p v := by
  obtain ⟨nv, rv, h1, h2, h3⟩ := h
  exact ⟨nv, rv, h1, h2.below hb, h3.below hb⟩
theorem RRungsAt.slice {w : World} {sv : Value} {rs : List Ld.Rng} (h : RRungsAt w sv rs) : ∃ a c, sv = .slice a rs.length c ∧ rs.length ≤ 1000000 := by
  rcases h with ⟨rfl, a, c, rfl⟩ | ⟨g, cap, rfl, _, h3, _⟩
  · exact ⟨a, c, rfl, by simp⟩
  · exact ⟨_, _, rfl, h3⟩
/-- a name of a slice of names, as one reads it -/
theorem NamesAt.at_ {w : World} {a : Option Addr} {n c : Nat} {ns : List Ld.Nme} (h : NamesAt w (.slice a n c) ns) {i : Nat} {x : Ld.Nme} (hi : ns[i]? = some x) : ∃ g, a = some ⟨g, 0, none⟩ ∧ n ≤ c ∧ NameAt w g i x := by
  rcases h with ⟨rfl, _⟩ | ⟨g, cap, h1, h2, h3, h4⟩
  · simp at hi
  · simp only [Value.slice.injEq] at h1
    obtain ⟨rfl, rfl, rfl⟩ := h1
    exact ⟨g, rfl, h2, h4 i x hi⟩
theorem RRungsAt.at_ {w : World} {a : Option Addr} {n c : Nat} {rs : List Ld.Rng} (h : RRungsAt w (.slice a n c) rs) {i : Nat} {x : Ld.Rng} (hi : rs[i]? = some x) : ∃ g, a = some ⟨g, 0, none⟩ ∧ n ≤ c ∧ RRungAt w g i x := by
  rcases h with ⟨rfl, _⟩ | ⟨g, cap, h1, h2, h3, h4⟩
  · simp at hi
  · simp only [Value.slice.injEq] at h1
    obtain ⟨rfl, rfl, rfl⟩ := h1
    exact ⟨g, rfl, h2, h4 i x hi⟩
end
section
open Go.RowKit
theorem own_below {W W' : World} {q : Nat} {e : TypeId} {s : Nat} {v : Value} {n : Nat} {xs : List Value} (h : W.ownsRow q e s v n xs) (hb : Below W.heap.size W W') : W'.ownsRow q e s v n xs :=
  h.kept (grown_below hb) (by cases v.ownBlock with | none => exact .inl rfl | some g => exact .inr (by simp))
theorem own_mono {W : World} {q q' : Nat} {e : TypeId} {s : Nat} {v : Value} {n : Nat} {xs : List Value} (h : W.ownsRow q e s v n xs) (hq : q' ≤ q) : W.ownsRow q' e s v n xs := by
  refine ⟨h.1, ?_⟩
  rcases h.2 with h1 | ⟨g, cap, cur, h1, h2, h3⟩
  · exact .inl h1
  · exact .inr ⟨g, cap, cur, h1, Nat.le_trans hq h2, h3⟩
set_option maxHeartbeats 4000000 in
set_option maxRecDepth 100000 in
theorem numbers_any (ns : List Ld.Nme) (nv rv f : Value) (p : Ld.Nme → Bool) (w : World) (hn : NamesAt w nv ns) (hr : ∃ a n c, rv = .slice a n c) (hf : NPred w f p) :
    Calls Tryz.prog 67 #[.agg #[nv, rv], f] w fun e w' => ∃ v, e = .returned v ∧ w'.ownsRow w.heap.size 3 1 v (Ld.placesTo p ns ns.length).length ((Ld.placesTo p ns ns.length).map intV) ∧ Below w.heap.size w w' := by
  obtain ⟨ra, rn, rc, rfl⟩ := hr
  obtain ⟨i0, hi0, hz0, hz1, hz2⟩ := info_parts Tryz.infoInt
  obtain ⟨K, c, rfl, hent, hp⟩ := hf
  have hent' : ∀ (args : Array Value) (w : World), (callFunc K args).run Tryz.prog w = .ok (.enter K args) w := hent
  have HP := hide hp
  have HNA := hide hn
  obtain ⟨na, nc, rfl, hlen⟩ := hn.slice
  clear hent hp hn
  obtain ⟨n, hnn⟩ : ∃ n, n = ns.length := ⟨_, rfl⟩
  have HN := hide hnn
  rw [← hnn] at HNA hlen
  rw [← hnn]
  clear hnn
  obtain ⟨wA, hwA⟩ : ∃ wA, wA = w.alloc (.cells #[.slice na n nc, .slice ra rn rc] 26) := ⟨_, rfl⟩
  have hbA : Below w.heap.size w wA := by rw [hwA]; exact (Below.refl _ _).alloc (Nat.le_refl _) _
  have HWA := hide hwA
  have HBA := hide hbA
  go_enter Tryz.func67, Tryz.ntmps67
  go_wp2_with fail
  rw [← hwA]
  clear hwA hbA
  go_loopw [5, 11] (fun l i wr => ∃ k : Nat, k ≤ n ∧ i = .int .i64 (k : Int) ∧ (∃ a c, l = .slice a (Ld.placesTo p ns k).length c) ∧ Hid (wr.ownsRow w.heap.size 3 1 l (Ld.placesTo p ns k).length ((Ld.placesTo p ns k).map intV)) ∧ Hid (Below w.heap.size w wr)) (fun _ i _ => n - (intOf i).toNat)
  case atStart => exact ⟨0, Nat.zero_le _, rfl, ⟨_, _, rfl⟩, World.ownsRow_nil _ _ _ _, HBA.out⟩
  case round =>
    obtain ⟨k, hk, rfl, ⟨la, lc, rfl⟩, HO, HB⟩ := hrel
    have hple := Ld.placesTo_le p ns k
    by_cases hlt : k < n
    · have hkl : k < ns.length := by rw [← HN.out]; exact hlt
      obtain ⟨g, rfl, hca, e1, e2, e3, e4, e5⟩ : ∃ g, na = some ⟨g, 0, none⟩ ∧ n ≤ nc ∧ NameAt wr g k ns[k] := by
        rcases HNA.out.below HB.out with ⟨h0, _⟩ | ⟨g, cap, h1, h2, h3, h4⟩
        · rw [h0] at hkl; simp at hkl
        · simp only [Value.slice.injEq] at h1
          exact ⟨g, h1.1, by rw [h1.2.2, h1.2.1]; exact h2, h4 k _ (List.getElem?_eq_getElem hkl)⟩
      have HSU := hide (Ld.placesTo_succ p ns k hkl)
      have hgw : g < wr.heap.size := World.block_lt_of_cell? _ _ e1
      have HCALL := hide (fun W hW => HP.out ns[k] W hW e4)
      clear e4 e5
      generalize ns[k] = y at *
      obtain ⟨ynm, yk, yc⟩ := y
      simp only at e1 e2 e3
      obtain ⟨wB, hwB⟩ : ∃ wB, wB = wr.alloc (.cells #[.string ⟨ynm.toArray⟩, .int .i64 yk, .int .i64 yc] 135) := ⟨_, rfl⟩
      have hbB : Below wr.heap.size wr wB := by rw [hwB]; exact (Below.refl _ _).alloc (Nat.le_refl _) _
      have HC := hide (HCALL.out wB (HB.out.trans (hbB.mono HB.out.size)))
      have HWB := hide hwB
      have HBB := hide hbB
      rw [hwB] at HC
      clear hwB hbB HCALL
      generalize hpl : Ld.placesTo p ns k = pl at *
      go_wp2_with fail
      refine HC.out.mono ?_
      rintro e w1 ⟨rfl, hb1⟩
      rw [← HWB.out] at hb1
      have hb2 : Below wr.heap.size wr w1 := HBB.out.trans (hb1.mono HBB.out.size)
      have HB1 := hide (HB.out.trans (hb2.mono HB.out.size))
      have HO1 := hide (own_below HO.out hb2)
      have HQ := HB1.out.size
      clear hb1 hb2 HC
      cases hpy : p ⟨ynm, yk, yc⟩ with
      | true =>
        rw [hpy] at HSU
        have HOWN : Hid (∀ o, (w1.alloc o).ownsRow w.heap.size 3 1 (.slice la pl.length lc) pl.length (pl.map intV)) := fun o => HO1.out.alloc o
        have HONE : Hid (∀ u ∈ [Value.int .i64 (k : Int)], u.oneCell' = true) := by
          intro u hu
          simp only [List.mem_cons, List.not_mem_nil, or_false] at hu
          subst hu; rfl
        have HFIN : Hid (∀ (o : Obj) (g cap : Nat) (wA : World), wA.ownsRow w.heap.size 3 1 (.slice (some ⟨g, 0, none⟩) (pl.length + 1) cap) (pl.length + 1) (pl.map intV ++ [intV k]) → (w1.alloc o).grownBy wA (Value.slice la pl.length lc).ownBlock →
            (wA.ownsRow w.heap.size 3 1 (.slice (some ⟨g, 0, none⟩) (pl.length + 1) cap) (Ld.placesTo p ns (k + 1)).length ((Ld.placesTo p ns (k + 1)).map intV) ∧ (Ld.placesTo p ns (k + 1)).length = pl.length + 1) ∧ Below w.heap.size w wA) := by
          intro o g cap wA hown hgrow
          rw [HSU.out, if_pos rfl]
          refine ⟨⟨by simpa using hown, by simp⟩, ?_⟩
          refine (HB1.out.alloc HB1.out.size o).grown hgrow (by simp; omega) (fun j e => (HO1.out.lt j e).1)
        clear HO1
        go_wp2_with (at_builtin; refine wpList_append_lies _ rfl (.tmp 19) (.tmp 21) 22 rfl w.heap.size 3 i0 _ 1 8 Tryz.underlying22 hi0 hz0 hz1 hz2 rfl (by decide) (.slice la pl.length lc) pl.length (pl.map intV) rfl (HOWN.out _) ⟨w1.heap.size, 0, none⟩ 1 1 [.int .i64 (k : Int)] rfl rfl (World.news_of_block (heap_alloc_new w1 _)) HONE.out (by decide) (by unfold maxLen; omega) (by omega) (by simp; omega) (w1.heap.size + 1) (by simp) ?_; intro g2 cap2 wC hown hgrow hat hltg; obtain ⟨⟨hoC, hlC⟩, hbC⟩ := HFIN.out _ g2 cap2 wC hown hgrow; have HOC := hide hoC; have HLC := hide hlC; have HBC := hide hbC; clear hoC hlC hbC hown hgrow hat)
        go_roundw
        case rel => exact ⟨k + 1, by omega, by go_num, ⟨_, _, by rw [HLC.out]⟩, HOC.out, HBC.out⟩
        case measure => simp [intOf]; omega
      | false =>
        rw [hpy] at HSU
        have HSE : Hid (Ld.placesTo p ns (k + 1) = pl) := by show _ = _; rw [HSU.out]; simp
        go_wp2_with fail
        go_roundw
        case rel => exact ⟨k + 1, by omega, by go_num, ⟨_, _, by rw [HSE.out]⟩, by rw [HSE.out]; exact HO1.out, HB1.out⟩
        case measure => simp [intOf]; omega
    · have hkn : k = n := by omega
      subst hkn
      go_wp2_with fail
      go_ret
      exact ⟨_, rfl, HO.out, HB.out⟩
theorem kind1_any (b : Nat) (s : Int) (n : Ld.Nme) (w : World) (hc : w.cell? ⟨b, 0, none⟩ = some (.int .i64 s)) :
    Calls Tryz.prog 68 #[.agg #[.string ⟨n.name.toArray⟩, .int .i64 n.kind, .int .i64 n.count], .pointer (some ⟨b, 0, none⟩)] w fun e w' => e = .returned (.bool (n.kind == s)) ∧ Below w.heap.size w w' := by
  obtain ⟨nm, k, c⟩ := n
  have hlt : b < w.heap.size := World.block_lt_of_cell? _ _ hc
  by_cases h : k = s
  all_goals
    go_enter Tryz.func68, Tryz.ntmps68
    go_wp2
    go_ret
    exact ⟨by simp [h], (Below.refl _ _).alloc (Nat.le_refl _) _⟩
set_option maxHeartbeats 2000000 in
set_option maxRecDepth 100000 in
theorem Kind_any (ns : List Ld.Nme) (nv rv : Value) (s : Int) (w : World) (hn : NamesAt w nv ns) (hr : ∃ a n c, rv = .slice a n c) :
    Calls Tryz.prog 40 #[.agg #[nv, rv], .int .i64 s] w fun e w' => ∃ v, e = .returned v ∧ w'.ownsRow w.heap.size 3 1 v (Ld.kindL ns s).length ((Ld.kindL ns s).map intV) ∧ Below w.heap.size w w' := by
  have hmf : ∀ (fn : Fn) (first cap : Array Value) (w : World), (Instr.makeFunc fn first cap).run Tryz.prog w = .ok (.func fn first cap) w := fun _ _ _ _ => rfl
  obtain ⟨ra, rn, rc, rfl⟩ := hr
  have HNA := hide hn
  obtain ⟨na, nc, rfl, _⟩ := hn.slice
  clear hn
  generalize ns.length = nn at *
  obtain ⟨w2, hw2⟩ : ∃ w2, w2 = (w.alloc (.cells #[.slice na nn nc, .slice ra rn rc] 26)).alloc (.cells #[.int .i64 s] 3) := ⟨_, rfl⟩
  have hb2 : Below w.heap.size w w2 := by rw [hw2]; exact ((Below.refl _ _).alloc (Nat.le_refl _) _).alloc (by simp) _
  have hc2 : w2.cell? ⟨w.heap.size + 1, 0, none⟩ = some (.int .i64 s) := by rw [hw2]; simp [go_sem]
  have hs2 : w2.heap.size = w.heap.size + 1 + 1 := by rw [hw2]; simp
  have HI := hide (numbers_any ns (.slice na nn nc) (.slice ra rn rc) (.func (.func 68) #[] #[.pointer (some ⟨w.heap.size + 1, 0, none⟩)]) (fun n => n.kind == s) w2 (HNA.out.below hb2) ⟨_, _, _, rfl⟩
    ⟨68, _, rfl, fun _ _ => by kernel_rfl, fun n W hW hn => kind1_any _ s n W ((hW.cell (p := ⟨w.heap.size + 1, 0, none⟩) (by show w.heap.size + 1 < _; omega)).trans hc2)⟩)
  rw [hw2] at HI
  have HB2 := hide hb2
  have HW2 := hide hw2
  clear hb2 hc2 hs2 hw2
  go_enter Tryz.func40, Tryz.ntmps40
  go_wp2_with fail
  refine HI.out.mono ?_
  rintro e w3 ⟨v, rfl, hown, hb3⟩
  rw [← HW2.out] at hown hb3
  have HO := hide (own_mono hown HB2.out.size)
  have HB3 := hide (HB2.out.trans (hb3.mono HB2.out.size))
  obtain ⟨a, c, rfl⟩ := own_slice hown
  clear hown hb3 HI
  go_wp2_with fail
  go_ret
  exact ⟨_, rfl, HO.out, HB3.out⟩
end
end Go.Proofs.YtkpfahbodlfpiaaGreatDoor
