/-
  The walk of the document's other side. The document's making tidy, in memory: the row of what is left, and the parts that are looked through. The walk of the document's Tidy: what is no list.
-/
import Derived.Test.YtjfgfcajmkbmeaaGreatDoorRxText
import Derived.Test.YtjfgfcajmkbmeaaGreatDoorRtMathAll
namespace Go.Proofs.YtjfgfcajmkbmeaaGreatDoor
open Go.RowKit
theorem RWf.of_wf {k : Nat} {nm : List UInt8} {n : Nat} (h : Ex.Shape k nm n) : RWf k nm n := by
  rcases h with h | ⟨h1, h2, h3, h4⟩ | h | h
  · exact .inl h
  · refine .inr (.inl ⟨h1, h2, ?_, h4⟩)
    intro e
    subst e
    simp [Nm.name] at h3
  · exact .inr (.inr (.inl h))
  · exact .inr (.inr (.inr h))
/-- a Not's part -/
theorem IsRx.part {ok : Nat → Prop} {w : World} {nm : List UInt8} {y : Ex} {g : Nat} (h : IsRx ok w ⟨5, nm, [y]⟩ g) : ∃ b cap q, w.cell? ⟨g, 0, none⟩ = some (.string ⟨#[33]⟩) ∧ w.cell? ⟨g, 2, none⟩ = some (.slice (some ⟨b, 0, none⟩) 1 cap) ∧ 1 ≤ cap ∧ w.cell? ⟨b, 0, none⟩ = some (.pointer (some ⟨q, 0, none⟩)) ∧ IsRx ok w y q := by
  rw [IsRx.def] at h
  obtain ⟨_, _, _, hk, _, sv, hsv, hof⟩ := h
  rcases hof with ⟨h0, _⟩ | ⟨_, b, cap, rfl, hc, _, hrow⟩
  · simp at h0
  · obtain ⟨q, hq, hy⟩ := hrow 0 _ rfl
    exact ⟨b, cap, q, hk, hsv, hc, hq, hy⟩
theorem kind_not (k : Nat) (h : k ≠ 5) : (kindS k == [33]) = false := by
  match k, h with
  | 0, _ => rfl
  | 1, _ => rfl
  | 2, _ => rfl
  | 3, _ => rfl
  | 4, _ => rfl
  | 5, h => exact absurd rfl h
  | 6, _ => rfl
  | n + 7, _ => rfl
/-- a new Not -/
theorem isRx_not {ok : Nat → Prop} {w : World} {x : Ex} {g : Nat} (h : IsRx ok w x g) :
    IsRx (fun q => ok q ∨ w.heap.size ≤ q) ((w.alloc (.cells #[.pointer (some ⟨g, 0, none⟩)] 70)).alloc (.cells #[.string ⟨#[33]⟩, .string ⟨#[]⟩, .slice (some ⟨w.heap.size, 0, none⟩) 1 1] 89)) ⟨5, [], [x]⟩ (w.heap.size + 1) := by
  have hb : Below w.heap.size w ((w.alloc (.cells #[.pointer (some ⟨g, 0, none⟩)] 70)).alloc (.cells #[.string ⟨#[33]⟩, .string ⟨#[]⟩, .slice (some ⟨w.heap.size, 0, none⟩) 1 1] 89)) := ((Below.refl _ _).alloc (Nat.le_refl _) _).alloc (by simp) _
  have e1 := heap_alloc_new (w.alloc (.cells #[.pointer (some ⟨g, 0, none⟩)] 70)) (.cells #[.string ⟨#[33]⟩, .string ⟨#[]⟩, .slice (some ⟨w.heap.size, 0, none⟩) 1 1] 89)
  rw [World.size_alloc] at e1
  have e2 : ((w.alloc (.cells #[.pointer (some ⟨g, 0, none⟩)] 70)).alloc (.cells #[.string ⟨#[33]⟩, .string ⟨#[]⟩, .slice (some ⟨w.heap.size, 0, none⟩) 1 1] 89)).heap[w.heap.size]? = some (.cells #[.pointer (some ⟨g, 0, none⟩)] 70 (0, 0)) := by
    rw [heap_alloc_old _ _ (by simp)]; exact heap_alloc_new w _
  rw [IsRx.def]
  refine ⟨.inr (by omega), .inr (.inr (.inl ⟨rfl, rfl, rfl⟩)), by simp, by rw [Lib.cell_of_heap e1]; rfl, by rw [Lib.cell_of_heap e1]; rfl, _, by rw [Lib.cell_of_heap e1]; rfl, .inr ⟨by simp, w.heap.size, 1, rfl, by simp, .inr (Nat.le_refl _), ?_⟩⟩
  intro i P hP
  match i, hP with
  | 0, hP =>
    simp only [List.map_cons, List.getElem?_cons_zero, Option.some.injEq] at hP
    refine ⟨g, by rw [Lib.cell_of_heap e2]; rfl, ?_⟩
    rw [← hP]
    exact IsRx.stay (Stay.below hb) (fun _ h => .inl h) x g h
  | i + 1, hP => simp at hP
set_option maxHeartbeats 2000000 in
set_option maxRecDepth 100000 in
theorem rother_any (ok : Nat → Prop) (x : Ex) (g : Nat) (w : World) (h : IsRx ok w x g) :
    Calls Tryz.prog 58 #[.pointer (some ⟨g, 0, none⟩)] w fun e w' => ∃ g', e = .returned (.pointer (some ⟨g', 0, none⟩)) ∧ IsRx (fun q => ok q ∨ w.heap.size ≤ q) w' (Ex.other x) g' ∧ Below w.heap.size w w' := by
  by_cases h5 : x.kind = 5
  · obtain ⟨k, nm, l⟩ := x
    simp only at h5
    subst h5
    obtain ⟨y, rfl⟩ : ∃ y, l = [y] := by
      have h1 := h
      rw [IsRx.def] at h1
      have hl : l.length = 1 := by
        rcases h1.2.1 with e | e | e | e
        · omega
        · omega
        · exact e.2.2
        · omega
      match l, hl with
      | [y], _ => exact ⟨y, rfl⟩
    obtain ⟨b, cap, q, c0, c2, hc, cq, hy⟩ := h.part
    have HY := hide hy
    clear h hy
    go_enter Tryz.func58, Tryz.ntmps58
    go_wp2_with fail
    go_ret
    exact ⟨q, rfl, IsRx.stay (Stay.below (Below.refl _ _)) (fun _ h => .inl h) y q HY.out, Below.refl _ _⟩
  · have HN := hide (isRx_not h)
    have hk : w.cell? ⟨g, 0, none⟩ = some (.string ⟨(kindS x.kind).toArray⟩) := by
      obtain ⟨k, nm, l⟩ := x
      rw [IsRx.def] at h
      exact h.2.2.2.1
    have hne := kind_not x.kind h5
    have HO : Hid (Ex.other x = ⟨5, [], [x]⟩) := by show _ = _; unfold Ex.other; rw [if_neg h5]
    generalize kindS x.kind = kk at *
    clear h h5
    go_enter Tryz.func58, Tryz.ntmps58
    go_wp2_with fail
    go_ret
    rw [HO.out]
    exact ⟨_, rfl, HN.out, ((Below.refl _ _).alloc (Nat.le_refl _) _).alloc (by simp) _⟩
/-- what is left so far: a row of the call's own -/
structure RS (ok : Nat → Prop) (w : World) (k : Nat) (L U : List Ex) (lv : Value) (us : List Value) (wr : World) : Prop where
  below : Below w.heap.size w wr
  own : wr.ownsRow w.heap.size 70 1 lv U.length us
  each : ∀ (j : Nat) (x : Ex), U[j]? = some x → ∃ g, us[j]? = some (.pointer (some ⟨g, 0, none⟩)) ∧ IsRx (fun b => ok b ∧ some b ≠ lv.ownBlock) wr x g
  gth : Ex.Gth k L U false
  td : ∀ x, x ∈ U → Ex.Td x ∧ 2 ≤ x.kind ∧ x.size ≤ 40000
/-- the parts that are looked through: a row that is not that one -/
structure PC (ok : Nat → Prop) (P : List Ex) (hp : Nat) (lv : Value) (wr : World) : Prop where
  ne : some hp ≠ lv.ownBlock
  lt : hp < wr.heap.size
  each : ∀ (i : Nat) (y : Ex), P[i]? = some y → ∃ q, wr.cell? ⟨hp, i, none⟩ = some (.pointer (some ⟨q, 0, none⟩)) ∧ IsRx (fun b => ok b ∧ some b ≠ lv.ownBlock) wr y q
section
variable {ok : Nat → Prop} {w : World} {k : Nat} {L U P : List Ex} {lv v' : Value} {us : List Value} {wr w2 : World} {hp : Nat}
theorem RS.on (h : RS ok w k L U lv us wr) (hb : Below wr.heap.size wr w2) : RS ok w k L U lv us w2 := by
  refine ⟨h.below.trans (hb.mono h.below.size), h.own.kept (row := none) ⟨hb.os, hb.tape, hb.output, hb.size, fun k hk _ => hb.block k hk⟩ (by cases lv.ownBlock <;> simp), fun j x hx => ?_, h.gth, h.td⟩
  obtain ⟨g, hg, hx⟩ := h.each j x hx
  exact ⟨g, hg, IsRx.stay (Stay.below hb) (fun _ h => h) x g hx⟩
theorem PC.on (h : PC ok P hp lv wr) (hb : Below wr.heap.size wr w2) : PC ok P hp lv w2 := by
  refine ⟨h.ne, Nat.lt_of_lt_of_le h.lt hb.size, fun i y hy => ?_⟩
  obtain ⟨q, hq, hx⟩ := h.each i y hy
  exact ⟨q, (hb.cell (p := ⟨hp, i, none⟩) h.lt).trans hq, IsRx.stay (Stay.below hb) (fun _ h => h) y q hx⟩
/-- what stays where the row grows -/
theorem grow_stay {o : Obj} (hg : (wr.alloc o).grownBy w2 lv.ownBlock) : Stay (fun b => some b ≠ lv.ownBlock) wr w2 := fun g i u hg1 hc => by
  have h1 : (wr.alloc o).cell? ⟨g, i, none⟩ = some u := by rw [World.cell?_alloc_lt _ _ ⟨g, i, none⟩ (World.block_lt_of_cell? _ _ hc)]; exact hc
  exact hg.cell h1 hg1
theorem IsRx.grow {o : Obj} {x : Ex} {g : Nat} (hx : IsRx (fun b => ok b ∧ some b ≠ lv.ownBlock) wr x g) (hg : (wr.alloc o).grownBy w2 lv.ownBlock) (hat : v'.ownBlock = lv.ownBlock ∨ v'.ownBlock = some (wr.heap.size + 1)) : IsRx (fun b => ok b ∧ some b ≠ v'.ownBlock) w2 x g := by
  refine IsRx.stay (ok := fun b => (ok b ∧ some b ≠ lv.ownBlock) ∧ b < wr.heap.size) (fun g i u h1 hc => grow_stay hg g i u h1.1.2 hc) (fun b hb => ⟨hb.1.1, ?_⟩) x g (IsRx.lt x g hx)
  rcases hat with e | e
  · rw [e]; exact hb.1.2
  · rw [e]; intro e2; simp only [Option.some.injEq] at e2; have := hb.2; omega
theorem PC.grow {o : Obj} (h : PC ok P hp lv wr) (hg : (wr.alloc o).grownBy w2 lv.ownBlock) (hat : v'.ownBlock = lv.ownBlock ∨ v'.ownBlock = some (wr.heap.size + 1)) : PC ok P hp v' w2 := by
  have hl := h.lt
  have hs : wr.heap.size + 1 ≤ w2.heap.size := by have := hg.size; simpa using this
  refine ⟨?_, by omega, fun i y hy => ?_⟩
  · rcases hat with e | e
    · rw [e]; exact h.ne
    · rw [e]; intro e2; simp only [Option.some.injEq] at e2; omega
  · obtain ⟨q, hq, hx⟩ := h.each i y hy
    exact ⟨q, grow_stay hg hp i _ h.ne hq, hx.grow hg hat⟩
theorem RS.push {o : Obj} {y : Ex} {q : Nat} (h : RS ok w k L U lv us wr) (hy : IsRx (fun b => ok b ∧ some b ≠ lv.ownBlock) wr y q) (hg : (wr.alloc o).grownBy w2 lv.ownBlock) (hat : v'.ownBlock = lv.ownBlock ∨ v'.ownBlock = some (wr.heap.size + 1)) (hown : w2.ownsRow w.heap.size 70 1 v' (U.length + 1) (us ++ [.pointer (some ⟨q, 0, none⟩)]))
    (hL : ∀ z, z ∈ L → Ex.Td z) (ht : Ex.Td y) (h2 : 2 ≤ y.kind) (hn : y ∉ U) (ho : Ex.other y ∉ U) (hsy : y.size ≤ 40000) : RS ok w k (L ++ [y]) (U ++ [y]) v' (us ++ [.pointer (some ⟨q, 0, none⟩)]) w2 := by
  have hul : us.length = U.length := by have := h.own.1; omega
  have hsz := h.below.size
  refine ⟨?_, by simpa using hown, fun j x hx => ?_, h.gth.atNew h2 hn ho hL ht, fun x hx => ?_⟩
  · refine ⟨hg.os.trans h.below.os, hg.tape.trans h.below.tape, hg.output.trans h.below.output, by have := hg.size; simp at this; omega, fun b hb => ?_⟩
    rw [hg.block b (by simp; omega) (fun e => by have := (h.own.lt b e.symm).1; omega), heap_alloc_old _ _ (by omega)]
    exact h.below.block b hb
  · by_cases hj : j < U.length
    · rw [List.getElem?_append_left hj] at hx
      obtain ⟨g, hg1, hx1⟩ := h.each j x hx
      exact ⟨g, by rw [List.getElem?_append_left (by omega)]; exact hg1, hx1.grow hg hat⟩
    · have hje : j = U.length := by
        by_cases e : j = U.length
        · exact e
        · rw [List.getElem?_eq_none (by simp; omega)] at hx; cases hx
      subst hje
      rw [List.getElem?_append_right (Nat.le_refl _)] at hx
      simp only [Nat.sub_self, List.getElem?_cons_zero, Option.some.injEq] at hx
      subst hx
      exact ⟨q, by rw [List.getElem?_append_right (by omega), hul]; simp, hy.grow hg hat⟩
  · rcases List.mem_append.1 hx with hx | hx
    · exact h.td x hx
    · rw [List.mem_singleton.1 hx]; exact ⟨ht, h2, hsy⟩
theorem RS.shape (h : RS ok w k L U lv us wr) : ∃ a c, lv = .slice a U.length c := by
  rcases h.own.2 with ⟨hv, hn⟩ | ⟨g, cap, cur, hv, _⟩
  · exact ⟨_, _, by rw [hv, hn]⟩
  · exact ⟨_, _, hv⟩
/-- nothing is left out: it stands there already -/
theorem RS.there {y : Ex} (h : RS ok w k L U lv us wr) (hL : ∀ z, z ∈ L → Ex.Td z) (ht : Ex.Td y) (h2 : 2 ≤ y.kind) (hy : y ∈ U) : RS ok w k (L ++ [y]) U lv us wr := ⟨h.below, h.own, h.each, h.gth.atThere h2 hy hL ht, h.td⟩
/-- the row's cell -/
theorem RS.cell {a : Option Addr} {c : Nat} (h : RS ok w k L U (.slice a U.length c) us wr) (j : Nat) (x : Ex) (hj : U[j]? = some x) : ∃ gr g, a = some ⟨gr, 0, none⟩ ∧ wr.cell? ⟨gr, j, none⟩ = some (.pointer (some ⟨g, 0, none⟩)) ∧ IsRx (fun b => ok b ∧ some b ≠ (Value.slice a U.length c).ownBlock) wr x g := by
  obtain ⟨g, hg, hx⟩ := h.each j x hj
  have hjl : j < U.length := (List.getElem?_eq_some_iff.1 hj).1
  rcases h.own.2 with ⟨hv, hn⟩ | ⟨gr, cap, cur, hv, _⟩
  · omega
  · simp only [Value.slice.injEq] at hv
    obtain ⟨rfl, _, rfl⟩ := hv
    exact ⟨gr, g, rfl, by rw [h.own.cellAt j (by omega)]; exact hg, hx⟩
end
/-- Tidy, at this expression -/
def TidyRK (x : Ex) : Prop := ∀ (ok : Nat → Prop) (g : Nat) (w : World), (∀ q, ok q → q < w.heap.size) → IsRx ok w x g → Ex.Wf x → x.size ≤ 40000 →
  Calls Tryz.prog 33 #[.pointer (some ⟨g, 0, none⟩)] w fun e w' => ∃ g', e = .returned (.pointer (some ⟨g', 0, none⟩)) ∧ IsRx (fun q => ok q ∨ w.heap.size ≤ q) w' x.tidy g' ∧ Below w.heap.size w w'
theorem kind_and (k : Nat) (h : k ≠ 6) : (kindS k == [38]) = false := by
  match k, h with
  | 0, _ => rfl
  | 1, _ => rfl
  | 2, _ => rfl
  | 3, _ => rfl
  | 4, _ => rfl
  | 5, _ => rfl
  | 6, h => exact absurd rfl h
  | n + 7, _ => rfl
theorem kind_bar (k : Nat) (h : k < 7) : (kindS k == [124]) = false := by
  match k, h with
  | 0, _ => rfl
  | 1, _ => rfl
  | 2, _ => rfl
  | 3, _ => rfl
  | 4, _ => rfl
  | 5, _ => rfl
  | 6, _ => rfl
  | n + 7, h => omega
theorem kind_0 (k : Nat) (h : k ≠ 0) : (kindS k == [48]) = false := by
  match k, h with
  | 0, h => exact absurd rfl h
  | 1, _ => rfl
  | 2, _ => rfl
  | 3, _ => rfl
  | 4, _ => rfl
  | 5, _ => rfl
  | 6, _ => rfl
  | n + 7, _ => rfl
theorem kind_1 (k : Nat) (h : k ≠ 1) : (kindS k == [49]) = false := by
  match k, h with
  | 0, _ => rfl
  | 1, h => exact absurd rfl h
  | 2, _ => rfl
  | 3, _ => rfl
  | 4, _ => rfl
  | 5, _ => rfl
  | 6, _ => rfl
  | n + 7, _ => rfl
theorem IsRx.kind {ok : Nat → Prop} {w : World} {x : Ex} {g : Nat} (h : IsRx ok w x g) : w.cell? ⟨g, 0, none⟩ = some (.string ⟨(kindS x.kind).toArray⟩) := by
  obtain ⟨k, nm, l⟩ := x
  rw [IsRx.def] at h
  exact h.2.2.2.1
/-- a new constant -/
theorem isRx_const (ok : Nat → Prop) (w : World) (k : Nat) (hk : k ≤ 1) (s : ByteArray) (hs : s = ⟨(kindS k).toArray⟩) : IsRx (fun q => ok q ∨ w.heap.size ≤ q) (w.alloc (.cells #[.string s, .string ⟨#[]⟩, .slice none 0 0] 89)) ⟨k, [], []⟩ w.heap.size := by
  have e1 := heap_alloc_new w (.cells #[.string s, .string ⟨#[]⟩, .slice none 0 0] 89)
  rw [IsRx.def]
  subst hs
  exact ⟨.inr (Nat.le_refl _), .inl ⟨hk, rfl, rfl⟩, by simp, by rw [Lib.cell_of_heap e1]; rfl, by rw [Lib.cell_of_heap e1]; rfl, _, by rw [Lib.cell_of_heap e1]; rfl, .inl ⟨rfl, rfl⟩⟩
set_option maxHeartbeats 4000000 in
set_option maxRecDepth 100000 in
theorem rtidy_leaf (k : Nat) (hk4 : k ≤ 4) (nm : List UInt8) (l : List Ex) : TidyRK ⟨k, nm, l⟩ := by
  intro ok g w hok h hw hs
  have hk := h.kind
  simp only at hk
  have h1 := kind_not k (by omega)
  have h2 := kind_and k (by omega)
  have h3 := kind_bar k (by omega)
  have HF : Hid (IsRx (fun q => ok q ∨ w.heap.size ≤ q) w (Ex.tidy ⟨k, nm, l⟩) g) := by
    show IsRx _ _ _ _
    rw [Ex.tidy_leaf k hk4]
    exact IsRx.stay (Stay.below (Below.refl _ _)) (fun _ h => .inl h) _ g h
  generalize kindS k = kk at *
  clear h hw hs hok
  go_enter Tryz.func33, Tryz.ntmps33
  go_wp2_with fail
  go_ret
  exact ⟨g, rfl, HF.out, Below.refl _ _⟩
set_option maxHeartbeats 4000000 in
set_option maxRecDepth 100000 in
theorem rtidy_not (nm : List UInt8) (y : Ex) (hY : TidyRK y) : TidyRK ⟨5, nm, [y]⟩ := by
  intro ok g w hok h hw hs
  have hwy : Ex.Wf y := ((Ex.Wf.def _ _ _).1 hw).2 y (by simp)
  have hsy : y.size ≤ 40000 := by rw [Ex.size_def] at hs; simp at hs; omega
  obtain ⟨b, cap, q, c0, c2, hc, cq, hy⟩ := h.part
  have HC := hide (hY ok q w hok hy hwy hsy)
  rw [Ex.tidy5]
  have HTD := hide (Ex.td_tidy y hwy)
  generalize y.tidy = t at *
  clear h hw hs hwy hsy hy hY
  go_enter Tryz.func33, Tryz.ntmps33
  go_wp2_with fail
  refine HC.out.mono ?_
  rintro e w1 ⟨g1, rfl, hx1, hb1⟩
  have HB1 := hide hb1
  have HX1 := hide hx1
  have hk1 := hx1.kind
  have hsz := hb1.size
  clear hx1 hb1 HC
  by_cases h0 : t.kind = 0
  · have HF : Hid (Ex.notT t = ⟨1, [], []⟩) := by show _ = _; unfold Ex.notT; rw [if_pos h0]
    have HN := hide (isRx_const ok w1 1 (by omega) ⟨#[49]⟩ rfl)
    rw [h0] at hk1
    simp only [kindS] at hk1
    go_wp2_with fail
    go_ret
    rw [HF.out]
    exact ⟨_, rfl, IsRx.stay (Stay.below (Below.refl _ _)) (fun q h => h.imp id (fun h => Nat.le_trans hsz h)) _ _ HN.out, HB1.out.alloc hsz _⟩
  · by_cases h1 : t.kind = 1
    · have HF : Hid (Ex.notT t = ⟨0, [], []⟩) := by show _ = _; unfold Ex.notT; rw [if_neg h0, if_pos h1]
      have HN := hide (isRx_const ok w1 0 (by omega) ⟨#[48]⟩ rfl)
      rw [h1] at hk1
      simp only [kindS] at hk1
      go_wp2_with fail
      go_ret
      rw [HF.out]
      exact ⟨_, rfl, IsRx.stay (Stay.below (Below.refl _ _)) (fun q h => h.imp id (fun h => Nat.le_trans hsz h)) _ _ HN.out, HB1.out.alloc hsz _⟩
    · have HF : Hid (Ex.notT t = Ex.other t) := by show _ = _; unfold Ex.notT; rw [if_neg h0, if_neg h1]
      have e0 := kind_0 t.kind h0
      have e1 := kind_1 t.kind h1
      have HC2 := hide (rother_any _ t g1 w1 HX1.out)
      generalize kindS t.kind = kk at *
      clear h0 h1
      go_wp2_with fail
      refine HC2.out.mono ?_
      rintro e w2 ⟨g2, rfl, hx2, hb2⟩
      have HX2 := hide hx2
      have HB2 := hide (HB1.out.trans (hb2.mono hsz))
      clear hx2 hb2
      go_wp2_with fail
      go_ret
      rw [HF.out]
      refine ⟨g2, rfl, IsRx.stay (Stay.below (Below.refl _ _)) (fun q h => ?_) _ _ HX2.out, HB2.out⟩
      rcases h with (h | h) | h
      · exact .inl h
      · exact .inr h
      · exact .inr (Nat.le_trans hsz h)
end Go.Proofs.YtjfgfcajmkbmeaaGreatDoor
