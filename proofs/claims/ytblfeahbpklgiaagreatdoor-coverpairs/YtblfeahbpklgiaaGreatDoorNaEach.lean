/-
  The walks of eachName and of the closures that gather names: they stand, as they are met, in a row of the caller's own.
-/
import Derived.Test.YtblfeahbpklgiaaGreatDoorExLe
import Derived.Test.YtblfeahbpklgiaaGreatDoorEvWithinAll
import Derived.Lib.OthersKept
namespace Go.Proofs.YtblfeahbpklgiaaGreatDoor
open Go.RowKit
def strV (l : List UInt8) : Value := .string ⟨l.toArray⟩
/-- all below p stands; of what lies above it all but p and the rows of strings -/
def Kn (p : Nat) (w w' : World) : Prop := Below p w w' ∧ Lib.OthersKept 9 (some p) w w'
namespace Kn
theorem refl (p : Nat) (w : World) : Kn p w w := ⟨Below.refl _ _, Lib.OthersKept.refl _ _ _⟩
theorem trans {p : Nat} {x y z : World} (h : Kn p x y) (k : Kn p y z) : Kn p x z := ⟨h.1.trans k.1, h.2.trans k.2⟩
theorem alloc {p : Nat} {a w : World} (h : Kn p a w) (hp : p ≤ w.heap.size) (o : Obj) : Kn p a (w.alloc o) := ⟨h.1.alloc hp o, h.2.alloc o⟩
theorem setCell {p : Nat} {a w : World} (h : Kn p a w) (q : Addr) (hq : q.block = p) (v : Value) : Kn p a (w.setCell q v) := ⟨h.1.setCell (by omega) v, h.2.setCell q hq v⟩
theorem grown {p : Nat} {a w w' : World} {row : Option Nat} (h : Kn p a w) (hg : w.grownBy w' row) (hp : p ≤ w.heap.size) (hr : ∀ k, row = some k → p ≤ k) (hrow : ∀ g, row = some g → ∃ c fz, w.heap[g]? = some (.cells c 9 fz)) : Kn p a w' :=
  ⟨h.1.grown hg hp hr, h.2.grown hg hrow⟩
theorem of_below {p : Nat} {w w' : World} (h : Below w.heap.size w w') (hp : p ≤ w.heap.size) : Kn p w w' :=
  ⟨h.mono hp, fun k o hk _ _ => by rw [h.block k (Array.getElem?_eq_some_iff.1 hk).1]; exact hk⟩
theorem keeps {p : Nat} {w w' : World} (h : Kn p w w') {g : Nat} {c : Array Value} {t : TypeId} {fz : Nat × Nat} (hg : w.heap[g]? = some (.cells c t fz)) (hp : g ≠ p) (ht : t ≠ 9) : w'.heap[g]? = some (.cells c t fz) :=
  h.2 g _ hg (fun e => hp (Option.some.inj e)) (fun c' fz' e => ht (by injection e))
end Kn
/-- in block p lies a slice of strings, its row behind p -/
structure St (p : Nat) (ns : List (List UInt8)) (w : World) : Prop where
  ex : ∃ v, w.heap[p]? = some (.cells #[v] 34 (0, 0)) ∧ w.ownsRow (p + 1) 9 1 v ns.length (ns.map strV)
theorem St.lt {p : Nat} {ns : List (List UInt8)} {w : World} (h : St p ns w) : p < w.heap.size := by
  obtain ⟨v, h1, _⟩ := h.ex
  exact (Array.getElem?_eq_some_iff.1 h1).1
theorem St.below {p : Nat} {ns : List (List UInt8)} {w w' : World} (h : St p ns w) (hb : Below w.heap.size w w') : St p ns w' := by
  have hlt := h.lt
  obtain ⟨v, h1, h2⟩ := h.ex
  exact ⟨v, by rw [hb.block p hlt]; exact h1, h2.kept (row := none) ⟨hb.os, hb.tape, hb.output, hb.size, fun k hk _ => hb.block k hk⟩ (by cases v.ownBlock <;> simp)⟩
theorem Tryz.infoStr : (Tryz.prog.info? 9).map (fun i => (i.zero, i.size, i.bytes)) = some (some (.string ⟨#[]⟩), 1, 16) := by kernel_rfl
theorem ownsRow_kind1 {w : World} {B : Nat} {e : TypeId} {v : Value} {n : Nat} {xs : List Value} (h : w.ownsRow B e 1 v n xs) : ∀ g, v.ownBlock = some g → ∃ c fz, w.heap[g]? = some (.cells c e fz) := by
  intro g hg
  rcases h.2 with ⟨hv, _⟩ | ⟨g', cap, cur, hv, _, hcur, _⟩
  · rw [hv] at hg; cases hg
  · rw [hv] at hg
    simp only [Value.ownBlock, Option.some.injEq] at hg
    subst hg
    exact ⟨cur, (0, 0), hcur⟩
/-- a closure that gathers: of each name (and whether it is an edge) those that are picked -/
def Gathers (K : Nat) (pick : Bool → Bool) : Prop := Entered K ∧ ∀ (p : Nat) (nm : List UInt8) (edge : Bool) (ns : List (List UInt8)) (w : World), St p ns w → ns.length ≤ 1000000 →
  Calls Tryz.prog K #[.string ⟨nm.toArray⟩, .bool edge, .pointer (some ⟨p, 0, none⟩)] w fun e w' => e = .returned (.tuple #[]) ∧ St p (ns ++ (if pick edge then [nm] else [])) w' ∧ Kn p w w'
/-- what an append to that row comes to -/
theorem St.put {p : Nat} {ns : List (List UInt8)} {nm : List UInt8} {v v' : Value} {w w2 : World} (hp : w.heap[p]? = some (.cells #[v] 34 (0, 0))) (ho : w.ownsRow (p + 1) 9 1 v ns.length (ns.map strV))
    (hown : w2.ownsRow (p + 1) 9 1 v' (ns.length + 1) (ns.map strV ++ [strV nm])) (hg : (w.alloc (.cells #[strV nm] 9)).grownBy w2 v.ownBlock) :
    w2.heap[p]? = some (.cells #[v] 34 (0, 0)) ∧ Kn p w w2 ∧ St p (ns ++ [nm]) (w2.setCell ⟨p, 0, none⟩ v') := by
  have hlt : p < w.heap.size := (Array.getElem?_eq_some_iff.1 hp).1
  have hb2 : w2.heap[p]? = some (.cells #[v] 34 (0, 0)) := by
    rw [hg.block p (by simp; omega) (fun e => by have := (ho.lt p e.symm).1; omega), Below.heap_alloc w _ p hlt]
    exact hp
  refine ⟨hb2, ?_, ?_⟩
  · refine ((Kn.refl p w).alloc (by omega) _).grown hg (by simp; omega) (fun k hk => by have := (ho.lt k hk).1; omega) (fun g hgg => ?_)
    obtain ⟨c, fz, hc⟩ := ownsRow_kind1 ho g hgg
    exact ⟨c, fz, by rw [Below.heap_alloc w _ g (ho.lt g hgg).2]; exact hc⟩
  · refine ⟨v', ?_, ?_⟩
    · simp [World.setCell, Array.getElem?_modify, hb2]
    · have e1 : (ns ++ [nm]).length = ns.length + 1 := by simp
      have e2 : (ns ++ [nm]).map strV = ns.map strV ++ [strV nm] := by simp
      rw [e1, e2]
      exact hown.kept (row := some p) ⟨rfl, rfl, rfl, by simp [World.setCell], fun k _ hk => Below.heap_setCell _ _ _ _ (fun e => hk (by simp [e]))⟩ (by
        cases hv : v'.ownBlock with
        | none => exact .inl rfl
        | some k => right; intro e; have := (hown.lt k hv).1; simp only [Option.some.injEq] at e; omega)
set_option maxHeartbeats 1000000 in
set_option maxRecDepth 100000 in
theorem names1_any : Gathers 32 (fun _ => true) := by
  refine ⟨fun _ _ => by kernel_rfl, ?_⟩
  intro p nm edge ns w h hlen
  obtain ⟨i0, hi0, hz0, hz1, hz2⟩ := info_parts Tryz.infoStr
  obtain ⟨v, hp, ho⟩ := h.ex
  have HP := hide hp
  have HO := hide ho
  have HO2 := hide (ho.alloc (.cells #[.string ⟨nm.toArray⟩] 9))
  have hlt := h.lt
  have c0 : w.cell? ⟨p, 0, none⟩ = some v := by rw [Lib.cell_of_heap hp]; rfl
  have hv0 : ∃ a n c, v = .slice a n c := by
    rcases ho.2 with ⟨hv, _⟩ | ⟨g, cap, cur, hv, _⟩
    · exact ⟨_, _, _, hv⟩
    · exact ⟨_, _, _, hv⟩
  clear h hp ho
  obtain ⟨a, n, c, rfl⟩ := hv0
  go_enter Tryz.func32, Tryz.ntmps32
  go_wp2_with (at_builtin; refine wpList_append_own _ rfl _ _ 34 rfl (p + 1) 9 i0 (.string ⟨#[]⟩) 1 16 Tryz.underlying34 hi0 hz0 hz1 hz2 rfl (by decide) _ ns.length (ns.map strV) rfl HO2.out ⟨w.heap.size, 0, none⟩ 1 1 [.string ⟨nm.toArray⟩] rfl rfl (cell_one_new _ _ _) ?c2 ?c3 ?c4 ?c5 ?_)
  case c2 => intro z hz; simp at hz; subst hz; rfl
  case c3 => unfold maxLen; omega
  case c4 => omega
  case c5 => simp; omega
  intro v' w2 hown' hgrow _
  have hput := St.put HP.out HO.out hown' hgrow
  have HB2 := hide hput.1
  have HK2 := hide hput.2.1
  have HS2 := hide hput.2.2
  have d0 : w2.cell? ⟨p, 0, none⟩ = some (.slice a n c) := by rw [Lib.cell_of_heap hput.1]; rfl
  have f0 : w2.frozen? ⟨p, 0, none⟩ = false := Lib.frozen_of_heap hput.1 0
  obtain ⟨g, cap, hv'⟩ : ∃ g cap, v' = .slice (some ⟨g, 0, none⟩) (ns.length + 1) cap := by
    rcases hown'.2 with ⟨_, h0⟩ | ⟨g, cap, cur, hv, _⟩
    · omega
    · exact ⟨g, cap, hv⟩
  rw [hv'] at HS2
  rw [hv']
  clear hown' hgrow hv' hput HO HO2 HP c0 HB2
  go_wp2_with fail
  go_end0
  exact ⟨rfl, HS2.out, HK2.out.setCell ⟨p, 0, none⟩ rfl _⟩
/-- the slice of an expression's parts: its row lies below p, or is a row of expressions -/
def PartsK (p : Nat) (w : World) (sv : Value) (xs : List Ex) : Prop :=
  (xs = [] ∧ sv = .slice none 0 0) ∨ ∃ g cap, sv = .slice (some ⟨g, 0, none⟩) xs.length cap ∧ xs.length ≤ cap ∧ xs.length ≤ 9223372036854775807 ∧ (g < p ∨ (g ≠ p ∧ ∃ c fz, w.heap[g]? = some (.cells c 23 fz))) ∧
    ∀ (k : Nat) (x : Ex), xs[k]? = some x → ∃ u, w.cell? ⟨g, k, none⟩ = some u ∧ IsEx (fun g => g < p) w x u
theorem IsEx.low {p : Nat} {w w' : World} {x : Ex} {v : Value} (h : IsEx (fun g => g < p) w x v) (hb : Below p w w') : IsEx (fun g => g < p) w' x v :=
  IsEx.stay (fun g i u hg hc => by rw [hb.cell (p := ⟨g, i, none⟩) hg]; exact hc) (fun g hg => hg) x v h
theorem PartsK.keep {p : Nat} {w w' : World} {sv : Value} {xs : List Ex} (h : PartsK p w sv xs) (hk : Kn p w w') : PartsK p w' sv xs := by
  rcases h with h | ⟨g, cap, h1, h2, h3, h4, h5⟩
  · exact .inl h
  · refine .inr ⟨g, cap, h1, h2, h3, ?_, fun k x hx => ?_⟩
    · rcases h4 with h4 | ⟨h4, c, fz, h6⟩
      · exact .inl h4
      · exact .inr ⟨h4, c, fz, hk.keeps h6 h4 (by decide)⟩
    · obtain ⟨u, hu, he⟩ := h5 k x hx
      refine ⟨u, ?_, he.low hk.1⟩
      rcases h4 with h4 | ⟨h4, c, fz, h6⟩
      · rw [hk.1.cell (p := ⟨g, k, none⟩) h4]; exact hu
      · rw [Lib.cell_of_heap (hk.keeps h6 h4 (by decide)), ← Lib.cell_of_heap h6]; exact hu
set_option maxHeartbeats 1000000 in
theorem within_k (p : Nat) (x : Ex) (v : Value) (w : World) (hp : p < w.heap.size) (h : IsEx (fun g => g < p) w x v) :
    Calls Tryz.prog 46 #[v] w fun e w' => ∃ sv, e = .returned sv ∧ PartsK p w' sv x.of ∧ Below w.heap.size w w' := by
  obtain ⟨k, nm, l⟩ := x
  match k, h with
  | 0, h =>
    simp only [IsEx] at h
    obtain ⟨_, hl, rfl⟩ := h
    go_enter Tryz.func46, Tryz.ntmps46
    go_wp2
    go_ret
    exact ⟨_, rfl, .inl ⟨hl, rfl⟩, Below.refl _ _⟩
  | 1, h =>
    simp only [IsEx] at h
    obtain ⟨_, hl, rfl⟩ := h
    go_enter Tryz.func46, Tryz.ntmps46
    go_wp2
    go_ret
    exact ⟨_, rfl, .inl ⟨hl, rfl⟩, Below.refl _ _⟩
  | 2, h =>
    simp only [IsEx] at h
    obtain ⟨hl, _, rfl⟩ := h
    go_enter Tryz.func46, Tryz.ntmps46
    go_wp2
    go_ret
    exact ⟨_, rfl, .inl ⟨hl, rfl⟩, Below.refl _ _⟩
  | 3, h =>
    simp only [IsEx] at h
    obtain ⟨hl, _, rfl⟩ := h
    go_enter Tryz.func46, Tryz.ntmps46
    go_wp2
    go_ret
    exact ⟨_, rfl, .inl ⟨hl, rfl⟩, Below.refl _ _⟩
  | 4, h =>
    simp only [IsEx] at h
    obtain ⟨hl, _, rfl⟩ := h
    go_enter Tryz.func46, Tryz.ntmps46
    go_wp2
    go_ret
    exact ⟨_, rfl, .inl ⟨hl, rfl⟩, Below.refl _ _⟩
  | 5, h =>
    simp only [IsEx] at h
    obtain ⟨_, h1, u, rfl, h3⟩ := h
    match l, h1 with
    | [y], _ =>
      have hy : IsEx (fun g => g < p) w y u := h3 _ rfl
      obtain ⟨tu, yu, hiu⟩ := IsEx.iface y u hy
      subst hiu
      have HY := hide hy
      clear h3 hy
      go_enter Tryz.func46, Tryz.ntmps46
      go_wp2
      go_ret
      have hb : Below w.heap.size w ((w.alloc (.cells #[.iface tu yu] 104)).alloc (.cells #[.iface tu yu] 23)) := ((Below.refl _ w).alloc (Nat.le_refl _) _).alloc (by simp) _
      have hh := heap_alloc_new (w.alloc (.cells #[.iface tu yu] 104)) (.cells #[.iface tu yu] 23)
      rw [World.size_alloc] at hh
      refine ⟨_, rfl, .inr ⟨w.heap.size + 1, 1, rfl, by simp, by simp, .inr ⟨by omega, _, _, hh⟩, ?_⟩, hb⟩
      intro k x hk
      match k, hk with
      | 0, hk =>
        simp only [List.getElem?_cons_zero, Option.some.injEq] at hk
        subst hk
        exact ⟨_, by simp [go_sem], HY.out.low (hb.mono (by omega))⟩
      | k + 1, hk => simp at hk
  | 6, h =>
    simp only [IsEx] at h
    obtain ⟨_, _, h3, g, cap, rfl, h4, hg, hr⟩ := h
    have HR := hide hr
    clear hr
    generalize hn : l.length = n at *
    have HN := hide hn
    clear hn
    go_enter Tryz.func46, Tryz.ntmps46
    go_wp2
    go_ret
    exact ⟨.slice (some ⟨g, 0, none⟩) n cap, rfl, .inr ⟨g, cap, by show _ = Value.slice _ l.length cap; rw [HN.out], by show l.length ≤ cap; rw [HN.out]; exact h4, by show l.length ≤ _; rw [HN.out]; exact h3, .inl hg, fun k x hx => HR.out k _ (by rw [List.getElem?_map, hx]; rfl)⟩, Below.refl _ _⟩
  | 7, h =>
    simp only [IsEx] at h
    obtain ⟨_, _, h3, g, cap, rfl, h4, hg, hr⟩ := h
    have HR := hide hr
    clear hr
    generalize hn : l.length = n at *
    have HN := hide hn
    clear hn
    go_enter Tryz.func46, Tryz.ntmps46
    go_wp2
    go_ret
    exact ⟨.slice (some ⟨g, 0, none⟩) n cap, rfl, .inr ⟨g, cap, by show _ = Value.slice _ l.length cap; rw [HN.out], by show l.length ≤ cap; rw [HN.out]; exact h4, by show l.length ≤ _; rw [HN.out]; exact h3, .inl hg, fun k x hx => HR.out k _ (by rw [List.getElem?_map, hx]; rfl)⟩, Below.refl _ _⟩
  | n + 8, h => simp only [IsEx] at h
end Go.Proofs.YtblfeahbpklgiaaGreatDoor
