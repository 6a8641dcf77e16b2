/-
  A table's program, as package route lays it, is the plain one. The walk of package route's Ladder, whole: a table that may not be gives an error, any other its program.
-/
import Derived.Test.YtflonjbbolmelaaGreatDoorRoLadder
import Derived.Test.YtflonjbbolmelaaGreatDoorRoProgAll
import Derived.Test.YtflonjbbolmelaaGreatDoorLdRepAll
namespace Go.Proofs.YtflonjbbolmelaaGreatDoor
section
namespace Ro
open Go.RowKit
/-- two lists, one by one -/
def All2 {α β : Type} (R : α → β → Prop) : List α → List β → Prop
  | [], [] => True
  | a :: l, b :: m => R a b ∧ All2 R l m
  | _, _ => False
theorem All2.append {α β : Type} {R : α → β → Prop} : ∀ {l : List α} {m : List β} {l' : List α} {m' : List β}, All2 R l m → All2 R l' m' → All2 R (l ++ l') (m ++ m')
  | [], [], _, _, _, h => h
  | _ :: _, _ :: _, _, _, ⟨h1, h2⟩, h => ⟨h1, All2.append h2 h⟩
  | [], _ :: _, _, _, h, _ => h.elim
  | _ :: _, [], _, _, h, _ => h.elim
theorem All2.map {α β γ : Type} {R : α → β → Prop} (f : γ → α) (g : γ → β) : ∀ (l : List γ), (∀ x, x ∈ l → R (f x) (g x)) → All2 R (l.map f) (l.map g)
  | [], _ => trivial
  | a :: l, h => ⟨h a (by simp), All2.map f g l fun x hx => h x (by simp [hx])⟩
theorem All2.flat {α β γ : Type} {R : α → β → Prop} (f : γ → List α) (g : γ → List β) : ∀ (l : List γ), (∀ x, x ∈ l → All2 R (f x) (g x)) → All2 R (l.flatMap f) (l.flatMap g)
  | [], _ => trivial
  | a :: l, h => by
    rw [List.flatMap_cons, List.flatMap_cons]
    exact (h a (by simp)).append (All2.flat f g l fun x hx => h x (by simp [hx]))
theorem All2.len {α β : Type} {R : α → β → Prop} : ∀ {l : List α} {m : List β}, All2 R l m → l.length = m.length
  | [], [], _ => rfl
  | _ :: _, _ :: _, ⟨_, h⟩ => by rw [List.length_cons, List.length_cons, h.len]
  | [], _ :: _, h => h.elim
  | _ :: _, [], h => h.elim
theorem All2.at_ {α β : Type} {R : α → β → Prop} : ∀ {l : List α} {m : List β}, All2 R l m → ∀ (k : Nat) (b : β), m[k]? = some b → ∃ a, l[k]? = some a ∧ R a b
  | [], [], _, k, b, h => by simp at h
  | a :: l, c :: m, ⟨h1, h2⟩, 0, b, h => by
    simp at h
    subst h
    exact ⟨a, rfl, h1⟩
  | a :: l, c :: m, ⟨h1, h2⟩, k + 1, b, h => by
    simp at h
    simpa using h2.at_ k b h
  | [], _ :: _, h, _, _, _ => h.elim
  | _ :: _, [], h, _, _, _ => h.elim
/-- a part in memory, and plainly -/
def EV (u : Value) (x : Ex) : Prop := (∃ c i, u = bitV c i ∧ x = bitE c i) ∨ ∃ c i, u = notV c i ∧ x = notE c i
theorem EV.isEx {u : Value} {x : Ex} (h : EV u x) (ok : Nat → Prop) (w : World) : IsEx ok w x u ∧ x.size ≤ 2 ∧ x.text.length ≤ 3 := by
  have hb : ∀ c i, IsEx ok w (bitE c i) (bitV c i) ∧ (bitE c i).text = pnm c i := fun c i => ⟨by
    unfold bitE
    simp only [IsEx]
    exact ⟨trivial, by simp [pnm], rfl⟩, by simp [bitE, Ex.text]⟩
  rcases h with ⟨c, i, rfl, rfl⟩ | ⟨c, i, rfl, rfl⟩
  · exact ⟨(hb c i).1, by simp [bitE, Ex.size], by rw [(hb c i).2]; simp [pnm]⟩
  · refine ⟨?_, by simp [notE, bitE, Ex.size], by simp [notE, bitE, Ex.text, Ex.par, pnm]⟩
    unfold notE
    simp only [IsEx]
    refine ⟨trivial, rfl, bitV c i, rfl, fun P hP => ?_⟩
    simp at hP
    subst hP
    exact (hb c i).1
/-- a rung in memory, and plainly -/
def RE (r : Rg) (e : Ld.Rng) : Prop := e.kind = r.kind ∧ e.name = nmB r.c r.i ∧ ∃ xs, All2 EV r.us xs ∧ ((r.ty = 106 ∧ e.cond = some (allE xs)) ∨ (r.ty = 108 ∧ e.cond = some (someE xs)))
theorem free_ev (r : Rt) : All2 EV (freeVs r) (freeE r) := All2.map _ _ _ fun s _ => .inr ⟨98, s.toNat, rfl, rfl⟩
theorem lay_re (t : Tbl) (p : Nat) (b : Bool) : All2 RE (layRg t p b) (layE t p b) := by
  unfold layRg layE
  by_cases h : wanting t ((p : Int), b) = []
  · rw [if_pos (by rw [h]; rfl), if_pos h]
    trivial
  · rw [if_neg (fun e => h (List.map_eq_nil_iff.1 e)), if_neg h]
    exact ⟨⟨rfl, rfl, _, All2.map _ _ _ fun j _ => .inl ⟨108, j, rfl, rfl⟩, .inr ⟨rfl, rfl⟩⟩, trivial⟩
theorem rungs_re (t : Tbl) (S P : Nat) : All2 RE (ladderRg t P) (ladderE t S P).rungs := by
  unfold ladderRg ladderE
  refine ((All2.map _ _ _ fun i _ => ?_).append (All2.map _ _ _ fun i _ => ?_)).append ?_
  · exact ⟨rfl, rfl, notE 97 i :: freeE (rt t i), (⟨.inr ⟨97, i, rfl, rfl⟩, free_ev _⟩ : All2 EV (notV 97 i :: freeVs (rt t i)) (notE 97 i :: freeE (rt t i))), .inl ⟨rfl, rfl⟩⟩
  · exact ⟨rfl, rfl, _, All2.append (l := bitV 97 i :: freeVs (rt t i)) (m := bitE 97 i :: freeE (rt t i)) ⟨.inl ⟨97, i, rfl, rfl⟩, free_ev _⟩ (All2.map _ _ _ fun j _ => .inr ⟨108, j, rfl, rfl⟩), .inl ⟨rfl, rfl⟩⟩
  · exact All2.flat _ _ _ fun p _ => (lay_re t p true).append (lay_re t p false)
theorem flat3_at {α : Type} (f : α → List Value) (hf : ∀ x, (f x).length = 3) : ∀ (l : List α) (i j : Nat) (x : α), l[i]? = some x → j < 3 → (l.flatMap f)[i * 3 + j]? = (f x)[j]?
  | [], i, j, x, h, _ => by simp at h
  | a :: l, 0, j, x, h, hj => by
    simp at h
    subst h
    rw [List.flatMap_cons, List.getElem?_append_left (by rw [hf]; omega)]
    simp
  | a :: l, i + 1, j, x, h, hj => by
    rw [List.flatMap_cons, List.getElem?_append_right (by rw [hf]; omega), hf, show (i + 1) * 3 + j - 3 = i * 3 + j by omega]
    exact flat3_at f hf l i j x (by simpa using h) hj
theorem join_le (sep : List UInt8) (hs : sep.length = 3) (m : Nat) : ∀ l : List (List UInt8), (∀ x, x ∈ l → x.length ≤ m) → (Ex.join sep l).length ≤ (m + 3) * l.length
  | [], _ => by simp [Ex.join]
  | [a], h => by have := h a (by simp); simp [Ex.join]; omega
  | a :: b :: l, h => by
    have ih := join_le sep hs m (b :: l) fun x hx => h x (by simp at hx ⊢; exact .inr hx)
    have := h a (by simp)
    simp only [Ex.join, List.length_append, List.length_cons] at ih ⊢
    rw [hs, Nat.mul_add _ _ 1]
    omega
theorem sum_le (f : Ex → Nat) (m : Nat) : ∀ (l : List Ex), (∀ x, x ∈ l → f x ≤ m) → (l.map f).sum ≤ m * l.length
  | [], _ => by simp
  | a :: l, h => by
    have ih := sum_le f m l fun x hx => h x (by simp [hx])
    have := h a (by simp)
    rw [List.map_cons, List.sum_cons, List.length_cons, Nat.mul_add]
    omega
theorem par_len (b : Bool) (l : List UInt8) : (Ex.par b l).length ≤ l.length + 2 := by unfold Ex.par; split <;> simp
/-- what a rung asks -/
theorem cond_is {w : World} {ty : TypeId} {us : List Value} {v : Value} {xs : List Ex} {y : Ex} (h : CondV (fun _ => True) w ty us v) (he : All2 EV us xs) (hy : (ty = 106 ∧ y = allE xs) ∨ (ty = 108 ∧ y = someE xs)) : CondAt w (some y) v := by
  have hl := he.len
  rcases h with ⟨t, z, h1, h2⟩ | ⟨h1, h2, g, cap, h3, h4, _, h5⟩
  · subst h1
    match xs, he with
    | [x], ⟨hx, _⟩ =>
      have e : y = x := by rcases hy with ⟨_, rfl⟩ | ⟨_, rfl⟩ <;> rfl
      subst e
      obtain ⟨k1, k2, k3⟩ := hx.isEx (fun _ => True) w
      exact ⟨k1, by omega, by omega⟩
  · have hxl : 2 ≤ xs.length := by omega
    have hx1 : xs.length ≤ 1000 := by omega
    have hrow : ∀ (i : Nat) (Q : Value → Prop), (xs.map fun x => IsEx (fun _ => True) w x)[i]? = some Q → ∃ u, w.cell? ⟨g, i, none⟩ = some u ∧ Q u := fun i Q hQ => by
      rw [List.getElem?_map] at hQ
      cases hx : xs[i]? with
      | none => rw [hx] at hQ; cases hQ
      | some x =>
        rw [hx] at hQ
        cases hQ
        obtain ⟨u, hu, hev⟩ := he.at_ i x hx
        exact ⟨u, h5 i u hu, (hev.isEx (fun _ => True) w).1⟩
    have hev : ∀ x, x ∈ xs → x.size ≤ 2 ∧ x.text.length ≤ 3 := fun x hx => by
      obtain ⟨i, hi, rfl⟩ := List.getElem_of_mem hx
      obtain ⟨u, _, hev⟩ := he.at_ i _ (List.getElem?_eq_getElem hi)
      exact (hev.isEx (fun _ => True) w).2
    have hsz := sum_le (fun x => x.size) 2 xs fun x hx => (hev x hx).1
    have hil : ∀ t', v = .iface t' (.slice (some ⟨g, 0, none⟩) us.length cap) → IsList (fun _ => True) w t' xs.length (xs.map fun x => IsEx (fun _ => True) w x) v := fun t' ht' => ⟨hxl, by omega, g, cap, by rw [ht', hl], by omega, trivial, hrow⟩
    rcases hy with ⟨rfl, rfl⟩ | ⟨rfl, rfl⟩
    · have e : allE xs = ⟨6, [], xs⟩ := by
        match xs, hxl with
        | a :: b :: r, _ => rfl
      rw [e]
      refine ⟨by simp only [IsEx]; exact ⟨trivial, hil _ h3⟩, by simp only [Ex.size]; omega, ?_⟩
      have := join_le [32, 38, 32] rfl 5 (xs.map fun x => Ex.par (decide (6 ≤ x.kind)) x.text) (fun z hz => by
        obtain ⟨x, hx, rfl⟩ := List.mem_map.1 hz
        have := par_len (decide (6 ≤ x.kind)) x.text
        have := (hev x hx).2
        omega)
      rw [List.length_map] at this
      simp only [Ex.text]
      omega
    · have e : someE xs = ⟨7, [], xs⟩ := by
        match xs, hxl with
        | a :: b :: r, _ => rfl
      rw [e]
      refine ⟨by simp only [IsEx]; exact ⟨trivial, hil _ h3⟩, by simp only [Ex.size]; omega, ?_⟩
      have := join_le [32, 124, 32] rfl 5 (xs.map fun x => Ex.par (decide (7 ≤ x.kind)) x.text) (fun z hz => by
        obtain ⟨x, hx, rfl⟩ := List.mem_map.1 hz
        have := par_len (decide (7 ≤ x.kind)) x.text
        have := (hev x hx).2
        omega)
      rw [List.length_map] at this
      simp only [Ex.text]
      omega
def nmc (n : Ld.Nme) : List Value := [.string ⟨n.name.toArray⟩, .int .i64 n.kind, .int .i64 n.count]
theorem namesV_flat (R S P : Nat) : namesV R S P = (namesE R S P).flatMap nmc := by
  unfold namesV namesE nmsV
  rw [List.flatMap_append, List.flatMap_append, List.flatMap_append, List.flatMap_map, List.flatMap_map, List.flatMap_map, List.flatMap_map]
  rfl
theorem names_mem (R S P : Nat) (n : Ld.Nme) (h : n ∈ namesE R S P) : n.name.length = 2 ∧ (n.kind = 1 ∨ n.kind = 2) ∧ n.count = 0 := by
  unfold namesE at h
  simp only [List.mem_append, List.mem_map] at h
  rcases h with ((⟨i, _, rfl⟩ | ⟨i, _, rfl⟩) | ⟨i, _, rfl⟩) | ⟨i, _, rfl⟩ <;> simp [pnm]
/-- a table's program in memory is the plain one -/
theorem prg_is {w : World} {t : Tbl} {S P : Nat} {nv rv : Value} (f : Fits t S P) (h : PrgAt w t S P nv rv) : IsPrg w (ladderE t S P) (.agg #[nv, rv]) := by
  obtain ⟨h1, l, h2, h3, h4⟩ := h
  have hR := f.R1
  have hre := rungs_re t S P
  refine ⟨nv, rv, rfl, ?_, ?_⟩
  · rcases h1.2 with ⟨_, h0⟩ | ⟨g, cap, cur, hx, _, hcur, hcap, _, _, htk⟩
    · omega
    · have hnl : (ladderE t S P).names.length = t.rts.length + S + t.rts.length + P := namesE_len _ _ _
      have h3' := f.R3
      have hS := f.S3
      have hP := f.P2
      refine .inr ⟨g, cap, by rw [hnl]; exact hx, by omega, by omega, fun i n hi => ?_⟩
      have hc : ∀ j u, j < 3 → (nmc n)[j]? = some u → w.cell? ⟨g, i * 3 + j, none⟩ = some u := fun j u hj hu => row_cell hcur htk (by rw [namesV_flat, flat3_at nmc (fun _ => rfl) (namesE t.rts.length S P) i j n hi hj]; exact hu)
      obtain ⟨m1, m2, m3⟩ := names_mem _ _ _ n (List.mem_of_getElem? hi)
      exact ⟨hc 0 _ (by omega) rfl, hc 1 _ (by omega) rfl, hc 2 _ (by omega) rfl, by rw [m1]; unfold maxLen; omega, by unfold Go.Proofs.YtflonjbbolmelaaGreatDoor.I64; omega, by unfold Go.Proofs.YtflonjbbolmelaaGreatDoor.I64; omega⟩
  · have hll : l.length = (ladderE t S P).rungs.length := by rw [← hre.len, ← h2, List.length_map]
    have hl10 : (ladderE t S P).rungs.length ≤ 10 := by
      have hl := laysE_len t P
      have h3' := f.R3
      have hP := f.P2
      unfold ladderE
      simp only [List.length_append, List.length_map, List.length_range]
      omega
    rcases h3.2 with ⟨_, h0⟩ | ⟨g, cap, cur, hx, _, hcur, hcap, _, _, htk⟩
    · have h5 : (ladderE t S P).rungs.length = (t.rts.length + t.rts.length) + (laysE t P).length := by
        unfold ladderE
        simp only [List.length_append, List.length_map, List.length_range]
      omega
    · refine .inr ⟨g, cap, by rw [← hll]; exact hx, by omega, by omega, fun i r hi => ?_⟩
      obtain ⟨q, hq, e1, e2, xs, e3, e4⟩ := hre.at_ i r hi
      rw [← h2, List.getElem?_map] at hq
      cases hli : l[i]? with
      | none => rw [hli] at hq; cases hq
      | some x =>
        rw [hli] at hq
        cases hq
        have hc : ∀ j u, j < 3 → (rg3 x)[j]? = some u → w.cell? ⟨g, i * 3 + j, none⟩ = some u := fun j u hj hu => row_cell hcur htk (by rw [fl, flat3_at rg3 (fun _ => rfl) _ i j x hli hj]; exact hu)
        have hk := rung_ok f r (List.mem_of_getElem? hi)
        obtain ⟨y, hy⟩ : ∃ y, r.cond = some y := by rcases e4 with ⟨_, e⟩ | ⟨_, e⟩ <;> exact ⟨_, e⟩
        have hkd : 1 ≤ r.kind ∧ r.kind ≤ 6 := by
          unfold Ld.wrongR at hk
          split at hk
          · cases hk
          · omega
        refine ⟨x.2, by rw [e1]; exact hc 0 _ (by omega) rfl, by rw [e2]; exact hc 1 _ (by omega) rfl, hc 2 _ (by omega) rfl, by rw [e2]; simp [nmB, maxLen], by unfold Go.Proofs.YtflonjbbolmelaaGreatDoor.I64; omega, ?_⟩
        rw [hy]
        refine cond_is (h4 x (List.mem_of_getElem? hli)) e3 ?_
        rcases e4 with ⟨a, e⟩ | ⟨a, e⟩
        · exact .inl ⟨a, Option.some.inj (hy.symm.trans e)⟩
        · exact .inr ⟨a, Option.some.inj (hy.symm.trans e)⟩
end Ro
end
section
namespace Ro
open Go.RowKit
theorem good_of {t : Tbl} {S P : Nat} (f : Fits t S P) : Good t := ⟨f.R3, fun r hr s hs => by have h1 := f.secs r hr s hs; have h2 := f.S3; omega, f.some, fun r hr => by have := f.ls r hr; omega, fun r hr => by have := f.lp r hr; omega⟩
theorem err_some {w : World} {v : Value} : ∀ {r : Option (Nat × Option Nat)}, ErrIs w v r → r ≠ none → ∃ t x, v = .iface t x
  | none, _, h => absurd rfl h
  | some (_, none), h, _ => ⟨_, _, h⟩
  | some (_, some _), ⟨_, h, _⟩, _ => ⟨_, _, h⟩
theorem neqNil (t : TypeId) (y : Value) (w : World) : (binOp BinOp.neq 31 (.iface t y) .nilIface).run Tryz.prog w = .ok (.bool true) w := by kernel_rfl
set_option maxHeartbeats 4000000 in
set_option maxRecDepth 100000 in
theorem LadderBad_any (t : Tbl) (rv : Value) (w : World) (hr : Rts w rv t.rts) (hck : check t ≠ none) :
    Calls Tryz.prog 4 #[.agg #[.int .i64 t.secs, .int .i64 t.pts, rv]] w fun e w' => ∃ ty y, e = .returned (.tuple #[.agg #[.slice none 0 0, .slice none 0 0], .iface ty y]) ∧ Below w.heap.size w w' := by
  obtain ⟨ra, rc, rfl⟩ := hr.slice
  obtain ⟨wA, hwA⟩ : ∃ wA, wA = (w.alloc (.cells #[.int .i64 t.secs, .int .i64 t.pts, .slice ra t.rts.length rc] 24)).alloc (.cells #[.slice none 0 0, .slice none 0 0] 29) := ⟨_, rfl⟩
  have hbA : Below w.heap.size w wA := by rw [hwA]; exact then_ (newB _ _) (newB _ _)
  have rT : RowIs wA w.heap.size 24 [.int .i64 t.secs, .int .i64 t.pts, .slice ra t.rts.length rc] := by rw [hwA]; exact (RowIs.new _ _ _).alloc _
  have rP : RowIs wA (w.heap.size + 1) 29 [.slice none 0 0, .slice none 0 0] := by
    rw [hwA]
    have := RowIs.new (w.alloc (.cells #[.int .i64 t.secs, .int .i64 t.pts, .slice ra t.rts.length rc] 24)) 29 [.slice none 0 0, .slice none 0 0]
    rw [World.size_alloc] at this
    exact this
  have HCK : Hid (Calls Tryz.prog 11 #[.agg #[.int .i64 t.secs, .int .i64 t.pts, .slice ra t.rts.length rc]] wA fun e w' => ∃ ty y, e = .returned (.iface ty y) ∧ Below wA.heap.size wA w') := (Check_any t _ wA (hr.below hbA)).mono fun e w' ⟨v, h1, h2, h3⟩ => by
    obtain ⟨ty, y, h4⟩ := err_some h2 hck
    exact ⟨ty, y, by rw [h1, h4], h3⟩
  have HPC : Hid (∀ W, Below wA.heap.size wA W → W.cell? ⟨w.heap.size + 1, 0, none⟩ = some (.slice none 0 0) ∧ W.cell? ⟨w.heap.size + 1, 1, none⟩ = some (.slice none 0 0) ∧ W.frozen? ⟨w.heap.size + 1, 0, none⟩ = false ∧ W.frozen? ⟨w.heap.size + 1, 1, none⟩ = false ∧ w.heap.size + 1 < W.heap.size) := fun W hW => by
    have h := rP.below hW
    exact ⟨h.cell 0 _ rfl, h.cell 1 _ rfl, h.frozen 0, h.frozen 1, h.lt⟩
  have HFIN : Hid (∀ W, Below wA.heap.size wA W → ∀ x y : Value, ((W.setCell ⟨w.heap.size + 1, 0, none⟩ x).setCell ⟨w.heap.size + 1, 1, none⟩ y).cell? ⟨w.heap.size + 1, 0, none⟩ = some x ∧ ((W.setCell ⟨w.heap.size + 1, 0, none⟩ x).setCell ⟨w.heap.size + 1, 1, none⟩ y).cell? ⟨w.heap.size + 1, 1, none⟩ = some y ∧ Below w.heap.size w ((W.setCell ⟨w.heap.size + 1, 0, none⟩ x).setCell ⟨w.heap.size + 1, 1, none⟩ y)) := fun W hW x y => by
    have h := rP.below hW
    exact ⟨cell_set_other _ _ _ _ _ _ (by decide) (World.cell?_setCell_same _ _ _ (h.cell 0 _ rfl)), World.cell?_setCell_same _ _ _ (cell_set_other _ _ _ _ _ _ (by decide) (h.cell 1 _ rfl)), ((then_ hbA hW).setCell (Nat.le_succ _) _).setCell (Nat.le_succ _) _⟩
  have HW := hide hwA
  have x0 := rT.cell 0 _ rfl
  have x1 := rT.cell 1 _ rfl
  have x2 := rT.cell 2 _ rfl
  have hq := neqNil
  clear hwA hbA rT rP hr hck
  go_enter Tryz.func4, Tryz.ntmps4
  rw [HW.out] at x0 x1 x2
  go_wp2_with fail
  rw [← HW.out]
  clear x0 x1 x2
  refine HCK.out.mono ?_
  rintro e w1 ⟨ty, y, rfl, hb1⟩
  obtain ⟨z0, z1, z2⟩ := HFIN.out w1 hb1 (.slice none 0 0) (.slice none 0 0)
  obtain ⟨f0, f1, f2, f3, f4⟩ := HPC.out w1 hb1
  clear hb1 HCK HW
  go_wp2_with fail
  refine bodyPost_ret_by (v := .tuple #[.agg #[.slice none 0 0, .slice none 0 0], .iface ty y]) ?_ rfl ?_
  · simp [results, Tryz.results4, go_sem, z0, z1]
  · exact ⟨_, _, rfl, z2⟩
/-- Ladder, whole -/
theorem ladder_all (t : Tbl) (rv : Value) (w : World) (hr : Rts w rv t.rts) :
    Calls Tryz.prog 4 #[.agg #[.int .i64 t.secs, .int .i64 t.pts, rv]] w fun e w' => Below w.heap.size w w' ∧ ((check t ≠ none ∧ ∃ ty y, e = .returned (.tuple #[.agg #[.slice none 0 0, .slice none 0 0], .iface ty y])) ∨ (check t = none ∧ ∃ S P nv pv, Fits t S P ∧ e = .returned (.tuple #[.agg #[nv, pv], .nilIface]) ∧ IsPrg w' (ladderE t S P) (.agg #[nv, pv]))) := by
  by_cases h : check t = none
  · obtain ⟨S, P, f⟩ := fits_of t h
    exact (Ladder_any t rv S P w hr (good_of f) h f.R1 f.hS f.S3 f.hP f.P2).mono fun e w' ⟨nv, pv, h1, h2, h3⟩ => ⟨h3, .inr ⟨h, S, P, nv, pv, f, h1, prg_is f h2⟩⟩
  · exact (LadderBad_any t rv w hr h).mono fun e w' ⟨ty, y, h1, h2⟩ => ⟨h2, .inl ⟨h, ty, y, h1⟩⟩
end Ro
end
end Go.Proofs.YtflonjbbolmelaaGreatDoor
