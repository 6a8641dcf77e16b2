/-
  The walk of the statements' own routed: package route is there. The walk of within: the parts right within an expression, as a slice. Slices of strings; is a name one of some? The walks of eachName and of the closures that gather names: they stand, as they are met, in a row of the caller's own.
-/
import Derived.Test.YtgdmohombcgjbaaGreatDoorRoFineAll
import Derived.Test.YtgdmohombcgjbaaGreatDoorExLeAll
import Derived.Test.YtgdmohombcgjbaaGreatDoorLdMathAll
import Derived.Lib.OthersKept
namespace Go.Proofs.YtgdmohombcgjbaaGreatDoor
section
namespace Ro
open Go.RowKit
def r0 : Rt := ⟨[0], []⟩
def t0 : Tbl := ⟨1, 0, [r0, r0]⟩
theorem check_t0 : check t0 = none := by decide
theorem good_t0 : Good t0 := by
  have h : ∀ r, r ∈ t0.rts → r = r0 := fun r hr => by simpa [t0] using hr
  refine ⟨by decide, fun r hr s hs => ?_, fun r hr => ?_, fun r hr => ?_, fun r hr => ?_⟩
  · rw [h r hr] at hs
    have : s = 0 := by simpa [r0] using hs
    subst this
    decide
  · rw [h r hr]; decide
  · rw [h r hr]; decide
  · rw [h r hr]; decide
theorem clash_r0 : clash r0 r0 = true := by decide
theorem rungs_t0 : (ladderRg t0 0).length = 4 := by
  unfold ladderRg
  simp [t0, layTo]
set_option maxHeartbeats 8000000 in
set_option maxRecDepth 100000 in
theorem routed_any (w : World) : Calls Tryz.prog 6 #[] w fun e w' => e = .returned (.bool true) ∧ Below w.heap.size w w' := by
  have q1 : ∀ w : World, (binOp BinOp.eql 30 .nilIface .nilIface).run Tryz.prog w = .ok (.bool true) w := fun w => by kernel_rfl
  obtain ⟨w1, hw1⟩ : ∃ w1, w1 = w.alloc (.cells #[.int .i64 0] 3) := ⟨_, rfl⟩
  have b1 : Below w.heap.size w w1 := by rw [hw1]; exact newB _ _
  have s1 : w1.heap.size = w.heap.size + 1 := by rw [hw1]; simp
  have r1 : RowIs w1 w.heap.size 3 [.int .i64 0] := by rw [hw1]; exact RowIs.new _ _ _
  obtain ⟨w2, hw2⟩ : ∃ w2, w2 = w1.alloc (.cells #[.slice (some ⟨w.heap.size, 0, none⟩) 1 1, .slice none 0 0] 54) := ⟨_, rfl⟩
  have b2 : Below w1.heap.size w1 w2 := by rw [hw2]; exact newB _ _
  have s2 : w2.heap.size = w.heap.size + 1 + 1 := by rw [hw2]; simp [s1]
  have r2 : RowIs w2 (w.heap.size + 1) 54 [.slice (some ⟨w.heap.size, 0, none⟩) 1 1, .slice none 0 0] := by rw [hw2, ← s1]; exact RowIs.new _ _ _
  obtain ⟨w3, hw3⟩ : ∃ w3, w3 = w2.alloc (.cells #[.slice (some ⟨w.heap.size, 0, none⟩) 1 1, .slice none 0 0, .slice (some ⟨w.heap.size, 0, none⟩) 1 1, .slice none 0 0] 54) := ⟨_, rfl⟩
  have b3 : Below w2.heap.size w2 w3 := by rw [hw3]; exact newB _ _
  have s3 : w3.heap.size = w.heap.size + 1 + 1 + 1 := by rw [hw3]; simp [s2]
  have r3 : RowIs w3 (w.heap.size + 1 + 1) 54 [.slice (some ⟨w.heap.size, 0, none⟩) 1 1, .slice none 0 0, .slice (some ⟨w.heap.size, 0, none⟩) 1 1, .slice none 0 0] := by rw [hw3, ← s2]; exact RowIs.new _ _ _
  obtain ⟨w4, hw4⟩ : ∃ w4, w4 = w3.alloc (.cells #[.int .i64 1, .int .i64 0, .slice (some ⟨w.heap.size + 1 + 1, 0, none⟩) 2 2] 24) := ⟨_, rfl⟩
  have b4 : Below w3.heap.size w3 w4 := by rw [hw4]; exact newB _ _
  have hI : Ints w4 (.slice (some ⟨w.heap.size, 0, none⟩) 1 1) r0.secs := by
    have hr := ((r1.below b2).below b3).below b4
    exact ⟨_, _, rfl, by decide, fun k x hx => by
      have hk : k = 0 := by have := (List.getElem?_eq_some_iff.1 hx).1; simp [r0] at this; exact this
      subst hk
      cases hx
      exact ⟨_, _, rfl, by decide, hr.cell 0 _ rfl, by unfold I64; omega⟩⟩
  have hP : Pts w4 (.slice none 0 0) r0.pts := ⟨none, 0, rfl, by decide, fun k x hx => by simp [r0] at hx⟩
  have hR : Rts w4 (.slice (some ⟨w.heap.size + 1 + 1, 0, none⟩) 2 2) t0.rts := by
    have hr := r3.below b4
    refine ⟨_, _, rfl, by decide, fun k x hx => ?_⟩
    have hk : k = 0 ∨ k = 1 := by have := (List.getElem?_eq_some_iff.1 hx).1; simp [t0] at this; omega
    rcases hk with rfl | rfl
    · cases hx
      exact ⟨_, _, _, _, rfl, by decide, hr.cell 0 _ rfl, hr.cell 1 _ rfl, hI, hP, by decide⟩
    · cases hx
      exact ⟨_, _, _, _, rfl, by decide, hr.cell 2 _ rfl, hr.cell 3 _ rfl, hI, hP, by decide⟩
  have HLD := hide (Ladder_any t0 _ 1 0 w4 hR good_t0 check_t0 (by decide) rfl (by decide) rfl (by decide))
  have HCL := hide (fun W (hW : Below w4.heap.size w4 W) => Clash_any r0 r0 _ _ _ _ W (hI.below hW) (hP.below hW) (hI.below hW) (hP.below hW) (by decide) (by decide))
  have HR2 : Hid (RowIs w4 (w.heap.size + 1) 54 [.slice (some ⟨w.heap.size, 0, none⟩) 1 1, .slice none 0 0]) := (r2.below b3).below b4
  have HB : Hid (Below w.heap.size w w4) := then_ (then_ (then_ b1 b2) b3) b4
  have hw : w4 = (((w.alloc (.cells #[.int .i64 0] 3)).alloc (.cells #[.slice (some ⟨w.heap.size, 0, none⟩) 1 1, .slice none 0 0] 54)).alloc (.cells #[.slice (some ⟨w.heap.size, 0, none⟩) 1 1, .slice none 0 0, .slice (some ⟨w.heap.size, 0, none⟩) 1 1, .slice none 0 0] 54)).alloc (.cells #[.int .i64 1, .int .i64 0, .slice (some ⟨w.heap.size + 1 + 1, 0, none⟩) 2 2] 24) := by rw [hw4, hw3, hw2, hw1]
  have HW := hide hw
  rw [show t0.secs = 1 from rfl, show t0.pts = 0 from rfl] at HLD
  rw [clash_r0] at HCL
  clear hw hw4 hw3 hw2 hw1 hI hP hR r1 r2 r3 s1 s2 s3 b1 b2 b3 b4
  go_enter Tryz.func6, Tryz.ntmps6
  go_wp2_with fail
  rw [← HW.out]
  refine HLD.out.mono ?_
  rintro e w5 ⟨nv, pv, rfl, hp5, hb5⟩
  obtain ⟨hn5, l, hl5, hr5, -⟩ := hp5
  have hll : l.length = 4 := by
    have h := congrArg List.length hl5
    rw [List.length_map, rungs_t0] at h
    exact h
  rw [hll] at hr5
  rw [show t0.rts.length + 1 + t0.rts.length + 0 = 5 from rfl] at hn5
  obtain ⟨na, nc, rfl⟩ := own_slice hn5
  obtain ⟨pa, pc, rfl⟩ := own_slice hr5
  obtain ⟨w6, hw6⟩ : ∃ w6, w6 = w5.alloc (.cells #[.slice na 5 nc, .slice pa 4 pc] 28) := ⟨_, rfl⟩
  have hb6 : Below w5.heap.size w5 w6 := by rw [hw6]; exact newB _ _
  have r6 : RowIs w6 w5.heap.size 28 [.slice na 5 nc, .slice pa 4 pc] := by rw [hw6]; exact RowIs.new _ _ _
  have HB6 := hide (then_ hb5 hb6)
  have rr := HR2.out.below HB6.out
  have x0 := rr.cell 0 _ rfl
  have x1 := rr.cell 1 _ rfl
  have HC6 := hide (HCL.out w6 HB6.out)
  have HK6 : Hid (∀ W, Below w6.heap.size w6 W → W.cell? ⟨w5.heap.size, 0, none⟩ = some (.slice na 5 nc) ∧ W.cell? ⟨w5.heap.size, 1, none⟩ = some (.slice pa 4 pc)) := fun W hW => ⟨kept hW (r6.cell 0 _ rfl), kept hW (r6.cell 1 _ rfl)⟩
  have HW6 := hide hw6
  rw [hw6] at x0 x1
  clear hn5 hl5 hr5 hll hb5 hw6 hb6 r6 rr HLD HW
  go_wp2_with fail
  rw [← HW6.out]
  refine HC6.out.mono ?_
  rintro e w7 ⟨rfl, hb7⟩
  obtain ⟨y0, y1⟩ := HK6.out w7 hb7
  have HB7 := hide (then_ HB.out (then_ HB6.out hb7))
  clear hb7 HC6 x0 x1
  go_wp2_with fail
  go_ret
  exact ⟨rfl, HB7.out⟩
end Ro
end
section
open Go.RowKit
theorem ret_int {a b : Int} (h : a = b) : Ending.returned (.int .i64 a) = .returned (.int .i64 b) := by rw [h]
/-- a slice of expressions -/
def Parts (w : World) (sv : Value) (xs : List Ex) : Prop :=
  (xs = [] ∧ sv = .slice none 0 0) ∨ ∃ g cap, sv = .slice (some ⟨g, 0, none⟩) xs.length cap ∧ xs.length ≤ cap ∧ xs.length ≤ 9223372036854775807 ∧ ∀ (k : Nat) (x : Ex), xs[k]? = some x → ∃ u, w.cell? ⟨g, k, none⟩ = some u ∧ IsEx (fun _ => True) w x u
theorem Parts.below {w w' : World} {sv : Value} {xs : List Ex} (h : Parts w sv xs) (hb : Below w.heap.size w w') : Parts w' sv xs := by
  rcases h with h | ⟨g, cap, h1, h2, h3, h4⟩
  · exact .inl h
  · refine .inr ⟨g, cap, h1, h2, h3, fun k x hx => ?_⟩
    obtain ⟨u, hu, he⟩ := h4 k x hx
    exact ⟨u, Stay.below (ok := fun _ => True) hb g k u trivial hu, IsEx.stay (Stay.below hb) (fun g hg => hg) x u he⟩
set_option maxHeartbeats 1000000 in
theorem within_parts (x : Ex) (v : Value) (w : World) (h : IsEx (fun _ => True) w x v) :
    Calls Tryz.prog 114 #[v] w fun e w' => ∃ sv, e = .returned sv ∧ Parts w' sv x.of ∧ Below w.heap.size w w' := by
  obtain ⟨k, nm, l⟩ := x
  match k, h with
  | 0, h =>
    simp only [IsEx] at h
    obtain ⟨_, hl, rfl⟩ := h
    go_enter Tryz.func114, Tryz.ntmps114
    go_wp2
    go_ret
    exact ⟨_, rfl, .inl ⟨hl, rfl⟩, Below.refl _ _⟩
  | 1, h =>
    simp only [IsEx] at h
    obtain ⟨_, hl, rfl⟩ := h
    go_enter Tryz.func114, Tryz.ntmps114
    go_wp2
    go_ret
    exact ⟨_, rfl, .inl ⟨hl, rfl⟩, Below.refl _ _⟩
  | 2, h =>
    simp only [IsEx] at h
    obtain ⟨hl, _, rfl⟩ := h
    go_enter Tryz.func114, Tryz.ntmps114
    go_wp2
    go_ret
    exact ⟨_, rfl, .inl ⟨hl, rfl⟩, Below.refl _ _⟩
  | 3, h =>
    simp only [IsEx] at h
    obtain ⟨hl, _, rfl⟩ := h
    go_enter Tryz.func114, Tryz.ntmps114
    go_wp2
    go_ret
    exact ⟨_, rfl, .inl ⟨hl, rfl⟩, Below.refl _ _⟩
  | 4, h =>
    simp only [IsEx] at h
    obtain ⟨hl, _, rfl⟩ := h
    go_enter Tryz.func114, Tryz.ntmps114
    go_wp2
    go_ret
    exact ⟨_, rfl, .inl ⟨hl, rfl⟩, Below.refl _ _⟩
  | 5, h =>
    simp only [IsEx] at h
    obtain ⟨_, h1, u, rfl, h3⟩ := h
    match l, h1 with
    | [y], _ =>
      have hy : IsEx (fun _ => True) w y u := h3 _ rfl
      obtain ⟨tu, yu, hiu⟩ := IsEx.iface y u hy
      subst hiu
      have HY := hide hy
      clear h3 hy
      go_enter Tryz.func114, Tryz.ntmps114
      go_wp2
      go_ret
      have hb : Below w.heap.size w ((w.alloc (.cells #[.iface tu yu] 59)).alloc (.cells #[.iface tu yu] 34)) := ((Below.refl _ w).alloc (Nat.le_refl _) _).alloc (by simp) _
      refine ⟨_, rfl, .inr ⟨w.heap.size + 1, 1, rfl, by simp, by simp, ?_⟩, hb⟩
      intro k x hk
      match k, hk with
      | 0, hk =>
        simp only [List.getElem?_cons_zero, Option.some.injEq] at hk
        subst hk
        exact ⟨_, by simp [go_sem], IsEx.stay (Stay.below hb) (fun g hg => hg) y _ HY.out⟩
      | k + 1, hk => simp at hk
  | 6, h =>
    simp only [IsEx] at h
    obtain ⟨_, _, h3, g, cap, rfl, h4, _, hr⟩ := h
    have HR := hide hr
    clear hr
    have hcap := h4
    generalize hn : l.length = n at *
    have HN := hide hn
    clear hn
    go_enter Tryz.func114, Tryz.ntmps114
    go_wp2
    go_ret
    exact ⟨.slice (some ⟨g, 0, none⟩) n cap, rfl, .inr ⟨g, cap, by show _ = Value.slice _ l.length cap; rw [HN.out], by show l.length ≤ cap; rw [HN.out]; exact h4, by show l.length ≤ _; rw [HN.out]; exact h3, fun k x hx => HR.out k _ (by rw [List.getElem?_map, hx]; rfl)⟩, Below.refl _ _⟩
  | 7, h =>
    simp only [IsEx] at h
    obtain ⟨_, _, h3, g, cap, rfl, h4, _, hr⟩ := h
    have HR := hide hr
    clear hr
    have hcap := h4
    generalize hn : l.length = n at *
    have HN := hide hn
    clear hn
    go_enter Tryz.func114, Tryz.ntmps114
    go_wp2
    go_ret
    exact ⟨.slice (some ⟨g, 0, none⟩) n cap, rfl, .inr ⟨g, cap, by show _ = Value.slice _ l.length cap; rw [HN.out], by show l.length ≤ cap; rw [HN.out]; exact h4, by show l.length ≤ _; rw [HN.out]; exact h3, fun k x hx => HR.out k _ (by rw [List.getElem?_map, hx]; rfl)⟩, Below.refl _ _⟩
  | n + 8, h => simp only [IsEx] at h
end
section
open Go.RowKit
/-- a slice of strings -/
def Strs (w : World) (sv : Value) (ss : List ByteArray) : Prop :=
  (ss = [] ∧ ∃ a cap, sv = .slice a 0 cap) ∨ ∃ g o cap, sv = .slice (some ⟨g, o, none⟩) ss.length cap ∧ ss.length ≤ cap ∧ ss.length ≤ 1000000 ∧ ∀ k s, ss[k]? = some s → w.cell? ⟨g, o + k, none⟩ = some (.string s)
theorem Strs.below {w w' : World} {sv : Value} {ss : List ByteArray} (h : Strs w sv ss) (hb : Below w.heap.size w w') : Strs w' sv ss := by
  rcases h with h | ⟨g, o, cap, h1, h2, h3, h4⟩
  · exact .inl h
  · exact .inr ⟨g, o, cap, h1, h2, h3, fun k s hs => Stay.below (ok := fun _ => True) hb g _ _ trivial (h4 k s hs)⟩
/-- is a name one of these? -/
def amongB (ss : List ByteArray) (nm : List UInt8) : Bool := ss.any fun s => s.data.toList == nm
theorem bytes_list (l : List UInt8) : (⟨l.toArray⟩ : ByteArray).toList = l := by rw [ByteArray.toList_eq]
end
section
open Go.RowKit
def strV (l : List UInt8) : Value := .string ⟨l.toArray⟩
/-- all below p stands; of what lies above it all but p and the rows of strings -/
def Kn (p : Nat) (w w' : World) : Prop := Below p w w' ∧ Lib.OthersKept 9 (some p) w w'
namespace Kn
theorem refl (p : Nat) (w : World) : Kn p w w := ⟨Below.refl _ _, Lib.OthersKept.refl _ _ _⟩
theorem trans {p : Nat} {x y z : World} (h : Kn p x y) (k : Kn p y z) : Kn p x z := ⟨h.1.trans k.1, h.2.trans k.2⟩
theorem alloc {p : Nat} {a w : World} (h : Kn p a w) (hp : p ≤ w.heap.size) (o : Obj) : Kn p a (w.alloc o) := ⟨h.1.alloc hp o, h.2.alloc o⟩
theorem setCell {p : Nat} {a w : World} (h : Kn p a w) (q : Addr) (hq : q.block = p) (v : Value) : Kn p a (w.setCell q v) := ⟨h.1.setCell (by omega) v, h.2.setCell q hq v⟩
theorem grown {p : Nat} {a w w' : World} {row : Option Nat} (h : Kn p a w) (hg : w.grownBy w' row) (hp : p ≤ w.heap.size) (hr : ∀ k, row = some k → p ≤ k) (hrow : ∀ g, row = some g → ∃ c fz, w.heap[g]? = some (.cells c 9 fz)) : Kn p a w' :=
  ⟨h.1.grown hg hp hr, h.2.grown hg hrow⟩
theorem of_below {p : Nat} {w w' : World} (h : Below w.heap.size w w') (hp : p ≤ w.heap.size) : Kn p w w' :=
  ⟨h.mono hp, fun k o hk _ _ => by rw [h.block k (Array.getElem?_eq_some_iff.1 hk).1]; exact hk⟩
theorem keeps {p : Nat} {w w' : World} (h : Kn p w w') {g : Nat} {c : Array Value} {t : TypeId} {fz : Nat × Nat} (hg : w.heap[g]? = some (.cells c t fz)) (hp : g ≠ p) (ht : t ≠ 9) : w'.heap[g]? = some (.cells c t fz) :=
  h.2 g _ hg (fun e => hp (Option.some.inj e)) (fun c' fz' e => ht (by injection e))
end Kn
/-- in block p lies a slice of strings, its row behind p -/
structure St (p : Nat) (ns : List (List UInt8)) (w : World) : Prop where
  ex : ∃ v, w.heap[p]? = some (.cells #[v] 154 (0, 0)) ∧ w.ownsRow (p + 1) 9 1 v ns.length (ns.map strV)
theorem St.lt {p : Nat} {ns : List (List UInt8)} {w : World} (h : St p ns w) : p < w.heap.size := by
  obtain ⟨v, h1, _⟩ := h.ex
  exact (Array.getElem?_eq_some_iff.1 h1).1
theorem St.below {p : Nat} {ns : List (List UInt8)} {w w' : World} (h : St p ns w) (hb : Below w.heap.size w w') : St p ns w' := by
  have hlt := h.lt
  obtain ⟨v, h1, h2⟩ := h.ex
  exact ⟨v, by rw [hb.block p hlt]; exact h1, h2.kept (row := none) ⟨hb.os, hb.tape, hb.output, hb.size, fun k hk _ => hb.block k hk⟩ (by cases v.ownBlock <;> simp)⟩
theorem Tryz.infoStr : (Tryz.prog.info? 9).map (fun i => (i.zero, i.size, i.bytes)) = some (some (.string ⟨#[]⟩), 1, 16) := by kernel_rfl
theorem ownsRow_kind1 {w : World} {B : Nat} {e : TypeId} {v : Value} {n : Nat} {xs : List Value} (h : w.ownsRow B e 1 v n xs) : ∀ g, v.ownBlock = some g → ∃ c fz, w.heap[g]? = some (.cells c e fz) := by
  intro g hg
  rcases h.2 with ⟨hv, _⟩ | ⟨g', cap, cur, hv, _, hcur, _⟩
  · rw [hv] at hg; cases hg
  · rw [hv] at hg
    simp only [Value.ownBlock, Option.some.injEq] at hg
    subst hg
    exact ⟨cur, (0, 0), hcur⟩
/-- a closure that gathers: of each name (and whether it is an edge) those that are picked -/
def Gathers (K : Nat) (pick : Bool → Bool) : Prop := Entered K ∧ ∀ (p : Nat) (nm : List UInt8) (edge : Bool) (ns : List (List UInt8)) (w : World), St p ns w → ns.length ≤ 1000000 →
  Calls Tryz.prog K #[.string ⟨nm.toArray⟩, .bool edge, .pointer (some ⟨p, 0, none⟩)] w fun e w' => e = .returned (.tuple #[]) ∧ St p (ns ++ (if pick edge then [nm] else [])) w' ∧ Kn p w w'
/-- what an append to that row comes to -/
theorem St.put {p : Nat} {ns : List (List UInt8)} {nm : List UInt8} {v v' : Value} {w w2 : World} (hp : w.heap[p]? = some (.cells #[v] 154 (0, 0))) (ho : w.ownsRow (p + 1) 9 1 v ns.length (ns.map strV))
    (hown : w2.ownsRow (p + 1) 9 1 v' (ns.length + 1) (ns.map strV ++ [strV nm])) (hg : (w.alloc (.cells #[strV nm] 9)).grownBy w2 v.ownBlock) :
    w2.heap[p]? = some (.cells #[v] 154 (0, 0)) ∧ Kn p w w2 ∧ St p (ns ++ [nm]) (w2.setCell ⟨p, 0, none⟩ v') := by
  have hlt : p < w.heap.size := (Array.getElem?_eq_some_iff.1 hp).1
  have hb2 : w2.heap[p]? = some (.cells #[v] 154 (0, 0)) := by
    rw [hg.block p (by simp; omega) (fun e => by have := (ho.lt p e.symm).1; omega), Below.heap_alloc w _ p hlt]
    exact hp
  refine ⟨hb2, ?_, ?_⟩
  · refine ((Kn.refl p w).alloc (by omega) _).grown hg (by simp; omega) (fun k hk => by have := (ho.lt k hk).1; omega) (fun g hgg => ?_)
    obtain ⟨c, fz, hc⟩ := ownsRow_kind1 ho g hgg
    exact ⟨c, fz, by rw [Below.heap_alloc w _ g (ho.lt g hgg).2]; exact hc⟩
  · refine ⟨v', ?_, ?_⟩
    · simp [World.setCell, Array.getElem?_modify, hb2]
    · have e1 : (ns ++ [nm]).length = ns.length + 1 := by simp
      have e2 : (ns ++ [nm]).map strV = ns.map strV ++ [strV nm] := by simp
      rw [e1, e2]
      exact hown.kept (row := some p) ⟨rfl, rfl, rfl, by simp [World.setCell], fun k _ hk => Below.heap_setCell _ _ _ _ (fun e => hk (by simp [e]))⟩ (by
        cases hv : v'.ownBlock with
        | none => exact .inl rfl
        | some k => right; intro e; have := (hown.lt k hv).1; simp only [Option.some.injEq] at e; omega)
set_option maxHeartbeats 1000000 in
set_option maxRecDepth 100000 in
theorem names1_any : Gathers 103 (fun _ => true) := by
  refine ⟨fun _ _ => by kernel_rfl, ?_⟩
  intro p nm edge ns w h hlen
  obtain ⟨i0, hi0, hz0, hz1, hz2⟩ := info_parts Tryz.infoStr
  obtain ⟨v, hp, ho⟩ := h.ex
  have HP := hide hp
  have HO := hide ho
  have HO2 := hide (ho.alloc (.cells #[.string ⟨nm.toArray⟩] 9))
  have hlt := h.lt
  have c0 : w.cell? ⟨p, 0, none⟩ = some v := by rw [Lib.cell_of_heap hp]; rfl
  have hv0 : ∃ a n c, v = .slice a n c := by
    rcases ho.2 with ⟨hv, _⟩ | ⟨g, cap, cur, hv, _⟩
    · exact ⟨_, _, _, hv⟩
    · exact ⟨_, _, _, hv⟩
  clear h hp ho
  obtain ⟨a, n, c, rfl⟩ := hv0
  go_enter Tryz.func103, Tryz.ntmps103
  go_wp2_with (at_builtin; refine wpList_append_own _ rfl _ _ 154 rfl (p + 1) 9 i0 (.string ⟨#[]⟩) 1 16 Tryz.underlying154 hi0 hz0 hz1 hz2 rfl (by decide) _ ns.length (ns.map strV) rfl HO2.out ⟨w.heap.size, 0, none⟩ 1 1 [.string ⟨nm.toArray⟩] rfl rfl (cell_one_new _ _ _) ?c2 ?c3 ?c4 ?c5 ?_)
  case c2 => intro z hz; simp at hz; subst hz; rfl
  case c3 => unfold maxLen; omega
  case c4 => omega
  case c5 => simp; omega
  intro v' w2 hown' hgrow _
  have hput := St.put HP.out HO.out hown' hgrow
  have HB2 := hide hput.1
  have HK2 := hide hput.2.1
  have HS2 := hide hput.2.2
  have d0 : w2.cell? ⟨p, 0, none⟩ = some (.slice a n c) := by rw [Lib.cell_of_heap hput.1]; rfl
  have f0 : w2.frozen? ⟨p, 0, none⟩ = false := Lib.frozen_of_heap hput.1 0
  obtain ⟨g, cap, hv'⟩ : ∃ g cap, v' = .slice (some ⟨g, 0, none⟩) (ns.length + 1) cap := by
    rcases hown'.2 with ⟨_, h0⟩ | ⟨g, cap, cur, hv, _⟩
    · omega
    · exact ⟨g, cap, hv⟩
  rw [hv'] at HS2
  rw [hv']
  clear hown' hgrow hv' hput HO HO2 HP c0 HB2
  go_wp2_with fail
  go_end0
  exact ⟨rfl, HS2.out, HK2.out.setCell ⟨p, 0, none⟩ rfl _⟩
/-- the slice of an expression's parts: its row lies below p, or is a row of expressions -/
def PartsK (p : Nat) (w : World) (sv : Value) (xs : List Ex) : Prop :=
  (xs = [] ∧ sv = .slice none 0 0) ∨ ∃ g cap, sv = .slice (some ⟨g, 0, none⟩) xs.length cap ∧ xs.length ≤ cap ∧ xs.length ≤ 9223372036854775807 ∧ (g < p ∨ (g ≠ p ∧ ∃ c fz, w.heap[g]? = some (.cells c 34 fz))) ∧
    ∀ (k : Nat) (x : Ex), xs[k]? = some x → ∃ u, w.cell? ⟨g, k, none⟩ = some u ∧ IsEx (fun g => g < p) w x u
theorem IsEx.low {p : Nat} {w w' : World} {x : Ex} {v : Value} (h : IsEx (fun g => g < p) w x v) (hb : Below p w w') : IsEx (fun g => g < p) w' x v :=
  IsEx.stay (fun g i u hg hc => by rw [hb.cell (p := ⟨g, i, none⟩) hg]; exact hc) (fun g hg => hg) x v h
theorem PartsK.keep {p : Nat} {w w' : World} {sv : Value} {xs : List Ex} (h : PartsK p w sv xs) (hk : Kn p w w') : PartsK p w' sv xs := by
  rcases h with h | ⟨g, cap, h1, h2, h3, h4, h5⟩
  · exact .inl h
  · refine .inr ⟨g, cap, h1, h2, h3, ?_, fun k x hx => ?_⟩
    · rcases h4 with h4 | ⟨h4, c, fz, h6⟩
      · exact .inl h4
      · exact .inr ⟨h4, c, fz, hk.keeps h6 h4 (by decide)⟩
    · obtain ⟨u, hu, he⟩ := h5 k x hx
      refine ⟨u, ?_, he.low hk.1⟩
      rcases h4 with h4 | ⟨h4, c, fz, h6⟩
      · rw [hk.1.cell (p := ⟨g, k, none⟩) h4]; exact hu
      · rw [Lib.cell_of_heap (hk.keeps h6 h4 (by decide)), ← Lib.cell_of_heap h6]; exact hu
set_option maxHeartbeats 1000000 in
theorem within_k (p : Nat) (x : Ex) (v : Value) (w : World) (hp : p < w.heap.size) (h : IsEx (fun g => g < p) w x v) :
    Calls Tryz.prog 114 #[v] w fun e w' => ∃ sv, e = .returned sv ∧ PartsK p w' sv x.of ∧ Below w.heap.size w w' := by
  obtain ⟨k, nm, l⟩ := x
  match k, h with
  | 0, h =>
    simp only [IsEx] at h
    obtain ⟨_, hl, rfl⟩ := h
    go_enter Tryz.func114, Tryz.ntmps114
    go_wp2
    go_ret
    exact ⟨_, rfl, .inl ⟨hl, rfl⟩, Below.refl _ _⟩
  | 1, h =>
    simp only [IsEx] at h
    obtain ⟨_, hl, rfl⟩ := h
    go_enter Tryz.func114, Tryz.ntmps114
    go_wp2
    go_ret
    exact ⟨_, rfl, .inl ⟨hl, rfl⟩, Below.refl _ _⟩
  | 2, h =>
    simp only [IsEx] at h
    obtain ⟨hl, _, rfl⟩ := h
    go_enter Tryz.func114, Tryz.ntmps114
    go_wp2
    go_ret
    exact ⟨_, rfl, .inl ⟨hl, rfl⟩, Below.refl _ _⟩
  | 3, h =>
    simp only [IsEx] at h
    obtain ⟨hl, _, rfl⟩ := h
    go_enter Tryz.func114, Tryz.ntmps114
    go_wp2
    go_ret
    exact ⟨_, rfl, .inl ⟨hl, rfl⟩, Below.refl _ _⟩
  | 4, h =>
    simp only [IsEx] at h
    obtain ⟨hl, _, rfl⟩ := h
    go_enter Tryz.func114, Tryz.ntmps114
    go_wp2
    go_ret
    exact ⟨_, rfl, .inl ⟨hl, rfl⟩, Below.refl _ _⟩
  | 5, h =>
    simp only [IsEx] at h
    obtain ⟨_, h1, u, rfl, h3⟩ := h
    match l, h1 with
    | [y], _ =>
      have hy : IsEx (fun g => g < p) w y u := h3 _ rfl
      obtain ⟨tu, yu, hiu⟩ := IsEx.iface y u hy
      subst hiu
      have HY := hide hy
      clear h3 hy
      go_enter Tryz.func114, Tryz.ntmps114
      go_wp2
      go_ret
      have hb : Below w.heap.size w ((w.alloc (.cells #[.iface tu yu] 59)).alloc (.cells #[.iface tu yu] 34)) := ((Below.refl _ w).alloc (Nat.le_refl _) _).alloc (by simp) _
      have hh := heap_alloc_new (w.alloc (.cells #[.iface tu yu] 59)) (.cells #[.iface tu yu] 34)
      rw [World.size_alloc] at hh
      refine ⟨_, rfl, .inr ⟨w.heap.size + 1, 1, rfl, by simp, by simp, .inr ⟨by omega, _, _, hh⟩, ?_⟩, hb⟩
      intro k x hk
      match k, hk with
      | 0, hk =>
        simp only [List.getElem?_cons_zero, Option.some.injEq] at hk
        subst hk
        exact ⟨_, by simp [go_sem], HY.out.low (hb.mono (by omega))⟩
      | k + 1, hk => simp at hk
  | 6, h =>
    simp only [IsEx] at h
    obtain ⟨_, _, h3, g, cap, rfl, h4, hg, hr⟩ := h
    have HR := hide hr
    clear hr
    generalize hn : l.length = n at *
    have HN := hide hn
    clear hn
    go_enter Tryz.func114, Tryz.ntmps114
    go_wp2
    go_ret
    exact ⟨.slice (some ⟨g, 0, none⟩) n cap, rfl, .inr ⟨g, cap, by show _ = Value.slice _ l.length cap; rw [HN.out], by show l.length ≤ cap; rw [HN.out]; exact h4, by show l.length ≤ _; rw [HN.out]; exact h3, .inl hg, fun k x hx => HR.out k _ (by rw [List.getElem?_map, hx]; rfl)⟩, Below.refl _ _⟩
  | 7, h =>
    simp only [IsEx] at h
    obtain ⟨_, _, h3, g, cap, rfl, h4, hg, hr⟩ := h
    have HR := hide hr
    clear hr
    generalize hn : l.length = n at *
    have HN := hide hn
    clear hn
    go_enter Tryz.func114, Tryz.ntmps114
    go_wp2
    go_ret
    exact ⟨.slice (some ⟨g, 0, none⟩) n cap, rfl, .inr ⟨g, cap, by show _ = Value.slice _ l.length cap; rw [HN.out], by show l.length ≤ cap; rw [HN.out]; exact h4, by show l.length ≤ _; rw [HN.out]; exact h3, .inl hg, fun k x hx => HR.out k _ (by rw [List.getElem?_map, hx]; rfl)⟩, Below.refl _ _⟩
  | n + 8, h => simp only [IsEx] at h
end
end Go.Proofs.YtgdmohombcgjbaaGreatDoor
