/-
  The walks of package prop's Answers and of its closure. The document's Answers in memory: places as keys, ways to them, and what stands while a level is gone through.
-/
import Derived.Test.YtgldbliohpfljaaGreatDoorRcLeastAll
import Derived.Deep.QuietTactic
import Derived.BigQuiet
import Derived.Test.YtgldbliohpfljaaGreatDoorDmAtAll
import Derived.Test.YtgldbliohpfljaaGreatDoorPcGoodAll
import Derived.Test.YtgldbliohpfljaaGreatDoorInRefAll
namespace Go.Proofs.YtgldbliohpfljaaGreatDoor
section
open Go.RowKit
namespace Pr
/-- how long one waits for an answer -/
def wtA (ra rb : Nat → List Bool) (p : Nat × Nat) (i : Nat) : Nat := waits p.2 ((ra p.1).getD i false) ((rb p.1).getD i false)
end Pr
/-- a cell of a table of rows of bools -/
theorem GT.cells {w0 w : World} {g S I s i : Nat} {us : List Nat} {row : Nat → List Bool} (h : GT w0 g S I us row w) (hus : us.length = S) (hs : s < S) (hi : i < I) : ∃ b, w.cell? ⟨g, s, none⟩ = some (.slice (some ⟨b, 0, none⟩) I I) ∧ w.cell? ⟨b, i, none⟩ = some (.bool ((row s).getD i false)) := by
  obtain ⟨b, hb⟩ : ∃ b, us[s]? = some b := ⟨_, List.getElem?_eq_getElem (by omega)⟩
  obtain ⟨hr, _⟩ := h.rows _ b hb
  have hl := h.len s (by omega)
  exact ⟨b, h.top.cell s (.slice (some ⟨b, 0, none⟩) I I) (by rw [List.getElem?_append_left (by simp; omega), List.getElem?_map, hb]; rfl), hr.cell i _ (by rw [List.getD_eq_getElem?_getD, List.getElem?_eq_getElem (by omega)]; rfl)⟩
set_option maxHeartbeats 4000000 in
set_option maxRecDepth 100000 in
theorem answers1_any (w0 w00 : World) (ba bb ga gb S I : Nat) (ua ub : List Nat) (ra rb : Nat → List Bool) (p : Nat × Nat) (i : Nat) (w : World) (hca : w.cell? ⟨ba, 0, none⟩ = some (.slice (some ⟨ga, 0, none⟩) S S)) (hcb : w.cell? ⟨bb, 0, none⟩ = some (.slice (some ⟨gb, 0, none⟩) S S)) (ha : GT w0 ga S I ua ra w) (hb : GT w00 gb S I ub rb w) (hua : ua.length = S) (hub : ub.length = S) (hp : p.1 < S) (hp2 : p.2 ≤ 1000) (hi : i < I) :
    Calls Tryz.prog 53 #[.agg #[.int .i64 (p.1 : Int), .int .i64 (p.2 : Int)], .int .i64 (i : Int), .pointer (some ⟨ba, 0, none⟩), .pointer (some ⟨bb, 0, none⟩)] w fun e w' => e = .returned (.int .i64 (Pr.wtA ra rb p i : Int)) ∧ Below w.heap.size w w' := by
  obtain ⟨b1, r0, r1⟩ := ha.cells hua hp hi
  obtain ⟨b2, s0, s1⟩ := hb.cells hub hp hi
  have HWT : Hid (Pr.wtA ra rb p i = Pr.waits p.2 ((ra p.1).getD i false) ((rb p.1).getD i false)) := rfl
  generalize (ra p.1).getD i false = x at *
  generalize (rb p.1).getD i false = y at *
  have HB : Hid (∀ o n, Below w.heap.size w ((w.alloc o).drewN n)) := fun o n => by
    have h1 : Below w.heap.size w (w.alloc o) := (Below.refl _ _).alloc (Nat.le_refl _) _
    exact h1.trans ⟨rfl, rfl, rfl, Nat.le_refl _, fun _ _ => rfl⟩
  have l1 : ba < w.heap.size := World.block_lt_of_cell? _ _ hca
  have l2 : bb < w.heap.size := World.block_lt_of_cell? _ _ hcb
  have l3 : ga < w.heap.size := World.block_lt_of_cell? _ _ r0
  have l4 : gb < w.heap.size := World.block_lt_of_cell? _ _ s0
  have l5 : b1 < w.heap.size := World.block_lt_of_cell? _ _ r1
  have l6 : b2 < w.heap.size := World.block_lt_of_cell? _ _ s1
  have hpi : (p.1 : Int) < (S : Int) := by omega
  have hii : (i : Int) < (I : Int) := by omega
  clear ha hb
  go_enter Tryz.func53, Tryz.ntmps53
  go_wp2_with fail
  go_quiet (first | (go_at_call 41; refine Calls.quiet_of_same (waits_any _ _ _ _ hp2)))
  go_wp2_with fail
  go_ret
  exact ⟨by rw [HWT.out]; rfl, HB.out _ _⟩
/-- what Answers comes to -/
def PAnswered (w : World) (p : Ld.Prg) (x y : Ex) (n : Nat) (e : Ending) (w' : World) : Prop := Below w.heap.size w w' ∧ (if Pr.has p.names x && Pr.has p.names y then SaidT w (Mc.nexts p) (Pr.wtA (Pr.goodRow p x (2 ^ (Ld.kindL p.names 1).length)) (Pr.goodRow p y (2 ^ (Ld.kindL p.names 1).length))) n e w' else e = .returned (.tuple #[.bool false, .slice none 0 0, .iface 40 (.int .i64 7)]))
/-- what Good comes to, told once more -/
theorem Gooded.or {w w' : World} {p : Ld.Prg} {x : Ex} {e : Ending} (h : Gooded w p x e w') : Below w.heap.size w w' ∧ ((Pr.has p.names x = true ∧ ∃ g us, e = .returned (.tuple #[.slice (some ⟨g, 0, none⟩) (Mc.total (Mc.parts p)) (Mc.total (Mc.parts p)), .nilIface]) ∧ us.length = Mc.total (Mc.parts p) ∧ GT w g (Mc.total (Mc.parts p)) (2 ^ (Ld.kindL p.names 1).length) us (Pr.goodRow p x (2 ^ (Ld.kindL p.names 1).length)) w') ∨ (Pr.has p.names x = false ∧ e = .returned (.tuple #[.slice none 0 0, .iface 40 (.int .i64 7)]))) := by
  obtain ⟨h1, h2⟩ := h
  refine ⟨h1, ?_⟩
  cases hh : Pr.has p.names x with
  | true => rw [hh, if_pos rfl] at h2; exact .inl ⟨rfl, h2⟩
  | false => rw [hh, if_neg Bool.false_ne_true] at h2; exact .inr ⟨rfl, h2⟩
set_option maxHeartbeats 4000000 in
set_option maxRecDepth 100000 in
theorem Answers_any (ok : Nat → Prop) (bm : Nat) (p : Ld.Prg) (x y : Ex) (u v : Value) (n : Nat) (w : World) (hm : IsMach w bm p) (hck : Ld.check p = none) (hS : Mc.total (Mc.parts p) ≤ 4096) (hq : (Ld.kindL p.names 1).length ≤ 6) (hx : IsEx ok w x u) (hy : IsEx ok w y v) (hlx : x.size ≤ 1000000) (hly : y.size ≤ 1000000) (hn : n ≤ 20) :
    Calls Tryz.prog 18 #[.pointer (some ⟨bm, 0, none⟩), u, v, .int .i64 (n : Int)] w (PAnswered w p x y n) := by
  have hmf : ∀ (fn : Fn) (first cap : Array Value) (w : World), (Instr.makeFunc fn first cap).run Tryz.prog w = .ok (.func fn first cap) w := fun _ _ _ _ => rfl
  have HG := hide (Good_any ok bm p x u w hm hck hS hq hx hlx)
  have HGY : Hid (∀ W, Below w.heap.size w W → Calls Tryz.prog 10 #[.pointer (some ⟨bm, 0, none⟩), v] W (Gooded W p y)) := fun W hW => Good_any (fun _ => True) bm p y v W (hm.below hW) hck hS hq (IsEx.stay (Stay.below hW) (fun g _ => trivial) y _ hy) hly
  obtain ⟨gN, uN, hna⟩ := hm.next
  have HNA := hide hna
  have hS1 := Mc.total_pos (Mc.parts p) (Mc.parts_ok p)
  have hI6 : 2 ^ (Ld.kindL p.names 1).length ≤ 64 := Nat.pow_le_pow_right (n := 2) (by decide) hq
  have HNL := hide (fun s => Mc.nexts_len p s)
  have HNX : Hid (∀ f s, f < Mc.total (Mc.parts p) → s ∈ Mc.nexts p f → s < Mc.total (Mc.parts p)) := fun f s _ hs => Mc.nexts_lt p hck f s hs
  have HPC : Hid (∀ e w', PAnswered w p x y n e w' ↔ (Below w.heap.size w w' ∧ (if Pr.has p.names x && Pr.has p.names y then SaidT w (Mc.nexts p) (Pr.wtA (Pr.goodRow p x (2 ^ (Ld.kindL p.names 1).length)) (Pr.goodRow p y (2 ^ (Ld.kindL p.names 1).length))) n e w' else e = .returned (.tuple #[.bool false, .slice none 0 0, .iface 40 (.int .i64 7)])))) := fun _ _ => Iff.rfl
  have HGD : Hid (∀ (W : World) (x : Ex) e w', Gooded W p x e w' → Below W.heap.size W w' ∧ ((Pr.has p.names x = true ∧ ∃ g us, e = .returned (.tuple #[.slice (some ⟨g, 0, none⟩) (Mc.total (Mc.parts p)) (Mc.total (Mc.parts p)), .nilIface]) ∧ us.length = Mc.total (Mc.parts p) ∧ GT W g (Mc.total (Mc.parts p)) (2 ^ (Ld.kindL p.names 1).length) us (Pr.goodRow p x (2 ^ (Ld.kindL p.names 1).length)) w') ∨ (Pr.has p.names x = false ∧ e = .returned (.tuple #[.slice none 0 0, .iface 40 (.int .i64 7)])))) := fun _ _ _ _ h => h.or
  obtain ⟨tu, yu, rfl⟩ := IsEx.iface x u hx
  obtain ⟨tv, yv, rfl⟩ := IsEx.iface y v hy
  clear hna hx hy hm hq hck
  generalize Mc.total (Mc.parts p) = S at *
  generalize 2 ^ (Ld.kindL p.names 1).length = I at *
  have hn0 : Decidable.decide ((n : Int) < 0) = false := decide_eq_false (by omega)
  have hn1 : Decidable.decide (20 < (n : Int)) = false := decide_eq_false (by omega)
  go_enter Tryz.func18, Tryz.ntmps18
  go_wp2_with fail
  refine HG.out.mono ?_
  intro e w1 hg
  obtain ⟨hb1, ⟨hhx, g, ua, rfl, hua, hgt⟩ | ⟨hhx, rfl⟩⟩ := HGD.out _ _ e w1 hg
  · clear hg HG
    obtain ⟨w2, hw2⟩ : ∃ w2, w2 = w1.alloc (.cells #[.slice (some ⟨g, 0, none⟩) S S] 31) := ⟨_, rfl⟩
    have hb12 : Below w1.heap.size w1 w2 := by rw [hw2]; exact (Below.refl _ _).alloc (Nat.le_refl _) _
    have hb2 : Below w.heap.size w w2 := by rw [hw2]; exact hb1.alloc hb1.size _
    have hc2 : w2.cell? ⟨w1.heap.size, 0, none⟩ = some (.slice (some ⟨g, 0, none⟩) S S) := by rw [hw2]; exact Lib.cell_of_heap (heap_alloc_new w1 _) 0
    have hl2 : w1.heap.size < w2.heap.size := by rw [hw2]; simp
    have HC2 := hide hc2
    have HB2 := hide hb2
    have HGT2 := hide (hgt.below hb12)
    have HUA := hide hua
    have HHX := hide hhx
    have HG2 := hide (HGY.out w2 hb2)
    have HW2 := hide hw2
    rw [hw2] at HG2
    clear hw2 hb12 hb2 hc2 hgt hua hb1 HGY hhx
    go_wp2_with fail
    refine HG2.out.mono ?_
    rw [← HW2.out]
    intro e w3 hg
    obtain ⟨hb3, ⟨hhy, g3, ub, rfl, hub, hgt3⟩ | ⟨hhy, rfl⟩⟩ := HGD.out _ _ e w3 hg
    · clear hg HG2 HGD
      obtain ⟨w4, hw4⟩ : ∃ w4, w4 = w3.alloc (.cells #[.slice (some ⟨g3, 0, none⟩) S S] 31) := ⟨_, rfl⟩
      have hb34 : Below w3.heap.size w3 w4 := by rw [hw4]; exact (Below.refl _ _).alloc (Nat.le_refl _) _
      have hb24 : Below w2.heap.size w2 w4 := by rw [hw4]; exact hb3.alloc hb3.size _
      have hb4 : Below w.heap.size w w4 := HB2.out.trans (hb24.mono HB2.out.size)
      have hc4 : w4.cell? ⟨w3.heap.size, 0, none⟩ = some (.slice (some ⟨g3, 0, none⟩) S S) := by rw [hw4]; exact Lib.cell_of_heap (heap_alloc_new w3 _) 0
      have hl4 : w3.heap.size < w4.heap.size := by rw [hw4]; simp
      have hz24 := hb24.size
      have hc2' := (hb24.cell (p := ⟨w1.heap.size, 0, none⟩) hl2).trans HC2.out
      have hgt2' := HGT2.out.below hb24
      have hgt4 := hgt3.below hb34
      have HWA : Hid (Waiting w4 S n I (.func (.func 53) #[] #[.pointer (some ⟨w1.heap.size, 0, none⟩), .pointer (some ⟨w3.heap.size, 0, none⟩)]) (Pr.wtA (Pr.goodRow p x I) (Pr.goodRow p y I))) :=
        ⟨53, _, rfl, fun _ _ => by kernel_rfl, fun q i W hW hq1 hq2 hi => answers1_any w w2 w1.heap.size w3.heap.size g g3 S I ua ub _ _ q i W ((hW.cell (p := ⟨w1.heap.size, 0, none⟩) (by show w1.heap.size < _; omega)).trans hc2') ((hW.cell (p := ⟨w3.heap.size, 0, none⟩) hl4).trans hc4) (hgt2'.below hW) (hgt4.below hW) HUA.out hub hq1 (by omega) hi⟩
      have HSR := hide (search_any bm S I gN n (Mc.nexts p) uN _ _ w4 (HNA.out.below hb4) hS1 hS hI6 hn HNL.out HNX.out HWA.out (fun q i hq2 => by unfold Pr.wtA Pr.waits; split <;> omega))
      have hhxy : (Pr.has p.names x && Pr.has p.names y) = true := by rw [HHX.out, hhy]; rfl
      have HFN : Hid (∀ e w5, Searched w4 (Mc.nexts p) (Pr.wtA (Pr.goodRow p x I) (Pr.goodRow p y I)) n e w5 → (e = .returned (.tuple #[.bool true, .slice none 0 0]) ∧ PAnswered w p x y n (.returned (.tuple #[.bool true, .slice none 0 0, .nilIface])) w5) ∨ ∃ g m c, e = .returned (.tuple #[.bool false, .slice (some ⟨g, 0, none⟩) m c]) ∧ PAnswered w p x y n (.returned (.tuple #[.bool false, .slice (some ⟨g, 0, none⟩) m c, .nilIface])) w5) := fun e w5 hs => by
        have hb5 : Below w.heap.size w w5 := hb4.trans (hs.1.mono hb4.size)
        rcases SaidT.of hb4.size hs with ⟨h1, h2⟩ | ⟨g, m, c, h1, h2⟩
        · refine .inl ⟨h1, (HPC.out _ _).2 ⟨hb5, ?_⟩⟩
          rw [hhxy, if_pos rfl]; exact h2
        · refine .inr ⟨g, m, c, h1, (HPC.out _ _).2 ⟨hb5, ?_⟩⟩
          rw [hhxy, if_pos rfl]; exact h2
      rw [hw4] at HSR
      have HW4 := hide hw4
      clear hw4 hb34 hb24 hb4 hc4 hl4 hc2' hgt2' hgt4 hgt3 HWA hub hb3 HPC hhy hhxy
      go_wp2_with fail
      refine HSR.out.mono ?_
      rw [← HW4.out]
      intro e w5 hs
      rcases HFN.out e w5 hs with ⟨rfl, h1⟩ | ⟨g5, n5, c5, rfl, h1⟩
      · have H1 := hide h1
        clear h1 hs HSR HFN
        go_wp2_with fail
        refine bodyPost_ret (results_tmp3 rfl _ _ _) rfl ?_
        exact H1.out
      · have H1 := hide h1
        clear h1 hs HSR HFN
        go_wp2_with fail
        refine bodyPost_ret (results_tmp3 rfl _ _ _) rfl ?_
        exact H1.out
    · have HFN : Hid (∀ o, PAnswered w p x y n (.returned (.tuple #[.bool false, .slice none 0 0, .iface 40 (.int .i64 7)])) (w3.alloc o)) := fun o => by
        have hb4 : Below w.heap.size w w3 := HB2.out.trans (hb3.mono HB2.out.size)
        refine (HPC.out _ _).2 ⟨hb4.alloc hb4.size _, ?_⟩
        rw [hhy, Bool.and_false, if_neg Bool.false_ne_true]
      clear hb3 hg HG2 hhy
      go_wp2_with fail
      refine bodyPost_ret (results_tmp3 rfl _ _ _) rfl ?_
      exact HFN.out _
  · have HFN : Hid (∀ o, PAnswered w p x y n (.returned (.tuple #[.bool false, .slice none 0 0, .iface 40 (.int .i64 7)])) (w1.alloc o)) := fun o => by
      refine (HPC.out _ _).2 ⟨hb1.alloc hb1.size _, ?_⟩
      rw [hhx, Bool.false_and, if_neg Bool.false_ne_true]
    clear hb1 hg HG hhx
    go_wp2_with fail
    refine bodyPost_ret (results_tmp3 rfl _ _ _) rfl ?_
    exact HFN.out _
end
section
open Go.RowKit Go.Maps
namespace Pa
open Dm
open Rf (then_ below_al lt_some BestV GoodAt)
/-- how many scans are left, where so many were gone without an answer -/
def lf (n w : Nat) : Int := if w = 0 then -1 else if w ≤ n + 1 then (n : Int) + 1 - w else w
theorem lf_inj (n w w' : Nat) (h : lf n w = lf n w') : w = w' := by
  unfold lf at h
  split at h <;> split at h <;> (try split at h) <;> (try split at h) <;> omega
def plV (n : Nat) (p : Nat × Nat) : Value := prV ((p.1 : Int), lf n p.2)
def plK (n : Nat) (p : Nat × Nat) : Lit := prK ((p.1 : Int), lf n p.2)
def plOk (n : Nat) (p : Nat × Nat) : Prop := p.1 ≤ 1000 ∧ p.2 ≤ n
theorem kindPl (n : Nat) (hn : n ≤ 20) : Kind 130 (Nat × Nat) (plV n) (plK n) (plOk n) := by
  refine ⟨kindAt.law, fun p hp => kindAt.key _ ?_, fun p q e => ?_⟩
  · obtain ⟨h1, h2⟩ := hp
    refine ⟨⟨by show -100000 ≤ (p.1 : Int); omega, by show (p.1 : Int) ≤ 100000; omega⟩, ?_, ?_⟩
    · show -100000 ≤ lf n p.2
      unfold lf
      split
      · omega
      · split <;> omega
    · show lf n p.2 ≤ 100000
      unfold lf
      split
      · omega
      · split <;> omega
  · have e1 := prV_inj _ _ e
    simp only [Prod.mk.injEq] at e1
    exact Prod.ext (by omega) (lf_inj n _ _ e1.2)
/-- all places -/
def pls (S n : Nat) : List (Nat × Nat) := In.keysL S n
theorem pls_len (S n : Nat) : (pls S n).length = S * (n + 1) := In.keysL_len S n
theorem pls_mem {S n : Nat} {p : Nat × Nat} (h1 : p.1 < S) (h2 : p.2 ≤ n) : p ∈ pls S n := In.keysL_mem (s := p.1) (k := p.2) h1 h2
/-- all cells stand -/
def CS (W W' : World) : Prop := ∀ g i v, W.cell? ⟨g, i, none⟩ = some v → W'.cell? ⟨g, i, none⟩ = some v
theorem CS.refl (W : World) : CS W W := fun _ _ _ h => h
theorem CS.trans {A B C : World} (h : CS A B) (k : CS B C) : CS A C := fun g i v x => k g i v (h g i v x)
theorem CS.below {A B : World} (h : Below A.heap.size A B) : CS A B := fun _ _ _ x => (h.cell (World.block_lt_of_cell? _ _ x)).trans x
theorem nocell_map {W : World} {b : Nat} {es : Array MapEntry} {clock : Nat} (h : W.heap[b]? = some (.map es clock)) (i : Nat) (v : Value) : W.cell? ⟨b, i, none⟩ ≠ some v := Rf.map_nocell h i v
theorem CS.grown {A B : World} {b : Nat} (h : A.grownBy B (some b)) (hn : ∀ i v, A.cell? ⟨b, i, none⟩ ≠ some v) : CS A B := fun g i v x => by
  by_cases e : g = b
  · subst e; exact absurd x (hn i v)
  · have hl : g < A.heap.size := World.block_lt_of_cell? _ _ x
    have e2 := h.block g hl (fun k => e (Option.some.inj k))
    rw [Rf.cell_of_block e2]
    exact x
theorem CS.best {A B : World} (h : CS A B) {b : Option (List Nat)} {v : Value} (hb : BestV A b v) : BestV B b v := In.BestV.cells hb (fun g i v _ x => h g i v x)
theorem CS.good {A B : World} (h : CS A B) {o : Value} {S I : Nat} {row : Nat → List Bool} (hb : GoodAt A o S I row) : GoodAt B o S I row := In.GoodAt.cells hb (fun g i v _ x => h g i v x)
/-- ways in memory -/
def Ways (W : World) (f : Nat × Nat → Option (List Nat)) (fV : Nat × Nat → Option Value) : Prop := ∀ p, (f p = none ∧ fV p = none) ∨ ∃ q v, f p = some q ∧ fV p = some v ∧ BestV W (some q) v
theorem Ways.cs {A B : World} {f : Nat × Nat → Option (List Nat)} {fV : Nat × Nat → Option Value} (h : Ways A f fV) (hc : CS A B) : Ways B f fV := fun p => by
  rcases h p with h1 | ⟨q, v, h1, h2, h3⟩
  · exact .inl h1
  · exact .inr ⟨q, v, h1, h2, hc.best h3⟩
theorem Ways.some_ {W : World} {f : Nat × Nat → Option (List Nat)} {fV : Nat × Nat → Option Value} (h : Ways W f fV) {p : Nat × Nat} {v : Value} (hv : fV p = some v) : ∃ q, f p = some q ∧ BestV W (some q) v := by
  rcases h p with ⟨_, h2⟩ | ⟨q, v', h1, h2, h3⟩
  · rw [hv] at h2; cases h2
  · rw [hv] at h2; cases h2; exact ⟨q, h1, h3⟩
theorem Ways.iff {W : World} {f : Nat × Nat → Option (List Nat)} {fV : Nat × Nat → Option Value} (h : Ways W f fV) (p : Nat × Nat) : f p = none ↔ fV p = none := by
  rcases h p with ⟨h1, h2⟩ | ⟨q, v', h1, h2, _⟩
  · exact ⟨fun _ => h2, fun _ => h1⟩
  · rw [h1, h2]; exact ⟨fun h => (by cases h), fun h => (by cases h)⟩
theorem Ways.put {W : World} {g : Nat × Nat → Option (List Nat)} {gV : Nat × Nat → Option Value} (h : Ways W g gV) (y : Nat × Nat) (q : List Nat) (v : Value) (hb : BestV W (some q) v) : Ways W (fun p => if p = y then some q else g p) (fun p => if p = y then some v else gV p) := fun p => by
  by_cases e : p = y
  · exact .inr ⟨q, v, if_pos e, if_pos e, hb⟩
  · rcases h p with ⟨h1, h2⟩ | ⟨q', v', h1, h2, h3⟩
    · exact .inl ⟨(if_neg e).trans h1, (if_neg e).trans h2⟩
    · exact .inr ⟨q', v', (if_neg e).trans h1, (if_neg e).trans h2, h3⟩
/-- while a level is gone through: the level's map and its range, the next one's map, those that were seen, the best bad one -/
structure Lv (w : World) (S n bN r bG bS cN : Nat) (fV : Nat × Nat → Option Value) (DN : DataW Value) (fS : Nat × Nat → Option Value) (cS : Nat) (DS : DataW Value) (w2 W : World) (left : Nat × Nat → Prop) (cnt : Nat) (g : Nat × Nat → Option (List Nat)) (gV : Nat × Nat → Option Value) (b : Option (List Nat)) (bv : Value) : Prop where
  rx : RX 130 (plK n) (plOk n) W bN r cN fV DN left cnt
  dg : ∃ cG DG, DX 130 (plK n) (plOk n) W bG cG gV DG ∧ cG + Dm.left (pls S n) gV ≤ S * (n + 1)
  wg : Ways W g gV
  inp : ∀ p, gV p ≠ none → p.1 < S ∧ p.2 ≤ n
  ds : DX 130 (plK n) (plOk n) W bS cS fS DS
  bst : BestV W b bv
  cs : CS w2 W
  bel : Below w.heap.size w W
  base : w.heap.size ≤ bG ∧ w.heap.size ≤ r
  ne : bG ≠ bN ∧ bG ≠ r ∧ bS ≠ bG ∧ bS ≠ r
theorem Lv.below {w : World} {S n bN r bG bS cN : Nat} {fV : Nat × Nat → Option Value} {DN : DataW Value} {fS : Nat × Nat → Option Value} {cS : Nat} {DS : DataW Value} {w2 W W' : World} {left : Nat × Nat → Prop} {cnt : Nat} {g : Nat × Nat → Option (List Nat)} {gV : Nat × Nat → Option Value} {b : Option (List Nat)} {bv : Value}
    (h : Lv w S n bN r bG bS cN fV DN fS cS DS w2 W left cnt g gV b bv) (hb : Below W.heap.size W W') : Lv w S n bN r bG bS cN fV DN fS cS DS w2 W' left cnt g gV b bv := by
  have hg : W.grownBy W' none := ⟨hb.os, hb.tape, hb.output, hb.size, fun i hi _ => hb.block i hi⟩
  obtain ⟨cG, DG, h1, h2⟩ := h.dg
  exact ⟨h.rx.kept hg (by simp) (by simp), ⟨cG, DG, h1.kept (hb.block _ h1.lt), h2⟩, h.wg.cs (CS.below hb), h.inp, h.ds.kept (hb.block _ h.ds.lt), (CS.below hb).best h.bst, h.cs.trans (CS.below hb), then_ h.bel hb, h.base, h.ne⟩
theorem Lv.best {w : World} {S n bN r bG bS cN : Nat} {fV : Nat × Nat → Option Value} {DN : DataW Value} {fS : Nat × Nat → Option Value} {cS : Nat} {DS : DataW Value} {w2 W : World} {left : Nat × Nat → Prop} {cnt : Nat} {g : Nat × Nat → Option (List Nat)} {gV : Nat × Nat → Option Value} {b b' : Option (List Nat)} {bv bv' : Value}
    (h : Lv w S n bN r bG bS cN fV DN fS cS DS w2 W left cnt g gV b bv) (hb : BestV W b' bv') : Lv w S n bN r bG bS cN fV DN fS cS DS w2 W left cnt g gV b' bv' := ⟨h.rx, h.dg, h.wg, h.inp, h.ds, hb, h.cs, h.bel, h.base, h.ne⟩
/-- a way is stored -/
theorem Lv.put {w : World} {S n bN r bG bS cN : Nat} {fV : Nat × Nat → Option Value} {DN : DataW Value} {fS : Nat × Nat → Option Value} {cS : Nat} {DS : DataW Value} {w2 W : World} {left : Nat × Nat → Prop} {cnt : Nat} {g : Nat × Nat → Option (List Nat)} {gV : Nat × Nat → Option Value} {b : Option (List Nat)} {bv : Value}
    (h : Lv w S n bN r bG bS cN fV DN fS cS DS w2 W left cnt g gV b bv) (hn : n ≤ 20) (hS : S ≤ 100) (y : Nat × Nat) (hy : y.1 < S ∧ y.2 ≤ n) (q : List Nat) (v : Value) (hv : BestV W (some q) v) :
    ∃ W', (Instr.mapUpdate 131 (.map (some bG)) (plV n y) v).run Tryz.prog W = .ok () W' ∧ Lv w S n bN r bG bS cN fV DN fS cS DS w2 W' left cnt (fun p => if p = y then some q else g p) (fun p => if p = y then some v else gV p) b bv ∧ CS W W' := by
  obtain ⟨cG, DG, h1, h2⟩ := h.dg
  have hbig : S * (n + 1) ≤ 100 * 21 := Nat.mul_le_mul hS (by omega)
  obtain ⟨W', hrun, hd, hg⟩ := h1.put (kindPl n hn) Tryz.underlying131 (by omega) y v ⟨by omega, hy.2⟩
  have hfe : (fun q => @ite (Option Value) (q = y) (Classical.propDecidable _) (some v) (gV q)) = (fun p => if p = y then some v else gV p) := by
    funext p
    by_cases e : p = y <;> simp [e]
  rw [hfe] at hd
  obtain ⟨n1, n2, n3, n4⟩ := h.ne
  have hcs : CS W W' := CS.grown hg (fun i v => by obtain ⟨es, c, ho⟩ := h1.obj; exact nocell_map ho i v)
  refine ⟨W', hrun, ⟨h.rx.kept hg (fun e => n1 (Option.some.inj e).symm) (fun e => n2 (Option.some.inj e).symm), ⟨_, _, hd, ?_⟩, (h.wg.cs hcs).put y q v (hcs.best hv), fun p hp => ?_, h.ds.kept (hg.block _ h.ds.lt (fun e => n3 (Option.some.inj e))), hcs.best h.bst, h.cs.trans hcs, ?_, h.base, h.ne⟩, hcs⟩
  · cases hf : gV y with
    | none =>
      have := left_put y v gV hf (pls S n) (pls_mem hy.1 hy.2)
      rw [hfe] at this
      simp only [Option.isSome_none, Bool.false_eq_true, if_false]
      omega
    | some z =>
      have := left_mono y v gV (pls S n)
      rw [hfe] at this
      simp only [Option.isSome_some, if_true]
      omega
  · by_cases e : p = y
    · subst e; exact hy
    · exact h.inp p (by rw [if_neg e] at hp; exact hp)
  · exact h.bel.trans ⟨hg.os, hg.tape, hg.output, hg.size, fun i hi => by
      have := h.base.1
      exact hg.block i (by have := h.bel.size; omega) (fun e => by have := Option.some.inj e; omega)⟩
end Pa
end
end Go.Proofs.YtgldbliohpfljaaGreatDoor
