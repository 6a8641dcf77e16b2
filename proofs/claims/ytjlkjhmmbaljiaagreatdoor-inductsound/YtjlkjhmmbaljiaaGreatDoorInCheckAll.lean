/-
  The walks of package prop's Check and of its closure. The walk of package induct's Check.
-/
import Derived.Test.YtjlkjhmmbaljiaaGreatDoorPrGood
import Derived.Test.YtjlkjhmmbaljiaaGreatDoorPrViewAll
namespace Go.Proofs.YtjlkjhmmbaljiaaGreatDoor
section
open Go.RowKit
namespace Pr
/-- how long one waits where nothing is asked for but always -/
def wtC (row : Nat → List Bool) (p : Nat × Nat) (i : Nat) : Nat := waits 0 true ((row p.1).getD i false)
end Pr
set_option maxHeartbeats 2000000 in
set_option maxRecDepth 100000 in
theorem check1_any (w0 : World) (bg g S I : Nat) (us : List Nat) (row : Nat → List Bool) (p : Nat × Nat) (i : Nat) (w : World) (hc : w.cell? ⟨bg, 0, none⟩ = some (.slice (some ⟨g, 0, none⟩) S S)) (h : GT w0 g S I us row w) (hus : us.length = S) (hp : p.1 < S) (hi : i < I) :
    Calls Tryz.prog 24 #[.agg #[.int .i64 (p.1 : Int), .int .i64 (p.2 : Int)], .int .i64 (i : Int), .pointer (some ⟨bg, 0, none⟩)] w fun e w' => e = .returned (.int .i64 (Pr.wtC row p i : Int)) ∧ Below w.heap.size w w' := by
  obtain ⟨b, hb⟩ : ∃ b, us[p.1]? = some b := ⟨_, List.getElem?_eq_getElem (by omega)⟩
  obtain ⟨hr, _⟩ := h.rows _ b hb
  have hl := h.len p.1 (by omega)
  have r0 := h.top.cell p.1 (.slice (some ⟨b, 0, none⟩) I I) (by rw [List.getElem?_append_left (by simp; omega), List.getElem?_map, hb]; rfl)
  have r1 := hr.cell i _ (show (row p.1)[i]? = some ((row p.1).getD i false) by rw [List.getD_eq_getElem?_getD, List.getElem?_eq_getElem (by omega)]; rfl)
  obtain ⟨x, hx⟩ : ∃ x, x = (row p.1).getD i false := ⟨_, rfl⟩
  rw [← hx] at r1
  have HWT : Hid (Pr.wtC row p i = Pr.waits 0 true x) := by show _ = _; rw [hx]; rfl
  have hbl : bg < w.heap.size := World.block_lt_of_cell? _ _ hc
  have hgl : g < w.heap.size := World.block_lt_of_cell? _ _ r0
  have hbl2 : b < w.heap.size := World.block_lt_of_cell? _ _ r1
  have hpi : (p.1 : Int) < (S : Int) := by omega
  have hii : (i : Int) < (I : Int) := by omega
  have HW := hide (fun W => waits_any 0 true x W (by omega))
  have HB : Hid (∀ o, Below w.heap.size w (w.alloc o)) := fun o => (Below.refl _ _).alloc (Nat.le_refl _) _
  clear hb hr hl hx h
  go_enter Tryz.func24, Tryz.ntmps24
  go_wp2_with fail
  refine (HW.out _).mono ?_
  rintro e w' ⟨rfl, rfl⟩
  go_wp2_with fail
  go_ret
  exact ⟨by rw [HWT.out]; rfl, HB.out _⟩
/-- what Check and Answers come to, where there is no error -/
def SaidT (w : World) (next : Nat → List Nat) (wt : Nat × Nat → Nat → Nat) (most : Nat) (e : Ending) (w' : World) : Prop := (e = .returned (.tuple #[.bool true, .slice none 0 0, .nilIface]) ∧ Pr.Held next wt most) ∨ ∃ l g c, e = .returned (.tuple #[.bool false, .slice (some ⟨g, 0, none⟩) l.length c, .nilIface]) ∧ Pr.Broke next wt most l ∧ Pr.Least next wt most l ∧ w'.ownsRow w.heap.size 3 1 (.slice (some ⟨g, 0, none⟩) l.length c) l.length (l.map natV) ∧ l.length ≤ 100001
/-- what Check comes to -/
def PChecked (w : World) (p : Ld.Prg) (x : Ex) (e : Ending) (w' : World) : Prop := Below w.heap.size w w' ∧ (if Pr.has p.names x then SaidT w (Mc.nexts p) (Pr.wtC (Pr.goodRow p x (2 ^ (Ld.kindL p.names 1).length))) 0 e w' else e = .returned (.tuple #[.bool false, .slice none 0 0, .iface 40 (.int .i64 7)]))
theorem SaidT.of {w w2 w3 : World} {next : Nat → List Nat} {wt : Nat × Nat → Nat → Nat} {most : Nat} {e : Ending} (hz : w.heap.size ≤ w2.heap.size) (h : Searched w2 next wt most e w3) : (e = .returned (.tuple #[.bool true, .slice none 0 0]) ∧ SaidT w next wt most (.returned (.tuple #[.bool true, .slice none 0 0, .nilIface])) w3) ∨ ∃ g n c, e = .returned (.tuple #[.bool false, .slice (some ⟨g, 0, none⟩) n c]) ∧ SaidT w next wt most (.returned (.tuple #[.bool false, .slice (some ⟨g, 0, none⟩) n c, .nilIface])) w3 := by
  obtain ⟨_, ⟨h1, h2⟩ | ⟨l, g, c, h1, h2, h5, h3, h4⟩⟩ := h
  · exact .inl ⟨h1, .inl ⟨rfl, h2⟩⟩
  · exact .inr ⟨g, l.length, c, h1, .inr ⟨l, g, c, rfl, h2, h5, own_mono h3 hz, h4⟩⟩
set_option maxHeartbeats 4000000 in
set_option maxRecDepth 100000 in
theorem PCheck_any (ok : Nat → Prop) (bm : Nat) (p : Ld.Prg) (x : Ex) (v : Value) (w : World) (hm : IsMach w bm p) (hck : Ld.check p = none) (hS : Mc.total (Mc.parts p) ≤ 4096) (hq : (Ld.kindL p.names 1).length ≤ 6) (h : IsEx ok w x v) (hlen : x.size ≤ 1000000) :
    Calls Tryz.prog 9 #[.pointer (some ⟨bm, 0, none⟩), v] w (PChecked w p x) := by
  have hmf : ∀ (fn : Fn) (first cap : Array Value) (w : World), (Instr.makeFunc fn first cap).run Tryz.prog w = .ok (.func fn first cap) w := fun _ _ _ _ => rfl
  have HG := hide (Good_any ok bm p x v w hm hck hS hq h hlen)
  obtain ⟨gN, uN, hna⟩ := hm.next
  have HNA := hide hna
  have hS1 := Mc.total_pos (Mc.parts p) (Mc.parts_ok p)
  have hI6 : 2 ^ (Ld.kindL p.names 1).length ≤ 64 := Nat.pow_le_pow_right (n := 2) (by decide) hq
  have HNL := hide (fun s => Mc.nexts_len p s)
  have HNX : Hid (∀ f s, f < Mc.total (Mc.parts p) → s ∈ Mc.nexts p f → s < Mc.total (Mc.parts p)) := fun f s _ hs => Mc.nexts_lt p hck f s hs
  have HPC : Hid (∀ e w', PChecked w p x e w' ↔ (Below w.heap.size w w' ∧ (if Pr.has p.names x then SaidT w (Mc.nexts p) (Pr.wtC (Pr.goodRow p x (2 ^ (Ld.kindL p.names 1).length))) 0 e w' else e = .returned (.tuple #[.bool false, .slice none 0 0, .iface 40 (.int .i64 7)])))) := fun _ _ => Iff.rfl
  have HGD : Hid (∀ e w', Gooded w p x e w' → (Below w.heap.size w w' ∧ (if Pr.has p.names x then ∃ g us, e = .returned (.tuple #[.slice (some ⟨g, 0, none⟩) (Mc.total (Mc.parts p)) (Mc.total (Mc.parts p)), .nilIface]) ∧ us.length = Mc.total (Mc.parts p) ∧ GT w g (Mc.total (Mc.parts p)) (2 ^ (Ld.kindL p.names 1).length) us (Pr.goodRow p x (2 ^ (Ld.kindL p.names 1).length)) w' else e = .returned (.tuple #[.slice none 0 0, .iface 40 (.int .i64 7)])))) := fun _ _ h => h
  obtain ⟨tu, yu, rfl⟩ := IsEx.iface x v h
  clear hna h hm hq hck
  generalize hrw : Pr.goodRow p x (2 ^ (Ld.kindL p.names 1).length) = row at *
  generalize Mc.total (Mc.parts p) = S at *
  generalize 2 ^ (Ld.kindL p.names 1).length = I at *
  clear hrw
  go_enter Tryz.func9, Tryz.ntmps9
  go_wp2_with fail
  refine HG.out.mono ?_
  intro e w1 hg
  obtain ⟨hb1, hres⟩ := HGD.out e w1 hg
  clear hg HG HGD
  cases hhas : Pr.has p.names x with
  | false =>
    rw [hhas, if_neg Bool.false_ne_true] at hres
    obtain rfl := hres
    have HFN : Hid (∀ o, PChecked w p x (.returned (.tuple #[.bool false, .slice none 0 0, .iface 40 (.int .i64 7)])) (w1.alloc o)) := fun o => by
      refine (HPC.out _ _).2 ⟨hb1.alloc hb1.size _, ?_⟩
      rw [hhas, if_neg Bool.false_ne_true]
    clear hb1
    go_wp2_with fail
    refine bodyPost_ret (results_tmp3 rfl _ _ _) rfl ?_
    exact HFN.out _
  | true =>
    rw [hhas, if_pos rfl] at hres
    obtain ⟨g, us, rfl, hul, hgt⟩ := hres
    obtain ⟨w2, hw2⟩ : ∃ w2, w2 = w1.alloc (.cells #[.slice (some ⟨g, 0, none⟩) S S] 64) := ⟨_, rfl⟩
    have hb12 : Below w1.heap.size w1 w2 := by rw [hw2]; exact (Below.refl _ _).alloc (Nat.le_refl _) _
    have hb2 : Below w.heap.size w w2 := by rw [hw2]; exact hb1.alloc hb1.size _
    have hc2 : w2.cell? ⟨w1.heap.size, 0, none⟩ = some (.slice (some ⟨g, 0, none⟩) S S) := by rw [hw2]; exact Lib.cell_of_heap (heap_alloc_new w1 _) 0
    have hl2 : w1.heap.size < w2.heap.size := by rw [hw2]; simp
    have hgt2 := hgt.below hb12
    have HWA : Hid (Waiting w2 S 0 I (.func (.func 24) #[] #[.pointer (some ⟨w1.heap.size, 0, none⟩)]) (Pr.wtC row)) :=
      ⟨24, _, rfl, fun _ _ => by kernel_rfl, fun q i W hW hq1 _ hi => check1_any w w1.heap.size g S I us row q i W ((hW.cell (p := ⟨w1.heap.size, 0, none⟩) hl2).trans hc2) (hgt2.below hW) hul hq1 hi⟩
    have HSR : Hid (Calls Tryz.prog 23 #[.pointer (some ⟨bm, 0, none⟩), .int .i64 0, .func (.func 24) #[] #[.pointer (some ⟨w1.heap.size, 0, none⟩)]] w2 (Searched w2 (Mc.nexts p) (Pr.wtC row) 0)) :=
      search_any bm S I gN 0 (Mc.nexts p) uN _ _ w2 (HNA.out.below hb2) hS1 hS hI6 (by decide) HNL.out HNX.out HWA.out (fun q i _ => by unfold Pr.wtC Pr.waits; split <;> omega)
    have HFN : Hid (∀ e w3, Searched w2 (Mc.nexts p) (Pr.wtC row) 0 e w3 → (e = .returned (.tuple #[.bool true, .slice none 0 0]) ∧ PChecked w p x (.returned (.tuple #[.bool true, .slice none 0 0, .nilIface])) w3) ∨ ∃ g n c, e = .returned (.tuple #[.bool false, .slice (some ⟨g, 0, none⟩) n c]) ∧ PChecked w p x (.returned (.tuple #[.bool false, .slice (some ⟨g, 0, none⟩) n c, .nilIface])) w3) := fun e w3 hs => by
      have hb3 : Below w.heap.size w w3 := hb2.trans (hs.1.mono hb2.size)
      rcases SaidT.of hb2.size hs with ⟨h1, h2⟩ | ⟨g, n, c, h1, h2⟩
      · refine .inl ⟨h1, (HPC.out _ _).2 ⟨hb3, ?_⟩⟩
        rw [hhas, if_pos rfl]; exact h2
      · refine .inr ⟨g, n, c, h1, (HPC.out _ _).2 ⟨hb3, ?_⟩⟩
        rw [hhas, if_pos rfl]; exact h2
    rw [hw2] at HSR
    have HW2 := hide hw2
    clear hw2 hb12 hb2 hc2 hl2 hgt2 HWA hgt hul hb1 HPC
    go_wp2_with fail
    refine HSR.out.mono ?_
    rw [← HW2.out]
    intro e w3 hs
    rcases HFN.out e w3 hs with ⟨rfl, h1⟩ | ⟨g3, n3, c3, rfl, h1⟩
    · have H1 := hide h1
      clear h1 hs HSR HFN
      go_wp2_with fail
      refine bodyPost_ret (results_tmp3 rfl _ _ _) rfl ?_
      exact H1.out
    · have H1 := hide h1
      clear h1 hs HSR HFN
      go_wp2_with fail
      refine bodyPost_ret (results_tmp3 rfl _ _ _) rfl ?_
      exact H1.out
end
section
open Go.RowKit
/-- a verdict -/
def vdV (c k : Nat) (pv : Value) : Value := .agg #[.int .i64 (c : Int), .int .i64 (k : Int), pv]
/-- what Check comes to, where there is no error -/
def Indd (w : World) (next : Nat → List Nat) (wt : Nat × Nat → Nat → Nat) (any : Nat → Bool) (most : Nat) (e : Ending) (w' : World) : Prop :=
  (∃ c k, Pr.Held next wt 0 ∧ In.run false 0 any most 1 = (c, k) ∧ e = .returned (.tuple #[vdV c k (.slice none 0 0), .nilIface])) ∨
  ∃ l g cp cd k pv, Pr.Broke next wt 0 l ∧ Pr.Least next wt 0 l ∧ w'.ownsRow w.heap.size 3 1 (.slice (some ⟨g, 0, none⟩) l.length cp) l.length (l.map natV) ∧ l.length ≤ 100001 ∧ In.run true l.length any most 1 = (cd, k) ∧ e = .returned (.tuple #[vdV cd k pv, .nilIface]) ∧ ((cd = 2 ∧ pv = .slice (some ⟨g, 0, none⟩) l.length cp) ∨ (cd ≠ 2 ∧ pv = .slice none 0 0))
/-- does it fail anywhere, behind k good scans -/
def Pr.anyP (p : Ld.Prg) (x : Ex) (k : Nat) : Bool := In.anyF (Mc.nexts p) (Pr.goodRow p x (2 ^ (Ld.kindL p.names 1).length)) (Mc.total (Mc.parts p)) k
/-- what Check comes to -/
def IChecked (w : World) (p : Ld.Prg) (x : Ex) (most : Nat) (e : Ending) (w' : World) : Prop := Below w.heap.size w w' ∧ (if Pr.has p.names x then Indd w (Mc.nexts p) (Pr.wtC (Pr.goodRow p x (2 ^ (Ld.kindL p.names 1).length))) (Pr.anyP p x) most e w' else e = .returned (.tuple #[vdV 0 0 (.slice none 0 0), .iface 40 (.int .i64 7)]))
/-- a verdict's three cells, written anew -/
theorem set3_heap (W : World) (b : Nat) (x y z : Value) (k : Nat) (hk : k ≠ b) : (((W.setCell ⟨b, 0, none⟩ x).setCell ⟨b, 1, none⟩ y).setCell ⟨b, 2, none⟩ z).heap[k]? = W.heap[k]? := by
  rw [Below.heap_setCell _ _ _ _ (fun e => hk e), Below.heap_setCell _ _ _ _ (fun e => hk e), Below.heap_setCell _ _ _ _ (fun e => hk e)]
theorem set3_below {w W : World} {b : Nat} (x y z : Value) (h : Below w.heap.size w W) (hb : w.heap.size ≤ b) : Below w.heap.size w (((W.setCell ⟨b, 0, none⟩ x).setCell ⟨b, 1, none⟩ y).setCell ⟨b, 2, none⟩ z) :=
  ((h.setCell (p := ⟨b, 0, none⟩) hb _).setCell (p := ⟨b, 1, none⟩) hb _).setCell (p := ⟨b, 2, none⟩) hb _
set_option maxHeartbeats 8000000 in
set_option maxRecDepth 100000 in
theorem ICheck_any (ok : Nat → Prop) (bm : Nat) (p : Ld.Prg) (x : Ex) (v : Value) (most : Nat) (w : World) (hm : IsMach w bm p) (hck : Ld.check p = none) (hS : Mc.total (Mc.parts p) ≤ 4096) (hq : (Ld.kindL p.names 1).length ≤ 6) (h : IsEx ok w x v) (hlen : x.size ≤ 1000000) (hm1 : 1 ≤ most) (hm2 : most ≤ 50) :
    Calls Tryz.prog 8 #[.pointer (some ⟨bm, 0, none⟩), v, .int .i64 (most : Int)] w (IChecked w p x most) := by
  obtain ⟨wA, hwA⟩ : ∃ wA, wA = w.alloc (.cells #[.int .i64 0, .int .i64 0, .slice none 0 0] 35) := ⟨_, rfl⟩
  have hbA : Below w.heap.size w wA := by rw [hwA]; exact (Below.refl _ _).alloc (Nat.le_refl _) _
  have hzA : wA.heap.size = w.heap.size + 1 := by rw [hwA]; simp
  have hkA : wA.heap[w.heap.size]? = some (.cells #[.int .i64 0, .int .i64 0, .slice none 0 0] 35 (0, 0)) := by rw [hwA]; exact heap_alloc_new w _
  have HXA := hide (IsEx.stay (Stay.below hbA) (fun g _ => trivial) x v h (ok' := fun _ => True))
  have HMA := hide (hm.below hbA)
  have HG := hide (Good_any (fun _ => True) bm p x v wA HMA.out hck hS hq HXA.out hlen)
  obtain ⟨gN, uN, hna⟩ := HMA.out.next
  have HNA := hide hna
  have hS1 := Mc.total_pos (Mc.parts p) (Mc.parts_ok p)
  have hI6 : 2 ^ (Ld.kindL p.names 1).length ≤ 64 := Nat.pow_le_pow_right (n := 2) (by decide) hq
  have HNL := hide (fun s => Mc.nexts_len p s)
  have HNX : Hid (∀ f s, f < Mc.total (Mc.parts p) → s ∈ Mc.nexts p f → s < Mc.total (Mc.parts p)) := fun f s _ hs => Mc.nexts_lt p hck f s hs
  have HPC : Hid (∀ W, Below wA.heap.size wA W → Calls Tryz.prog 9 #[.pointer (some ⟨bm, 0, none⟩), v] W (PChecked W p x)) := fun W hW => PCheck_any (fun _ => True) bm p x v W (HMA.out.below hW) hck hS hq (IsEx.stay (Stay.below hW) (fun g _ => trivial) x v HXA.out) hlen
  have HIC : Hid (∀ e w', IChecked w p x most e w' ↔ (Below w.heap.size w w' ∧ (if Pr.has p.names x then Indd w (Mc.nexts p) (Pr.wtC (Pr.goodRow p x (2 ^ (Ld.kindL p.names 1).length))) (In.anyF (Mc.nexts p) (Pr.goodRow p x (2 ^ (Ld.kindL p.names 1).length)) (Mc.total (Mc.parts p))) most e w' else e = .returned (.tuple #[vdV 0 0 (.slice none 0 0), .iface 40 (.int .i64 7)])))) := fun _ _ => Iff.rfl
  have HGD : Hid (∀ e w', Gooded wA p x e w' → (Below wA.heap.size wA w' ∧ (if Pr.has p.names x then ∃ g us, e = .returned (.tuple #[.slice (some ⟨g, 0, none⟩) (Mc.total (Mc.parts p)) (Mc.total (Mc.parts p)), .nilIface]) ∧ us.length = Mc.total (Mc.parts p) ∧ GT wA g (Mc.total (Mc.parts p)) (2 ^ (Ld.kindL p.names 1).length) us (Pr.goodRow p x (2 ^ (Ld.kindL p.names 1).length)) w' else e = .returned (.tuple #[.slice none 0 0, .iface 40 (.int .i64 7)])))) := fun _ _ h => h
  have HPD : Hid (∀ W e w', PChecked W p x e w' → (Below W.heap.size W w' ∧ (if Pr.has p.names x then SaidT W (Mc.nexts p) (Pr.wtC (Pr.goodRow p x (2 ^ (Ld.kindL p.names 1).length))) 0 e w' else e = .returned (.tuple #[.bool false, .slice none 0 0, .iface 40 (.int .i64 7)])))) := fun _ _ _ h => h
  obtain ⟨tu, yu, rfl⟩ := IsEx.iface x v h
  have HKA := hide hkA
  have HBA := hide hbA
  clear hna h hm hq hck hkA hbA HMA HXA
  generalize hrw : Pr.goodRow p x (2 ^ (Ld.kindL p.names 1).length) = row at *
  generalize Mc.total (Mc.parts p) = S at *
  generalize 2 ^ (Ld.kindL p.names 1).length = I at *
  generalize Mc.nexts p = next at *
  clear hrw
  have HWA := hide hwA
  rw [hwA] at HG
  clear hwA
  go_enter Tryz.func8, Tryz.ntmps8
  go_wp2_with fail
  refine HG.out.mono ?_
  rw [← HWA.out]
  intro e w1 hg
  obtain ⟨hb1, hres⟩ := HGD.out e w1 hg
  clear hg HG HGD
  have hz1 := hb1.size
  cases hhas : Pr.has p.names x with
  | false =>
    rw [hhas, if_neg Bool.false_ne_true] at hres
    obtain rfl := hres
    have ub := (hb1.block w.heap.size (by omega)).trans HKA.out
    have z0 : w1.cell? ⟨w.heap.size, 0, none⟩ = some (.int .i64 0) := by rw [Lib.cell_of_heap ub]; rfl
    have z1 : w1.cell? ⟨w.heap.size, 1, none⟩ = some (.int .i64 0) := by rw [Lib.cell_of_heap ub]; rfl
    have z2 : w1.cell? ⟨w.heap.size, 2, none⟩ = some (.slice none 0 0) := by rw [Lib.cell_of_heap ub]; rfl
    have f0 : w1.frozen? ⟨w.heap.size, 0, none⟩ = false := Lib.frozen_of_heap ub 0
    have f1 : w1.frozen? ⟨w.heap.size, 1, none⟩ = false := Lib.frozen_of_heap ub 1
    have f2 : w1.frozen? ⟨w.heap.size, 2, none⟩ = false := Lib.frozen_of_heap ub 2
    have hb2 : Below w.heap.size w w1 := HBA.out.trans (hb1.mono (by omega))
    have HFN : Hid (∀ x_ y_ z_, IChecked w p x most (.returned (.tuple #[vdV 0 0 (.slice none 0 0), .iface 40 (.int .i64 7)])) (((w1.setCell ⟨w.heap.size, 0, none⟩ x_).setCell ⟨w.heap.size, 1, none⟩ y_).setCell ⟨w.heap.size, 2, none⟩ z_)) := fun x_ y_ z_ => by
      refine (HIC.out _ _).2 ⟨set3_below _ _ _ hb2 (Nat.le_refl _), ?_⟩
      rw [hhas, if_neg Bool.false_ne_true]
    clear hb1 hb2 ub
    go_wp2_with fail
    refine bodyPost_ret_by (v := .tuple #[vdV 0 0 (.slice none 0 0), .iface 40 (.int .i64 7)]) ?_ rfl ?_
    · simp [results, Tryz.results8, go_sem, vdV, z0, z1, z2]
    · exact HFN.out _ _ _
  | true =>
    rw [hhas, if_pos rfl] at hres
    obtain ⟨g, us, rfl, hul, hgt⟩ := hres
    have HC1 := hide (HPC.out w1 hb1)
    have HGT := hide hgt
    have hmi1 : ¬ (most : Int) < 1 := by omega
    have hmi2 : ¬ (50 : Int) < (most : Int) := by omega
    have HB1 := hide hb1
    clear hgt HPC hb1
    go_wp2_with fail
    refine HC1.out.mono ?_
    intro e w2 hp
    obtain ⟨hb2, hres⟩ := HPD.out w1 e w2 hp
    rw [hhas, if_pos rfl] at hres
    have hz2 := hb2.size
    have hkb : w2.heap[w.heap.size]? = some (.cells #[.int .i64 0, .int .i64 0, .slice none 0 0] 35 (0, 0)) := (hb2.block _ (by omega)).trans ((HB1.out.block _ (by omega)).trans HKA.out)
    have hbw2 : Below w.heap.size w w2 := HBA.out.trans ((HB1.out.trans (hb2.mono (by omega))).mono (by omega))
    obtain ⟨hd, a, L, c, rfl, hL5, HFN⟩ : ∃ (hd : Bool) (a : Option Addr) (L c : Nat), e = .returned (.tuple #[.bool hd, .slice a L c, .nilIface]) ∧ L ≤ 100001 ∧ Hid (∀ (cd k : Nat) (pv : Value) (W : World) (x_ y_ z_ : Value), In.run (!hd) L (In.anyF next row S) most 1 = (cd, k) → ((cd = 2 ∧ pv = .slice a L c) ∨ (cd ≠ 2 ∧ pv = .slice none 0 0)) → Below w2.heap.size w2 W → IChecked w p x most (.returned (.tuple #[vdV cd k pv, .nilIface])) (((W.setCell ⟨w.heap.size, 0, none⟩ x_).setCell ⟨w.heap.size, 1, none⟩ y_).setCell ⟨w.heap.size, 2, none⟩ z_)) := by
      have key : ∀ W x_ y_ z_, Below w2.heap.size w2 W → Below w.heap.size w (((W.setCell ⟨w.heap.size, 0, none⟩ x_).setCell ⟨w.heap.size, 1, none⟩ y_).setCell ⟨w.heap.size, 2, none⟩ z_) := fun W x_ y_ z_ hW => set3_below _ _ _ (hbw2.trans (hW.mono hbw2.size)) (Nat.le_refl _)
      rcases hres with ⟨rfl, hh⟩ | ⟨l, gp, cp, rfl, hbr, hle, hown, hl5⟩
      · refine ⟨true, none, 0, 0, rfl, by omega, fun cd k pv W x_ y_ z_ hr hv hW => (HIC.out _ _).2 ⟨key W x_ y_ z_ hW, ?_⟩⟩
        rw [hhas, if_pos rfl]
        refine .inl ⟨cd, k, hh, hr, ?_⟩
        rcases hv with ⟨rfl, rfl⟩ | ⟨_, rfl⟩
        · rfl
        · rfl
      · refine ⟨false, some ⟨gp, 0, none⟩, l.length, cp, rfl, hl5, fun cd k pv W x_ y_ z_ hr hv hW => (HIC.out _ _).2 ⟨key W x_ y_ z_ hW, ?_⟩⟩
        rw [hhas, if_pos rfl]
        refine .inr ⟨l, gp, cp, cd, k, pv, hbr, hle, ?_, hl5, hr, rfl, hv⟩
        refine own_mono (own_moved (own_below hown hW) fun j hj _ => set3_heap W w.heap.size x_ y_ z_ j (by omega)) (by omega)
    have HG2 := hide (HGT.out.below hb2)
    have HN2 := hide ((HNA.out.below HB1.out).below hb2)
    have HKB := hide hkb
    have HUL := hide hul
    have hbm : bm < w2.heap.size := World.block_lt_of_cell? _ _ HN2.out.1
    have HNOW := hide (failsNow_any wA g S I us next row w2 HG2.out hul hS (by omega))
    clear hp hres hkb hbw2 hb2 HC1 HPD HGT HB1 HBA HNA hul hhas HIC
    go_wp2_with fail
    refine HNOW.out.mono ?_
    rintro e w3 ⟨f3, rfl, hr3, hf3, hb3⟩
    have HR3 := hide hr3
    have HB3 := hide hb3
    clear hr3 hb3 HNOW
    go_wp2_with fail
    go_loopw [12, 13] (fun fv kv wr => ∃ (j f : Nat), 1 ≤ j ∧ j ≤ most + 1 ∧ kv = .int .i64 (j : Int) ∧ fv = .slice (some ⟨f, 0, none⟩) S S ∧ Hid (BRow wr f (In.failsL next row S (j - 1)) []) ∧ Hid (Below w2.heap.size w2 wr) ∧ Hid (In.run (!hd) L (In.anyF next row S) (most + 1 - j) j = In.run (!hd) L (In.anyF next row S) most 1)) (fun _ kv _ => most + 1 - (intOf kv).toNat)
    case atStart => exact ⟨1, f3, Nat.le_refl _, by omega, rfl, rfl, HR3.out, HB3.out, (rfl : _ = _)⟩
    case round =>
      clear HR3 HB3
      obtain ⟨j, f, hj1, hj2, rfl, rfl, HR, HB, HRU⟩ := hrel
      have ub := (HB.out.block w.heap.size (by omega)).trans HKB.out
      have z0 : wr.cell? ⟨w.heap.size, 0, none⟩ = some (.int .i64 0) := by rw [Lib.cell_of_heap ub]; rfl
      have z1 : wr.cell? ⟨w.heap.size, 1, none⟩ = some (.int .i64 0) := by rw [Lib.cell_of_heap ub]; rfl
      have z2 : wr.cell? ⟨w.heap.size, 2, none⟩ = some (.slice none 0 0) := by rw [Lib.cell_of_heap ub]; rfl
      have f0 : wr.frozen? ⟨w.heap.size, 0, none⟩ = false := Lib.frozen_of_heap ub 0
      have f1 : wr.frozen? ⟨w.heap.size, 1, none⟩ = false := Lib.frozen_of_heap ub 1
      have f2 : wr.frozen? ⟨w.heap.size, 2, none⟩ = false := Lib.frozen_of_heap ub 2
      have UB := hide ub
      clear ub
      by_cases hle : j ≤ most
      · have hji : (j : Int) ≤ (most : Int) := by omega
        have HLT : Hid (∀ (hno : hd = false → ¬ L ≤ j), Calls Tryz.prog 21 #[.slice (some ⟨gN, 0, none⟩) S S, .slice (some ⟨g, 0, none⟩) S S, .slice (some ⟨f, 0, none⟩) S S] wr (Failed wr S (In.failsL next row S j))) := fun _ => by
          have h1 := failsLater_any wA bm g S I gN f (j - 1) us uN next row wr (HG2.out.below HB.out) HUL.out hS (by omega) (HN2.out.below HB.out) HNL.out HNX.out HR.out
          rw [show j - 1 + 1 = j by omega] at h1
          exact h1
        have m4 := (HN2.out.below HB.out).1
        cases hd with
        | false =>
          by_cases hLj : L ≤ j
          · have hLi : (L : Int) ≤ (j : Int) := by omega
            have HFI := hide (HFN.out 2 j (.slice a L c) wr (.int .i64 2) (.int .i64 (j : Int)) (.slice a L c) (by rw [← HRU.out]; exact In.run_ref _ _ _ _ (by omega) hLj) (.inl ⟨rfl, rfl⟩) HB.out)
            clear HLT
            go_wp2_with fail
            refine bodyPost_ret_by (v := .tuple #[vdV 2 j (.slice a L c), .nilIface]) ?_ rfl ?_
            · simp [results, Tryz.results8, go_sem, vdV, z0, z1, z2]
            · exact HFI.out
          · have hLi : ¬ (L : Int) ≤ (j : Int) := by omega
            have HLA := hide (HLT.out (fun _ => hLj))
            have HNO : Hid (¬ L ≤ j) := hLj
            clear HLT
            clear hLj
            go_wp2_with fail
            refine HLA.out.mono ?_
            rintro e w4 ⟨f4, rfl, hr4, hf4, hb4⟩
            have HR4 := hide hr4
            have HB4 := hide (HB.out.trans (hb4.mono HB.out.size))
            have HCO := hide (containsB_any _ true f4 S S w4 (In.failsL_len next row S j) (by omega) hr4)
            have HAF : Hid (In.anyF next row S j = (In.failsL next row S j).contains true) := by show _ = _; rfl
            have ub := (hb4.block w.heap.size (by have := HB.out.size; omega)).trans UB.out
            have y0 : w4.cell? ⟨w.heap.size, 0, none⟩ = some (.int .i64 0) := by rw [Lib.cell_of_heap ub]; rfl
            have y1 : w4.cell? ⟨w.heap.size, 1, none⟩ = some (.int .i64 0) := by rw [Lib.cell_of_heap ub]; rfl
            have y2 : w4.cell? ⟨w.heap.size, 2, none⟩ = some (.slice none 0 0) := by rw [Lib.cell_of_heap ub]; rfl
            have g0 : w4.frozen? ⟨w.heap.size, 0, none⟩ = false := Lib.frozen_of_heap ub 0
            have g1 : w4.frozen? ⟨w.heap.size, 1, none⟩ = false := Lib.frozen_of_heap ub 1
            have g2 : w4.frozen? ⟨w.heap.size, 2, none⟩ = false := Lib.frozen_of_heap ub 2
            clear hr4 hb4 HLA ub m4 z0 z1 z2 f0 f1 f2
            generalize (In.failsL next row S j).contains true = y at *
            go_wp2_with fail
            refine HCO.out.mono ?_
            rintro e w5 ⟨rfl, rfl⟩
            clear HCO
            cases y with
            | false =>
              have HFI := hide (HFN.out 1 j (.slice none 0 0) w5 (.int .i64 1) (.int .i64 (j : Int)) (.slice none 0 0) (by rw [← HRU.out]; exact In.run_prv _ _ _ _ _ (by omega) (fun _ => HNO.out) HAF.out) (.inr ⟨by decide, rfl⟩) HB4.out)
              go_wp2_with fail
              refine bodyPost_ret_by (v := .tuple #[vdV 1 j (.slice none 0 0), .nilIface]) ?_ rfl ?_
              · simp [results, Tryz.results8, go_sem, vdV, y0, y1, y2]
              · exact HFI.out
            | true =>
              have HRN : Hid (In.run (!false) L (In.anyF next row S) (most + 1 - (j + 1)) (j + 1) = In.run (!false) L (In.anyF next row S) most 1) := by
                show _ = _
                rw [← HRU.out, In.run_go _ _ _ _ _ (by omega) (fun _ => HNO.out) HAF.out]
                rfl
              go_wp2_with fail
              go_roundw
              case rel => exact ⟨j + 1, f4, by omega, by omega, by go_num, rfl, HR4.out, HB4.out, HRN.out⟩
              case measure => simp [intOf]; omega
        | true =>
          have HLA := hide (HLT.out (fun h => by cases h))
          clear HLT
          go_wp2_with fail
          refine HLA.out.mono ?_
          rintro e w4 ⟨f4, rfl, hr4, hf4, hb4⟩
          have HR4 := hide hr4
          have HB4 := hide (HB.out.trans (hb4.mono HB.out.size))
          have HCO := hide (containsB_any _ true f4 S S w4 (In.failsL_len next row S j) (by omega) hr4)
          have HAF : Hid (In.anyF next row S j = (In.failsL next row S j).contains true) := by show _ = _; rfl
          have ub := (hb4.block w.heap.size (by have := HB.out.size; omega)).trans UB.out
          have y0 : w4.cell? ⟨w.heap.size, 0, none⟩ = some (.int .i64 0) := by rw [Lib.cell_of_heap ub]; rfl
          have y1 : w4.cell? ⟨w.heap.size, 1, none⟩ = some (.int .i64 0) := by rw [Lib.cell_of_heap ub]; rfl
          have y2 : w4.cell? ⟨w.heap.size, 2, none⟩ = some (.slice none 0 0) := by rw [Lib.cell_of_heap ub]; rfl
          have g0 : w4.frozen? ⟨w.heap.size, 0, none⟩ = false := Lib.frozen_of_heap ub 0
          have g1 : w4.frozen? ⟨w.heap.size, 1, none⟩ = false := Lib.frozen_of_heap ub 1
          have g2 : w4.frozen? ⟨w.heap.size, 2, none⟩ = false := Lib.frozen_of_heap ub 2
          clear hr4 hb4 HLA ub m4 z0 z1 z2 f0 f1 f2
          generalize (In.failsL next row S j).contains true = y at *
          go_wp2_with fail
          refine HCO.out.mono ?_
          rintro e w5 ⟨rfl, rfl⟩
          clear HCO
          cases y with
          | false =>
            have HFI := hide (HFN.out 1 j (.slice none 0 0) w5 (.int .i64 1) (.int .i64 (j : Int)) (.slice none 0 0) (by rw [← HRU.out]; exact In.run_prv _ _ _ _ _ (by omega) (fun h => by cases h) HAF.out) (.inr ⟨by decide, rfl⟩) HB4.out)
            go_wp2_with fail
            refine bodyPost_ret_by (v := .tuple #[vdV 1 j (.slice none 0 0), .nilIface]) ?_ rfl ?_
            · simp [results, Tryz.results8, go_sem, vdV, y0, y1, y2]
            · exact HFI.out
          | true =>
            have HRN : Hid (In.run (!true) L (In.anyF next row S) (most + 1 - (j + 1)) (j + 1) = In.run (!true) L (In.anyF next row S) most 1) := by
              show _ = _
              rw [← HRU.out, In.run_go _ _ _ _ _ (by omega) (fun h => by cases h) HAF.out]
              rfl
            go_wp2_with fail
            go_roundw
            case rel => exact ⟨j + 1, f4, by omega, by omega, by go_num, rfl, HR4.out, HB4.out, HRN.out⟩
            case measure => simp [intOf]; omega
      · have hjm : j = most + 1 := by omega
        have hji : ¬ (j : Int) ≤ (most : Int) := by omega
        have HFI := hide (HFN.out 3 most (.slice none 0 0) wr (.int .i64 3) (.int .i64 (most : Int)) (.slice none 0 0) (by rw [← HRU.out, hjm, Nat.sub_self]; rfl) (.inr ⟨by decide, rfl⟩) HB.out)
        go_wp2_with fail
        refine bodyPost_ret_by (v := .tuple #[vdV 3 most (.slice none 0 0), .nilIface]) ?_ rfl ?_
        · simp [results, Tryz.results8, go_sem, vdV, z0, z1, z2]
        · exact HFI.out
end
end Go.Proofs.YtjlkjhmmbaljiaaGreatDoor
