/-
  The walks of package prop's Check and of its closure. How far states are, told by what holds of it: there is but one such table. Slices of slices of numbers in memory. The walk of the document's Far. The walks of the document's before and Paths. The walk of the document's Paths.
-/
import Derived.Test.YtgldbliohpfljaaGreatDoorPrGoodAll
import Derived.Test.YtgldbliohpfljaaGreatDoorRcNextAll
import Derived.Test.YtgldbliohpfljaaGreatDoorRlEdgesAll
import Derived.Test.YtgldbliohpfljaaGreatDoorRfStateMAll
import Derived.Test.YtgldbliohpfljaaGreatDoorMcOffAll
import Derived.Test.YtgldbliohpfljaaGreatDoorNaEdgesAll
import Derived.Deep.LoopGhost
import Derived.Test.YtgldbliohpfljaaGreatDoorRlStayAll
import Derived.Deep.QuietTactic
import Derived.BigQuiet
namespace Go.Proofs.YtgldbliohpfljaaGreatDoor
section
open Go.RowKit
namespace Pr
/-- how long one waits where nothing is asked for but always -/
def wtC (row : Nat → List Bool) (p : Nat × Nat) (i : Nat) : Nat := waits 0 true ((row p.1).getD i false)
end Pr
set_option maxHeartbeats 2000000 in
set_option maxRecDepth 100000 in
theorem check1_any (w0 : World) (bg g S I : Nat) (us : List Nat) (row : Nat → List Bool) (p : Nat × Nat) (i : Nat) (w : World) (hc : w.cell? ⟨bg, 0, none⟩ = some (.slice (some ⟨g, 0, none⟩) S S)) (h : GT w0 g S I us row w) (hus : us.length = S) (hp : p.1 < S) (hi : i < I) :
    Calls Tryz.prog 40 #[.agg #[.int .i64 (p.1 : Int), .int .i64 (p.2 : Int)], .int .i64 (i : Int), .pointer (some ⟨bg, 0, none⟩)] w fun e w' => e = .returned (.int .i64 (Pr.wtC row p i : Int)) ∧ Below w.heap.size w w' := by
  obtain ⟨b, hb⟩ : ∃ b, us[p.1]? = some b := ⟨_, List.getElem?_eq_getElem (by omega)⟩
  obtain ⟨hr, _⟩ := h.rows _ b hb
  have hl := h.len p.1 (by omega)
  have r0 := h.top.cell p.1 (.slice (some ⟨b, 0, none⟩) I I) (by rw [List.getElem?_append_left (by simp; omega), List.getElem?_map, hb]; rfl)
  have r1 := hr.cell i _ (show (row p.1)[i]? = some ((row p.1).getD i false) by rw [List.getD_eq_getElem?_getD, List.getElem?_eq_getElem (by omega)]; rfl)
  obtain ⟨x, hx⟩ : ∃ x, x = (row p.1).getD i false := ⟨_, rfl⟩
  rw [← hx] at r1
  have HWT : Hid (Pr.wtC row p i = Pr.waits 0 true x) := by show _ = _; rw [hx]; rfl
  have hbl : bg < w.heap.size := World.block_lt_of_cell? _ _ hc
  have hgl : g < w.heap.size := World.block_lt_of_cell? _ _ r0
  have hbl2 : b < w.heap.size := World.block_lt_of_cell? _ _ r1
  have hpi : (p.1 : Int) < (S : Int) := by omega
  have hii : (i : Int) < (I : Int) := by omega
  have HW := hide (fun W => waits_any 0 true x W (by omega))
  have HB : Hid (∀ o, Below w.heap.size w (w.alloc o)) := fun o => (Below.refl _ _).alloc (Nat.le_refl _) _
  clear hb hr hl hx h
  go_enter Tryz.func40, Tryz.ntmps40
  go_wp2_with fail
  refine (HW.out _).mono ?_
  rintro e w' ⟨rfl, rfl⟩
  go_wp2_with fail
  go_ret
  exact ⟨by rw [HWT.out]; rfl, HB.out _⟩
/-- what Check and Answers come to, where there is no error -/
def SaidT (w : World) (next : Nat → List Nat) (wt : Nat × Nat → Nat → Nat) (most : Nat) (e : Ending) (w' : World) : Prop := (e = .returned (.tuple #[.bool true, .slice none 0 0, .nilIface]) ∧ Pr.Held next wt most) ∨ ∃ l g c, e = .returned (.tuple #[.bool false, .slice (some ⟨g, 0, none⟩) l.length c, .nilIface]) ∧ Pr.Broke next wt most l ∧ Pr.Least next wt most l ∧ w'.ownsRow w.heap.size 3 1 (.slice (some ⟨g, 0, none⟩) l.length c) l.length (l.map natV) ∧ l.length ≤ 100001
/-- what Check comes to -/
def PChecked (w : World) (p : Ld.Prg) (x : Ex) (e : Ending) (w' : World) : Prop := Below w.heap.size w w' ∧ (if Pr.has p.names x then SaidT w (Mc.nexts p) (Pr.wtC (Pr.goodRow p x (2 ^ (Ld.kindL p.names 1).length))) 0 e w' else e = .returned (.tuple #[.bool false, .slice none 0 0, .iface 40 (.int .i64 7)]))
theorem SaidT.of {w w2 w3 : World} {next : Nat → List Nat} {wt : Nat × Nat → Nat → Nat} {most : Nat} {e : Ending} (hz : w.heap.size ≤ w2.heap.size) (h : Searched w2 next wt most e w3) : (e = .returned (.tuple #[.bool true, .slice none 0 0]) ∧ SaidT w next wt most (.returned (.tuple #[.bool true, .slice none 0 0, .nilIface])) w3) ∨ ∃ g n c, e = .returned (.tuple #[.bool false, .slice (some ⟨g, 0, none⟩) n c]) ∧ SaidT w next wt most (.returned (.tuple #[.bool false, .slice (some ⟨g, 0, none⟩) n c, .nilIface])) w3 := by
  obtain ⟨_, ⟨h1, h2⟩ | ⟨l, g, c, h1, h2, h5, h3, h4⟩⟩ := h
  · exact .inl ⟨h1, .inl ⟨rfl, h2⟩⟩
  · exact .inr ⟨g, l.length, c, h1, .inr ⟨l, g, c, rfl, h2, h5, own_mono h3 hz, h4⟩⟩
set_option maxHeartbeats 4000000 in
set_option maxRecDepth 100000 in
theorem PCheck_any (ok : Nat → Prop) (bm : Nat) (p : Ld.Prg) (x : Ex) (v : Value) (w : World) (hm : IsMach w bm p) (hck : Ld.check p = none) (hS : Mc.total (Mc.parts p) ≤ 4096) (hq : (Ld.kindL p.names 1).length ≤ 6) (h : IsEx ok w x v) (hlen : x.size ≤ 1000000) :
    Calls Tryz.prog 11 #[.pointer (some ⟨bm, 0, none⟩), v] w (PChecked w p x) := by
  have hmf : ∀ (fn : Fn) (first cap : Array Value) (w : World), (Instr.makeFunc fn first cap).run Tryz.prog w = .ok (.func fn first cap) w := fun _ _ _ _ => rfl
  have HG := hide (Good_any ok bm p x v w hm hck hS hq h hlen)
  obtain ⟨gN, uN, hna⟩ := hm.next
  have HNA := hide hna
  have hS1 := Mc.total_pos (Mc.parts p) (Mc.parts_ok p)
  have hI6 : 2 ^ (Ld.kindL p.names 1).length ≤ 64 := Nat.pow_le_pow_right (n := 2) (by decide) hq
  have HNL := hide (fun s => Mc.nexts_len p s)
  have HNX : Hid (∀ f s, f < Mc.total (Mc.parts p) → s ∈ Mc.nexts p f → s < Mc.total (Mc.parts p)) := fun f s _ hs => Mc.nexts_lt p hck f s hs
  have HPC : Hid (∀ e w', PChecked w p x e w' ↔ (Below w.heap.size w w' ∧ (if Pr.has p.names x then SaidT w (Mc.nexts p) (Pr.wtC (Pr.goodRow p x (2 ^ (Ld.kindL p.names 1).length))) 0 e w' else e = .returned (.tuple #[.bool false, .slice none 0 0, .iface 40 (.int .i64 7)])))) := fun _ _ => Iff.rfl
  have HGD : Hid (∀ e w', Gooded w p x e w' → (Below w.heap.size w w' ∧ (if Pr.has p.names x then ∃ g us, e = .returned (.tuple #[.slice (some ⟨g, 0, none⟩) (Mc.total (Mc.parts p)) (Mc.total (Mc.parts p)), .nilIface]) ∧ us.length = Mc.total (Mc.parts p) ∧ GT w g (Mc.total (Mc.parts p)) (2 ^ (Ld.kindL p.names 1).length) us (Pr.goodRow p x (2 ^ (Ld.kindL p.names 1).length)) w' else e = .returned (.tuple #[.slice none 0 0, .iface 40 (.int .i64 7)])))) := fun _ _ h => h
  obtain ⟨tu, yu, rfl⟩ := IsEx.iface x v h
  clear hna h hm hq hck
  generalize hrw : Pr.goodRow p x (2 ^ (Ld.kindL p.names 1).length) = row at *
  generalize Mc.total (Mc.parts p) = S at *
  generalize 2 ^ (Ld.kindL p.names 1).length = I at *
  clear hrw
  go_enter Tryz.func11, Tryz.ntmps11
  go_wp2_with fail
  refine HG.out.mono ?_
  intro e w1 hg
  obtain ⟨hb1, hres⟩ := HGD.out e w1 hg
  clear hg HG HGD
  cases hhas : Pr.has p.names x with
  | false =>
    rw [hhas, if_neg Bool.false_ne_true] at hres
    obtain rfl := hres
    have HFN : Hid (∀ o, PChecked w p x (.returned (.tuple #[.bool false, .slice none 0 0, .iface 40 (.int .i64 7)])) (w1.alloc o)) := fun o => by
      refine (HPC.out _ _).2 ⟨hb1.alloc hb1.size _, ?_⟩
      rw [hhas, if_neg Bool.false_ne_true]
    clear hb1
    go_wp2_with fail
    refine bodyPost_ret (results_tmp3 rfl _ _ _) rfl ?_
    exact HFN.out _
  | true =>
    rw [hhas, if_pos rfl] at hres
    obtain ⟨g, us, rfl, hul, hgt⟩ := hres
    obtain ⟨w2, hw2⟩ : ∃ w2, w2 = w1.alloc (.cells #[.slice (some ⟨g, 0, none⟩) S S] 31) := ⟨_, rfl⟩
    have hb12 : Below w1.heap.size w1 w2 := by rw [hw2]; exact (Below.refl _ _).alloc (Nat.le_refl _) _
    have hb2 : Below w.heap.size w w2 := by rw [hw2]; exact hb1.alloc hb1.size _
    have hc2 : w2.cell? ⟨w1.heap.size, 0, none⟩ = some (.slice (some ⟨g, 0, none⟩) S S) := by rw [hw2]; exact Lib.cell_of_heap (heap_alloc_new w1 _) 0
    have hl2 : w1.heap.size < w2.heap.size := by rw [hw2]; simp
    have hgt2 := hgt.below hb12
    have HWA : Hid (Waiting w2 S 0 I (.func (.func 40) #[] #[.pointer (some ⟨w1.heap.size, 0, none⟩)]) (Pr.wtC row)) :=
      ⟨40, _, rfl, fun _ _ => by kernel_rfl, fun q i W hW hq1 _ hi => check1_any w w1.heap.size g S I us row q i W ((hW.cell (p := ⟨w1.heap.size, 0, none⟩) hl2).trans hc2) (hgt2.below hW) hul hq1 hi⟩
    have HSR : Hid (Calls Tryz.prog 39 #[.pointer (some ⟨bm, 0, none⟩), .int .i64 0, .func (.func 40) #[] #[.pointer (some ⟨w1.heap.size, 0, none⟩)]] w2 (Searched w2 (Mc.nexts p) (Pr.wtC row) 0)) :=
      search_any bm S I gN 0 (Mc.nexts p) uN _ _ w2 (HNA.out.below hb2) hS1 hS hI6 (by decide) HNL.out HNX.out HWA.out (fun q i _ => by unfold Pr.wtC Pr.waits; split <;> omega)
    have HFN : Hid (∀ e w3, Searched w2 (Mc.nexts p) (Pr.wtC row) 0 e w3 → (e = .returned (.tuple #[.bool true, .slice none 0 0]) ∧ PChecked w p x (.returned (.tuple #[.bool true, .slice none 0 0, .nilIface])) w3) ∨ ∃ g n c, e = .returned (.tuple #[.bool false, .slice (some ⟨g, 0, none⟩) n c]) ∧ PChecked w p x (.returned (.tuple #[.bool false, .slice (some ⟨g, 0, none⟩) n c, .nilIface])) w3) := fun e w3 hs => by
      have hb3 : Below w.heap.size w w3 := hb2.trans (hs.1.mono hb2.size)
      rcases SaidT.of hb2.size hs with ⟨h1, h2⟩ | ⟨g, n, c, h1, h2⟩
      · refine .inl ⟨h1, (HPC.out _ _).2 ⟨hb3, ?_⟩⟩
        rw [hhas, if_pos rfl]; exact h2
      · refine .inr ⟨g, n, c, h1, (HPC.out _ _).2 ⟨hb3, ?_⟩⟩
        rw [hhas, if_pos rfl]; exact h2
    rw [hw2] at HSR
    have HW2 := hide hw2
    clear hw2 hb12 hb2 hc2 hl2 hgt2 HWA hgt hul hb1 HPC
    go_wp2_with fail
    refine HSR.out.mono ?_
    rw [← HW2.out]
    intro e w3 hs
    rcases HFN.out e w3 hs with ⟨rfl, h1⟩ | ⟨g3, n3, c3, rfl, h1⟩
    · have H1 := hide h1
      clear h1 hs HSR HFN
      go_wp2_with fail
      refine bodyPost_ret (results_tmp3 rfl _ _ _) rfl ?_
      exact H1.out
    · have H1 := hide h1
      clear h1 hs HSR HFN
      go_wp2_with fail
      refine bodyPost_ret (results_tmp3 rfl _ _ _) rfl ?_
      exact H1.out
end
section
namespace Rf
/-- d tells how far each state is -/
structure Dist (next : Nat → List Nat) (S : Nat) (d : Nat → Int) : Prop where
  low : ∀ s, s < S → d s = -1 ∨ 0 ≤ d s
  zero : d 0 = 0
  one : ∀ s, s < S → d s = 0 → s = 0
  par : ∀ s, s < S → 0 < d s → ∃ t, t < S ∧ d t = d s - 1 ∧ s ∈ next t
  near : ∀ t u, t < S → 0 ≤ d t → u ∈ next t → 0 ≤ d u ∧ d u ≤ d t + 1
theorem Dist.le {next : Nat → List Nat} {S : Nat} {d e : Nat → Int} (h : Dist next S d) (k : Dist next S e) : ∀ (n s : Nat), s < S → d s = (n : Int) → 0 ≤ e s ∧ e s ≤ (n : Int)
  | 0, s, hs, hd => by
    have := h.one s hs hd
    subst this
    rw [k.zero]
    omega
  | n + 1, s, hs, hd => by
    obtain ⟨t, ht, h1, h2⟩ := h.par s hs (by omega)
    have h3 := Dist.le h k n t ht (by omega)
    have h4 := k.near t s ht h3.1 h2
    omega
theorem Dist.same {next : Nat → List Nat} {S : Nat} {d e : Nat → Int} (h : Dist next S d) (k : Dist next S e) (s : Nat) (hs : s < S) : d s = e s := by
  rcases h.low s hs with h1 | h1
  · rcases k.low s hs with h2 | h2
    · omega
    · have := Dist.le k h (e s).toNat s hs (by omega)
      omega
  · have h2 := Dist.le h k (d s).toNat s hs (by omega)
    have h3 := Dist.le k h (e s).toNat s hs (by omega)
    omega
theorem dist_walk (next : Nat → List Nat) (S : Nat) (hS : 1 ≤ S) (hn : ∀ f s, f < S → s ∈ next f → s < S) : Dist next S (fun s => ((Rc.walk next S).at_ s).far) := by
  have h := Rc.walk_far next S hS hn
  refine ⟨fun s hs => ?_, h.zero, h.one, fun s hs h0 => ?_, h.near⟩
  · obtain ⟨h1, _, h2⟩ := h.low s hs
    by_cases h3 : (Rc.Qu.at_ (Rc.walk next S) s).far < 0
    · exact .inl (h2 h3)
    · exact .inr (by omega)
  · obtain ⟨h1, h2, h3⟩ := h.par s hs h0
    exact ⟨_, h1, h2, List.mem_of_getElem? h3⟩
/-- while level d is looked at: of its states the first s, and of state s the first i inputs -/
structure Level (next : Nat → List Nat) (S : Nat) (out : List Int) (d s i : Nat) (more : Bool) : Prop where
  len : out.length = S
  low : ∀ t, t < S → out.getD t 0 = -1 ∨ (0 ≤ out.getD t 0 ∧ out.getD t 0 ≤ (d : Int) + 1)
  zero : out.getD 0 0 = 0
  one : ∀ t, t < S → out.getD t 0 = 0 → t = 0
  par : ∀ t, t < S → 0 < out.getD t 0 → ∃ u, u < S ∧ out.getD u 0 = out.getD t 0 - 1 ∧ t ∈ next u
  past : ∀ t u, t < S → 0 ≤ out.getD t 0 → out.getD t 0 < (d : Int) → u ∈ next t → 0 ≤ out.getD u 0 ∧ out.getD u 0 ≤ out.getD t 0 + 1
  here : ∀ t u, t < s → out.getD t 0 = (d : Int) → u ∈ next t → 0 ≤ out.getD u 0 ∧ out.getD u 0 ≤ (d : Int) + 1
  now : out.getD s 0 = (d : Int) → ∀ (k u : Nat), k < i → (next s)[k]? = some u → 0 ≤ out.getD u 0 ∧ out.getD u 0 ≤ (d : Int) + 1
  more_ : more = false → ∀ t, t < S → out.getD t 0 ≤ (d : Int)
theorem getD_setI (l : List Int) (n : Nat) (v : Int) (j : Nat) : (l.set n v).getD j 0 = if j = n ∧ n < l.length then v else l.getD j 0 := by
  rw [List.getD_eq_getElem?_getD, List.getD_eq_getElem?_getD, List.getElem?_set]
  by_cases h : n = j
  · subst h
    by_cases h2 : n < l.length
    · simp [h2]
    · simp [h2]
  · rw [if_neg h, if_neg (fun e => h e.1.symm)]
/-- one more input of a state: what it leads to was come to -/
theorem Level.pass {next : Nat → List Nat} {S : Nat} {out : List Int} {d s i t : Nat} {more : Bool} (h : Level next S out d s i more) (ht : (next s)[i]? = some t) (htS : t < S) (h0 : ¬ out.getD t 0 < 0) : Level next S out d s (i + 1) more :=
  ⟨h.len, h.low, h.zero, h.one, h.par, h.past, h.here, fun hd k u hk hu => by
    by_cases e : k = i
    · subst e
      rw [ht] at hu
      cases hu
      rcases h.low t htS with h1 | h1
      · omega
      · exact h1
    · exact h.now hd k u (by omega) hu, h.more_⟩
/-- .. was not -/
theorem Level.put {next : Nat → List Nat} {S : Nat} {out : List Int} {d s i t : Nat} {more : Bool} (h : Level next S out d s i more) (hs : s < S) (hd : out.getD s 0 = (d : Int)) (ht : (next s)[i]? = some t) (htS : t < S) (h0 : out.getD t 0 < 0) : Level next S (out.set t ((d : Int) + 1)) d s (i + 1) true := by
  have hg : ∀ j, (out.set t ((d : Int) + 1)).getD j 0 = if j = t then (d : Int) + 1 else out.getD j 0 := fun j => by
    rw [getD_setI]
    have := h.len
    by_cases e : j = t
    · rw [if_pos ⟨e, by omega⟩, if_pos e]
    · rw [if_neg (fun h => e h.1), if_neg e]
  have hst : s ≠ t := fun e => by rw [e] at hd; omega
  have keep : ∀ u, 0 ≤ out.getD u 0 → (out.set t ((d : Int) + 1)).getD u 0 = out.getD u 0 := fun u hu => by
    rw [hg, if_neg (fun e => by rw [e] at hu; omega)]
  have up : ∀ u b, 0 ≤ out.getD u 0 ∧ out.getD u 0 ≤ b → 0 ≤ (out.set t ((d : Int) + 1)).getD u 0 ∧ (out.set t ((d : Int) + 1)).getD u 0 ≤ b := fun u b hu => by rw [keep u hu.1]; exact hu
  refine ⟨by simp [h.len], fun j hj => ?_, ?_, fun j hj => ?_, fun j hj => ?_, fun j u hj h1 h2 hu => ?_, fun j u hj h1 hu => ?_, fun _ k u hk hu => ?_, fun e => by cases e⟩
  · rw [hg]
    split
    · exact .inr (by omega)
    · exact h.low j hj
  · rw [keep 0 (by rw [h.zero]; omega)]; exact h.zero
  · rw [hg]
    split
    · intro e; omega
    · exact h.one j hj
  · intro h1
    by_cases e : j = t
    · rw [hg j, if_pos e]
      exact ⟨s, hs, by rw [keep s (by omega), hd]; omega, by rw [e]; exact List.mem_of_getElem? ht⟩
    · rw [hg j, if_neg e] at h1 ⊢
      obtain ⟨u, hu, h2, h3⟩ := h.par j hj h1
      exact ⟨u, hu, by rw [keep u (by omega)]; exact h2, h3⟩
  · by_cases e : j = t
    · rw [hg j, if_pos e] at h2
      omega
    · rw [hg j, if_neg e] at h1 h2 ⊢
      exact up u _ (h.past j u hj h1 h2 hu)
  · rw [hg] at h1
    split at h1
    · omega
    · exact up u _ (h.here j u hj h1 hu)
  · by_cases e : k = i
    · subst e
      rw [ht] at hu
      cases hu
      rw [hg, if_pos rfl]
      omega
    · exact up u _ (h.now hd k u (by omega) hu)
/-- a state is looked at, or is of another level -/
theorem Level.next {next : Nat → List Nat} {S : Nat} {out : List Int} {d s i : Nat} {more : Bool} (h : Level next S out d s i more) (hi : out.getD s 0 = (d : Int) → (next s).length ≤ i) : Level next S out d (s + 1) 0 more :=
  ⟨h.len, h.low, h.zero, h.one, h.par, h.past, fun t u ht hd hu => by
    by_cases e : t = s
    · subst e
      obtain ⟨k, hk, rfl⟩ := List.getElem_of_mem hu
      exact h.now hd k _ (by have := hi hd; omega) (List.getElem?_eq_getElem hk)
    · exact h.here t u (by omega) hd hu, fun _ k u hk => absurd hk (Nat.not_lt_zero _), h.more_⟩
/-- the next level -/
theorem Level.deeper {next : Nat → List Nat} {S : Nat} {out : List Int} {d : Nat} {more : Bool} (h : Level next S out d S 0 more) : Level next S out (d + 1) 0 0 false := by
  refine ⟨h.len, fun t ht => ?_, h.zero, h.one, h.par, fun t u ht h0 h1 hu => ?_, fun t u ht => absurd ht (Nat.not_lt_zero _), fun _ k u hk => absurd hk (Nat.not_lt_zero _), fun _ t ht => ?_⟩
  · rcases h.low t ht with h1 | h1
    · exact .inl h1
    · exact .inr ⟨h1.1, by omega⟩
  · by_cases e : out.getD t 0 = (d : Int)
    · have := h.here t u ht e hu
      omega
    · exact h.past t u ht h0 (by omega) hu
  · rcases h.low t ht with h1 | h1 <;> omega
/-- the start -/
theorem Level.begin (next : Nat → List Nat) (S : Nat) (hS : 1 ≤ S) : Level next S ((List.replicate S (-1 : Int)).set 0 0) 0 0 0 false := by
  have hg : ∀ j, j < S → ((List.replicate S (-1 : Int)).set 0 0).getD j 0 = if j = 0 then 0 else -1 := fun j hj => by
    rw [getD_setI]
    by_cases e : j = 0
    · rw [if_pos ⟨e, by simp; omega⟩, if_pos e]
    · rw [if_neg (fun h => e h.1), if_neg e, List.getD_eq_getElem?_getD, List.getElem?_replicate, if_pos hj]
      rfl
  refine ⟨by simp, fun t ht => ?_, ?_, fun t ht => ?_, fun t ht => ?_, fun t u ht h0 h1 => ?_, fun t u ht => absurd ht (Nat.not_lt_zero _), fun _ k u hk => absurd hk (Nat.not_lt_zero _), fun _ t ht => ?_⟩
  · rw [hg t ht]; split <;> simp
  · rw [hg 0 (by omega)]; rfl
  · rw [hg t ht]; split
    · intro _; assumption
    · intro e; omega
  · rw [hg t ht]; split <;> (intro e; omega)
  · omega
  · rw [hg t ht]; split <;> simp
/-- where nothing more was found, all is told -/
theorem Level.done {next : Nat → List Nat} {S : Nat} {out : List Int} {d : Nat} (h : Level next S out d S 0 false) : Dist next S (fun s => out.getD s 0) :=
  ⟨fun s hs => by
    rcases h.low s hs with h1 | h1
    · exact .inl h1
    · exact .inr h1.1, h.zero, h.one, h.par, fun t u ht h0 hu => by
    have h1 := h.more_ rfl t ht
    by_cases e : out.getD t 0 = (d : Int)
    · have := h.here t u ht e hu
      exact ⟨this.1, by show out.getD u 0 ≤ out.getD t 0 + 1; omega⟩
    · exact h.past t u ht h0 (by omega) hu⟩
end Rf
end
section
namespace Rf
open Go.RowKit
def RowsI (W : World) (v : Value) (L : List (List Int)) : Prop :=
  (L = [] ∧ ∃ a cap, v = .slice a 0 cap) ∨ ∃ g cap, v = .slice (some ⟨g, 0, none⟩) L.length cap ∧ L.length ≤ cap ∧ ∀ (k : Nat) r, L[k]? = some r → ∃ u, W.cell? ⟨g, k, none⟩ = some u ∧ Ints W u r
theorem RowsI.below {W W' : World} {v : Value} {L : List (List Int)} (h : RowsI W v L) (hb : Below W.heap.size W W') : RowsI W' v L := by
  rcases h with h | ⟨g, cap, h1, h2, h3⟩
  · exact .inl h
  · refine .inr ⟨g, cap, h1, h2, fun k r hr => ?_⟩
    obtain ⟨u, h4, h5⟩ := h3 k r hr
    exact ⟨u, (hb.cell (World.block_lt_of_cell? _ _ h4)).trans h4, h5.below hb⟩
theorem RowsI.slice {W : World} {v : Value} {L : List (List Int)} (h : RowsI W v L) : ∃ a c, v = .slice a L.length c := by
  rcases h with ⟨rfl, a, c, rfl⟩ | ⟨g, cap, h1, _⟩
  · exact ⟨a, c, rfl⟩
  · exact ⟨_, _, h1⟩
theorem RowsI.at_ {W : World} {a : Option Addr} {n c : Nat} {L : List (List Int)} (h : RowsI W (.slice a n c) L) (k : Nat) (r : List Int) (hr : L[k]? = some r) : ∃ g u, a = some ⟨g, 0, none⟩ ∧ n ≤ c ∧ W.cell? ⟨g, k, none⟩ = some u ∧ Ints W u r := by
  rcases h with ⟨h0, _⟩ | ⟨g, cap, h1, h2, h3⟩
  · rw [h0] at hr; simp at hr
  · simp only [Value.slice.injEq] at h1
    obtain ⟨u, h4, h5⟩ := h3 k r hr
    exact ⟨g, u, h1.1, by rw [h1.2.1, h1.2.2]; exact h2, h4, h5⟩
def asI (l : List Nat) : List Int := l.map fun i : Nat => (i : Int)
theorem ints_nat {W : World} {q : Nat} {v : Value} {l : List Nat} (h : W.ownsRow q 3 1 v l.length (l.map intV)) (hl : ∀ i, i ∈ l → i ≤ 1000000) : Ints W v (asI l) := by
  rcases h.2 with ⟨rfl, h0⟩ | ⟨g, cap, cur, rfl, _, hcur, hcap, _, _, htk⟩
  · exact .inl ⟨by rw [List.length_eq_zero_iff.1 h0]; rfl, _, _, rfl⟩
  · refine .inr ⟨g, 0, cap, by simp [asI], by simpa [asI] using hcap, fun k x hx => ?_⟩
    unfold asI at hx
    rw [List.getElem?_map] at hx
    cases hk : l[k]? with
    | none => rw [hk] at hx; cases hx
    | some i =>
      rw [hk] at hx
      simp only [Option.map_some, Option.some.injEq] at hx
      subst hx
      have := hl i (List.mem_of_getElem? hk)
      exact ⟨by rw [Nat.zero_add]; exact row_cell hcur htk (by rw [List.getElem?_map, hk]; rfl), by unfold I64; omega⟩
theorem IntR.rowsI {q : Nat} {W : World} {o : Value} {us : List Value} {bs : List (List Nat)} (h : IntR q W o us bs) (hl : ∀ b, b ∈ bs → ∀ i, i ∈ b → i ≤ 1000000) : RowsI W o (bs.map asI) := by
  rcases h.own.2 with ⟨rfl, h0⟩ | ⟨g, cap, cur, rfl, _, hcur, hcap, _, _, htk⟩
  · exact .inl ⟨by rw [List.length_eq_zero_iff.1 h0]; rfl, _, _, rfl⟩
  · refine .inr ⟨g, cap, by simp, by simpa using hcap, fun i b hb => ?_⟩
    rw [List.getElem?_map] at hb
    cases hk : bs[i]? with
    | none => rw [hk] at hb; cases hb
    | some x =>
      rw [hk] at hb
      simp only [Option.map_some, Option.some.injEq] at hb
      subst hb
      have hil : i < us.length := by rw [h.len]; exact (List.getElem?_eq_some_iff.1 hk).1
      exact ⟨us[i], row_cell hcur htk (List.getElem?_eq_getElem hil), ints_nat (h.at_ i _ x (List.getElem?_eq_getElem hil) hk) (hl x (List.mem_of_getElem? hk))⟩
/-- a table of rows tells lists -/
theorem LL.rowsI {W : World} {g m n lo : Nat} {us : List Nat} {rows : Nat → List Value} {L : List (List Nat)} (h : LL W g 36 3 m n lo us rows) (hul : us.length = m) (hm : L.length = m) (hr : ∀ (s : Nat) (r : List Nat), L[s]? = some r → rows s = r.map intV ∧ r.length = n) (hl : ∀ b, b ∈ L → ∀ i, i ∈ b → i ≤ 1000000) : RowsI W (slV g m) (L.map asI) := by
  refine .inr ⟨g, m, by simp [slV, hm], by simp [hm], fun i b hb => ?_⟩
  rw [List.getElem?_map] at hb
  cases hk : L[i]? with
  | none => rw [hk] at hb; cases hb
  | some x =>
    rw [hk] at hb
    simp only [Option.map_some, Option.some.injEq] at hb
    subst hb
    have hil : i < us.length := by have := (List.getElem?_eq_some_iff.1 hk).1; omega
    obtain ⟨e1, e2⟩ := hr i x hk
    have hc := h.cell i us[i] (List.getElem?_eq_getElem hil)
    refine ⟨_, hc, ?_⟩
    have hrow := (h.row i us[i] (List.getElem?_eq_getElem hil)).1
    rw [e1] at hrow
    refine .inr ⟨us[i], 0, n, by simp [slV, asI, e2], by simp [asI, e2], fun k y hy => ?_⟩
    unfold asI at hy
    rw [List.getElem?_map] at hy
    cases hk2 : x[k]? with
    | none => rw [hk2] at hy; cases hy
    | some j =>
      rw [hk2] at hy
      simp only [Option.map_some, Option.some.injEq] at hy
      subst hy
      have := hl x (List.mem_of_getElem? hk) j (List.mem_of_getElem? hk2)
      exact ⟨by rw [Nat.zero_add]; exact hrow.cell k _ (by rw [List.getElem?_map, hk2]; rfl), by unfold I64; omega⟩
end Rf
end
section
namespace Rf
open Go.RowKit Go.Deep
/-- how many are not come to -/
def neg (l : List Int) : Nat := l.countP fun x => Decidable.decide (x < 0)
theorem neg_set : ∀ (l : List Int) (t : Nat) (v : Int), t < l.length → l.getD t 0 < 0 → 0 ≤ v → neg (l.set t v) + 1 = neg l
  | [], _, _, h, _, _ => absurd h (Nat.not_lt_zero _)
  | x :: l, 0, v, _, h, hv => by
    have h1 : x < 0 := by simpa using h
    have h2 : ¬ v < 0 := by omega
    simp [neg, h1, h2]
  | x :: l, t + 1, v, hl, h, hv => by
    have ih := neg_set l t v (by simpa using hl) (by simpa using h) hv
    simp only [neg, List.set_cons_succ, List.countP_cons] at ih ⊢
    omega
theorem neg_le (l : List Int) : neg l ≤ l.length := List.countP_le_length
theorem neg_one (S : Nat) (hS : 1 ≤ S) : neg ((List.replicate S (-1 : Int)).set 0 0) + 1 ≤ S := by
  have h := neg_set (List.replicate S (-1 : Int)) 0 0 (by simp; omega) (by rw [List.getD_eq_getElem?_getD, List.getElem?_replicate, if_pos (by omega)]; decide) (Int.le_refl _)
  have h2 := neg_le (List.replicate S (-1 : Int))
  rw [List.length_replicate] at h2
  omega
def fillN (S k : Nat) : List Int := List.replicate k (-1) ++ List.replicate (S - k) 0
theorem fillN_len (S k : Nat) (h : k ≤ S) : (fillN S k).length = S := by simp [fillN]; omega
theorem fillN_set (S k : Nat) (h : k < S) : (fillN S k).set k (-1) = fillN S (k + 1) := by
  unfold fillN
  obtain ⟨m, hm⟩ : ∃ m, S - k = m + 1 := ⟨S - k - 1, by omega⟩
  have h1 := set_mid (List.replicate k (-1 : Int)) (0 : Int) (-1) m
  rw [List.length_replicate] at h1
  rw [hm, h1, show S - (k + 1) = m by omega, List.replicate_succ']
theorem fillN_all (S : Nat) : fillN S S = List.replicate S (-1) := by simp [fillN]
theorem fillN_zero (S : Nat) : fillN S 0 = List.replicate S 0 := by simp [fillN]
theorem row_setI {W : World} {g : Nat} {l : List Int} (h : RowIs W g 3 (l.map iV)) (k : Nat) (v : Int) : RowIs (W.setCell ⟨g, k, none⟩ (.int .i64 v)) g 3 ((l.set k v).map iV) := by
  have h1 := RowIs.set h k (.int .i64 v)
  rw [List.map_set]
  exact h1
/-- what the document's Far comes to -/
def FarD (w : World) (S : Nat) (next : Nat → List Nat) (e : Ending) (w' : World) : Prop := ∃ (g : Nat) (d : List Int), e = .returned (.slice (some ⟨g, 0, none⟩) S S) ∧ RowIs w' g 3 (d.map iV) ∧ d.length = S ∧ Dist next S (fun s => d.getD s 0) ∧ w.heap.size ≤ g ∧ Below w.heap.size w w'
set_option maxHeartbeats 16000000 in
set_option maxRecDepth 100000 in
theorem RFar_any (bx S I : Nat) (nv rv nx : Value) (next : Nat → List Nat) (w : World) (h : RMachAt w bx nv rv S I nx) (hR : RowsI w nx ((List.range S).map fun s => asI (next s))) (hnl : ∀ s, (next s).length = I) (hnx : ∀ f s, f < S → s ∈ next f → s < S) (hS1 : 1 ≤ S) (hS : S ≤ 4096) (hI : I ≤ 64) :
    Calls Tryz.prog 68 #[.pointer (some ⟨bx, 0, none⟩)] w (FarD w S next) := by
  have HM := hide h
  obtain ⟨xa, xc, hx⟩ := hR.slice
  have hln : ((List.range S).map fun s => asI (next s)).length = S := by simp
  rw [hln] at hx
  subst hx
  have HR := hide hR
  have HNL := hide hnl
  have HNX := hide hnx
  have mk := fun W => makeIs S (by omega) W
  obtain ⟨cS, hcS⟩ : ∃ c, c = List.replicate S (Value.int .i64 0) := ⟨_, rfl⟩
  rw [← hcS] at mk
  obtain ⟨w1, hw1⟩ : ∃ w1, w1 = w.alloc (.cells ⟨cS⟩ 3) := ⟨_, rfl⟩
  have HR1 : Hid (RowIs w1 w.heap.size 3 ((fillN S 0).map iV)) := by
    show RowIs w1 w.heap.size 3 _
    rw [fillN_zero, List.map_replicate, hw1]
    show RowIs _ _ _ (List.replicate S (Value.int .i64 0))
    rw [← hcS]
    exact RowIs.new _ _ _
  have HB1 : Hid (Below w.heap.size w w1) := by rw [hw1]; exact (Below.refl _ _).alloc (Nat.le_refl _) _
  obtain ⟨_, ⟨c2, _⟩, _⟩ := h.cells
  have HLB := hide (Level.begin next S hS1)
  have HNO := hide (neg_one S hS1)
  have hSi : (0 : Int) < (S : Int) := by omega
  clear h hR hnl hnx hln hcS
  go_enter Tryz.func68, Tryz.ntmps68
  go_wp2_with fail
  rw [← hw1]
  clear hw1
  go_loopw [18] (fun i wr => ∃ k : Nat, k ≤ S ∧ i = .int .i64 (k : Int) ∧ Hid (RowIs wr w.heap.size 3 ((fillN S k).map iV)) ∧ Hid (Below w.heap.size w wr)) (fun i _ => S - (intOf i).toNat)
  case atStart => exact ⟨0, Nat.zero_le _, rfl, HR1.out, HB1.out⟩
  case round =>
    obtain ⟨k, hk, rfl, HR0, HB⟩ := hrel
    by_cases hlt : k < S
    · have hki : (k : Int) < (S : Int) := by omega
      have hkl : k < (fillN S k).length := by rw [fillN_len S k hk]; exact hlt
      have d0 := HR0.out.cell k _ (by rw [List.getElem?_map, List.getElem?_eq_getElem hkl]; rfl)
      have f0 := HR0.out.frozen k
      have HRN : Hid (RowIs (wr.setCell ⟨w.heap.size, k, none⟩ (.int .i64 (-1))) w.heap.size 3 ((fillN S (k + 1)).map iV)) := by
        have h1 := row_setI HR0.out k (-1)
        rw [fillN_set S k hlt] at h1
        exact h1
      have HBN : Hid (Below w.heap.size w (wr.setCell ⟨w.heap.size, k, none⟩ (.int .i64 (-1)))) := HB.out.setCell (p := ⟨w.heap.size, k, none⟩) (Nat.le_refl _) _
      generalize iV (fillN S k)[k] = y at *
      clear hkl
      go_wp2_with fail
      go_roundw
      case rel => exact ⟨k + 1, by omega, by go_num, HRN.out, HBN.out⟩
      case measure => simp [intOf]; omega
    · obtain rfl : k = S := by omega
      have hkl : 0 < (fillN k k).length := by rw [fillN_len k k hk]; exact hS1
      have d0 := HR0.out.cell 0 _ (by rw [List.getElem?_map, List.getElem?_eq_getElem hkl]; rfl)
      have f0 := HR0.out.frozen 0
      have HRN : Hid (RowIs (wr.setCell ⟨w.heap.size, 0, none⟩ (.int .i64 0)) w.heap.size 3 (((List.replicate k (-1 : Int)).set 0 0).map iV)) := by
        have h1 := row_setI HR0.out 0 0
        rw [fillN_all] at h1
        exact h1
      have HBN : Hid (Below w.heap.size w (wr.setCell ⟨w.heap.size, 0, none⟩ (.int .i64 0))) := HB.out.setCell (p := ⟨w.heap.size, 0, none⟩) (Nat.le_refl _) _
      generalize iV (fillN k k)[0] = y at *
      have hki : ¬ (k : Int) < (k : Int) := by omega
      clear hkl hlt
      go_wp2_with fail
      obtain ⟨n0, hn0⟩ : ∃ n0, n0 = neg ((List.replicate k (-1 : Int)).set 0 0) := ⟨_, rfl⟩
      have HN0 := hide hn0
      clear hn0
      go_loopg [5] n0 (fun gh dv wr => ∃ (d : Nat) (out : List Int), dv = .int .i64 (d : Int) ∧ gh = neg out ∧ d + neg out + 1 ≤ k ∧ Hid (Level next k out d 0 0 false) ∧ Hid (RowIs wr w.heap.size 3 (out.map iV)) ∧ Hid (Below w.heap.size w wr))
      case atStart => exact ⟨0, _, rfl, HN0.out, by have := HNO.out; omega, HLB.out, HRN.out, HBN.out⟩
      case round =>
        obtain ⟨d, out, rfl, hgk, hdn, HLV, HRW, HBW⟩ := hrel
        have HGK := hide hgk
        have HDN := hide hdn
        have hd5 : d ≤ 4096 := by omega
        obtain ⟨wo, hwo⟩ : ∃ wo, wo = wr := ⟨_, rfl⟩
        subst hwo
        obtain ⟨_, _, c4⟩ := (HM.out.below HBW.out).cells
        clear hgk hdn
        go_wp2_with fail
        go_loopw [6, 34] (fun mv i wr => ∃ (s : Nat) (m : Bool) (o : List Int), s ≤ k ∧ i = .int .i64 (s : Int) ∧ mv = .bool m ∧ Hid (Level next k o d s 0 m) ∧ Hid (RowIs wr w.heap.size 3 (o.map iV)) ∧ Hid (Below w.heap.size w wr) ∧ Hid (neg o ≤ neg out ∧ (m = true → neg o < neg out))) (fun _ i _ => k - (intOf i).toNat)
        case atStart => exact ⟨0, false, out, Nat.zero_le _, rfl, rfl, HLV.out, HRW.out, HBW.out, Nat.le_refl _, fun e => by cases e⟩
        case round =>
          obtain ⟨s, m, o, hs, rfl, rfl, HL, HRo, HB2, HNG⟩ := hrel
          by_cases hlt : s < k
          · have hrs : ((List.range k).map fun s => asI (next s))[s]? = some (asI (next s)) := by simp [hlt]
            obtain ⟨gR, u, hxa, hxc, cR, iR⟩ := HR.out.at_ s _ hrs
            subst hxa
            have cRr := (HB2.out.cell (World.block_lt_of_cell? _ _ cR)).trans cR
            obtain ⟨ua, uc, rfl⟩ := iR.slice
            have hlen : (asI (next s)).length = I := by unfold asI; rw [List.length_map]; exact HNL.out s
            rw [hlen] at iR cRr
            have HIR := hide iR
            have hsi : (s : Int) < (k : Int) := by omega
            have hso : s < o.length := by rw [HL.out.len]; exact hlt
            have co : wr.cell? ⟨w.heap.size, s, none⟩ = some (.int .i64 o[s]) := HRo.out.cell s _ (by rw [List.getElem?_map, List.getElem?_eq_getElem hso]; rfl)
            have HGD : Hid (o.getD s 0 = o[s]) := by show _ = _; simp [hso]
            clear hrs iR hlen cR
            by_cases hod : o[s] = (d : Int)
            · have HOD : Hid (o.getD s 0 = (d : Int)) := by show _ = _; rw [HGD.out]; exact hod
              rw [hod] at co
              clear hod HGD
              go_wp2_with fail
              go_loopw [6, 47] (fun mv j wr => ∃ (k2 : Nat) (m2 : Bool) (o2 : List Int), k2 ≤ I ∧ j = .int .i64 (k2 : Int) ∧ mv = .bool m2 ∧ Hid (Level next k o2 d s k2 m2) ∧ Hid (o2.getD s 0 = (d : Int)) ∧ Hid (RowIs wr w.heap.size 3 (o2.map iV)) ∧ Hid (Below w.heap.size w wr) ∧ Hid (neg o2 ≤ neg out ∧ (m2 = true → neg o2 < neg out))) (fun _ j _ => I - (intOf j).toNat)
              case atStart => exact ⟨0, m, o, Nat.zero_le _, rfl, rfl, HL.out, HOD.out, HRo.out, HB2.out, HNG.out⟩
              case round =>
                obtain ⟨k2, m2, o2, hk2, rfl, rfl, HL2, HOD2, HRo2, HB4, HNG2⟩ := hrel
                by_cases hlt2 : k2 < I
                · have hkl : k2 < (next s).length := by rw [HNL.out]; exact hlt2
                  have hxk : (asI (next s))[k2]? = some (((next s)[k2] : Nat) : Int) := by simp [asI, hkl]
                  obtain ⟨gu, ou, hua, cu⟩ := (HIR.out.below HB4.out).cell k2 _ hxk
                  subst hua
                  have htS : (next s)[k2] < k := HNX.out s _ hlt (List.getElem_mem hkl)
                  have HTE : Hid ((next s)[k2]? = some (next s)[k2]) := List.getElem?_eq_getElem hkl
                  have hto : (next s)[k2] < o2.length := by rw [HL2.out.len]; exact htS
                  have ct : wr.cell? ⟨w.heap.size, (next s)[k2], none⟩ = some (.int .i64 o2[(next s)[k2]]) := HRo2.out.cell _ _ (by rw [List.getElem?_map, List.getElem?_eq_getElem hto]; rfl)
                  have hgt : o2.getD (next s)[k2] 0 = o2[(next s)[k2]] := by simp [hto]
                  have ft := HRo2.out.frozen (next s)[k2]
                  generalize hx : o2[(next s)[k2]] = x at *
                  generalize (next s)[k2] = tt at *
                  have HGT := hide hgt
                  have HTO := hide hto
                  have hti : (tt : Int) < (k : Int) := by omega
                  have hki2 : (k2 : Int) < (I : Int) := by omega
                  clear hx hxk hgt hto
                  by_cases hx0 : x < 0
                  · have hx1 : o2.getD tt 0 < 0 := by rw [HGT.out]; exact hx0
                    have HLN := hide (HL2.out.put hlt HOD2.out HTE.out htS hx1)
                    have HNS := hide (neg_set o2 tt ((d : Int) + 1) HTO.out hx1 (by omega))
                    have HON : Hid ((o2.set tt ((d : Int) + 1)).getD s 0 = (d : Int)) := by
                      show _ = _
                      rw [getD_setI, if_neg (fun e => by have h1 := e.1; subst h1; have h2 := HOD2.out; omega)]
                      exact HOD2.out
                    have HRN2 := hide (row_setI HRo2.out tt ((d : Int) + 1))
                    have HBN2 : Hid (Below w.heap.size w (wr.setCell ⟨w.heap.size, tt, none⟩ (.int .i64 ((d : Int) + 1)))) := HB4.out.setCell (p := ⟨w.heap.size, tt, none⟩) (Nat.le_refl _) _
                    clear hx1
                    go_wp2_with fail
                    go_roundw
                    case rel => exact ⟨k2 + 1, true, _, by omega, by go_num, rfl, HLN.out, HON.out, HRN2.out, HBN2.out, by have h1 := HNS.out; have h2 := HNG2.out.1; exact ⟨by omega, fun _ => by omega⟩⟩
                    case measure => simp [intOf]; omega
                  · have HLN := hide (HL2.out.pass HTE.out htS (by rw [HGT.out]; exact hx0))
                    go_wp2_with fail
                    go_roundw
                    case rel => exact ⟨k2 + 1, m2, o2, by omega, by go_num, rfl, HLN.out, HOD2.out, HRo2.out, HB4.out, HNG2.out⟩
                    case measure => simp [intOf]; omega
                · obtain rfl : k2 = I := by omega
                  have HLN := hide (HL2.out.next (fun _ => by rw [HNL.out]; exact Nat.le_refl _))
                  have hki2 : ¬ (k2 : Int) < (k2 : Int) := by omega
                  go_wp2_with fail
                  go_roundw
                  case rel => exact ⟨s + 1, m2, o2, by omega, by go_num, rfl, HLN.out, HRo2.out, HB4.out, HNG2.out⟩
                  case measure => simp [intOf]; omega
            · have HLN := hide (HL.out.next (fun e => absurd (HGD.out.symm.trans e) hod))
              generalize o[s] = x at *
              have hxb : (x != (d : Int)) = true := by simpa using hod
              go_wp2_with fail
              go_roundw
              case rel => exact ⟨s + 1, m, o, by omega, by go_num, rfl, HLN.out, HRo.out, HB2.out, HNG.out⟩
              case measure => simp [intOf]; omega
          · obtain rfl : s = k := by omega
            have hsi : ¬ (s : Int) < (s : Int) := by omega
            cases m with
            | false =>
              have HDS := hide HL.out.done
              have HOL := hide HL.out.len
              go_wp2_with fail
              go_ret
              exact ⟨w.heap.size, o, rfl, HRo.out, HOL.out, HDS.out, Nat.le_refl _, HB2.out⟩
            | true =>
              have HLD := hide HL.out.deeper
              have hlt3 := HNG.out.2 rfl
              have HLT := hide hlt3
              clear hlt3
              go_wp2_with fail
              go_roundg (neg o)
              case measure => have h1 := HLT.out; have h2 := HGK.out; omega
              case rel => exact ⟨d + 1, o, by go_num, rfl, by have h1 := HLT.out; have h2 := HDN.out; omega, HLD.out, HRo.out, HB2.out⟩
end Rf
end
section
namespace Rf
open Go.RowKit Go.Deep
theorem addr_add0 (g j : Nat) : (⟨g, 0, none⟩ : Addr).add j = ⟨g, j, none⟩ := by unfold Addr.add; split <;> simp_all
theorem asI_len (l : List Nat) : (asI l).length = l.length := by simp [asI]
theorem asI_at (l : List Nat) (k : Nat) (h : k < l.length) : (asI l)[k]? = some ((l[k] : Nat) : Int) := by simp [asI, h]
set_option maxHeartbeats 4000000 in
set_option maxRecDepth 100000 in
theorem before_any (p q : List Nat) (u v : Value) (w : World) (hu : Ints w u (asI p)) (hv : Ints w v (asI q)) (hl : p.length = q.length) (hn : p.length ≤ 1000000) :
    Calls Tryz.prog 52 #[u, v] w fun e w' => e = .returned (.bool (Rc.bef p q)) ∧ Below w.heap.size w w' := by
  have HU := hide hu
  have HV := hide hv
  obtain ⟨n, hnn⟩ : ∃ n, n = p.length := ⟨_, rfl⟩
  have HN := hide hnn
  have HQ : Hid (n = q.length) := hnn.trans hl
  obtain ⟨ua, uc, hue⟩ := hu.slice
  obtain ⟨va, vc, hve⟩ := hv.slice
  rw [asI_len, ← hnn] at hue
  rw [asI_len, ← hl, ← hnn] at hve
  subst hue
  subst hve
  rw [← hnn] at hn
  clear hu hv hl hnn
  go_enter Tryz.func52, Tryz.ntmps52
  go_wp2_with fail
  go_loopw [8] (fun i wr => ∃ k : Nat, k ≤ n ∧ i = .int .i64 (k : Int) ∧ Hid (Rc.bef (p.drop k) (q.drop k) = Rc.bef p q) ∧ Hid (Below w.heap.size w wr)) (fun i _ => n - (intOf i).toNat)
  case atStart => exact ⟨0, Nat.zero_le _, rfl, rfl, Below.refl _ _⟩
  case round =>
    obtain ⟨k, hk, rfl, HBF, HB⟩ := hrel
    by_cases hlt : k < n
    · have hkp : k < p.length := by rw [← HN.out]; exact hlt
      have hkq : k < q.length := by rw [← HQ.out]; exact hlt
      obtain ⟨g1, o1, hua, c1⟩ := (HU.out.below HB.out).cell k _ (asI_at p k hkp)
      obtain ⟨g2, o2, hva, c2⟩ := (HV.out.below HB.out).cell k _ (asI_at q k hkq)
      subst hua
      subst hva
      have HST : Hid ((if p[k] = q[k] then Rc.bef (p.drop (k + 1)) (q.drop (k + 1)) else Decidable.decide (p[k] < q[k])) = Rc.bef p q) := by
        show _ = _
        rw [← HBF.out, List.drop_eq_getElem_cons hkp, List.drop_eq_getElem_cons hkq]
        rfl
      have hki : (k : Int) < (n : Int) := by omega
      generalize p[k] = x at *
      generalize q[k] = y at *
      clear hkp hkq
      by_cases hxy : x = y
      · subst hxy
        have HNX : Hid (Rc.bef (p.drop (k + 1)) (q.drop (k + 1)) = Rc.bef p q) := by have h := HST.out; rw [if_pos rfl] at h; exact h
        go_wp2_with fail
        go_quiet (fail)
        go_wp2_with fail
        go_roundw
        case rel => exact ⟨k + 1, by omega, by go_num, HNX.out, HB.out.trans ⟨rfl, rfl, rfl, Nat.le_refl _, fun _ _ => rfl⟩⟩
        case measure => simp [intOf]; omega
      · have HRE : Hid (Decidable.decide (x < y) = Rc.bef p q) := by have h := HST.out; rw [if_neg hxy] at h; exact h
        have hb1 : ((x : Int) != (y : Int)) = true := by simp; omega
        have hb2 : ¬ (x : Int) = (y : Int) := by omega
        go_wp2_with fail
        go_quiet (fail)
        go_wp2_with fail
        go_quiet (fail)
        go_wp2_with fail
        go_ret
        exact ⟨by rw [← HRE.out]; simp, (HB.out.trans ⟨rfl, rfl, rfl, Nat.le_refl _, fun _ _ => rfl⟩).trans ⟨rfl, rfl, rfl, Nat.le_refl _, fun _ _ => rfl⟩⟩
    · obtain rfl : k = n := by omega
      have HRE : Hid (Rc.bef p q = false) := by
        have h := HBF.out
        rw [List.drop_of_length_le (by rw [← HN.out]; exact Nat.le_refl _)] at h
        show _ = _
        rw [← h]
        rfl
      have hki : ¬ (k : Int) < (k : Int) := by omega
      go_wp2_with fail
      go_ret
      exact ⟨by rw [HRE.out]; rfl, HB.out⟩
theorem eqNilN_none (w : World) (n c : Nat) : (binOp BinOp.eql 36 (.slice none n c) (.slice none 0 0)).run Tryz.prog w = .ok (.bool true) w := by kernel_rfl
theorem eqNilN_some (w : World) (a : Addr) (n c : Nat) : (binOp BinOp.eql 36 (.slice (some a) n c) (.slice none 0 0)).run Tryz.prog w = .ok (.bool false) w := by kernel_rfl
/-- numbers are appended -/
theorem app_ints {W : World} (base : Nat) (ty : TypeId) (v : Value) (ps gs : List Nat) (hown : W.ownsRow base 3 1 v ps.length (ps.map intV)) (a c : Nat) (hc : ∀ (k x : Nat), gs[k]? = some x → W.cell? ⟨a, k, none⟩ = some (.int .i64 (x : Int))) (hb : base ≤ W.heap.size) (hx : ps.length ≤ 1000000) (hy : gs.length ≤ 1000000) :
    ∃ v' W', (Builtin.append_ #[36, 36] ty #[v, .slice (some ⟨a, 0, none⟩) gs.length c]).run Tryz.prog W = .ok v' W' ∧ W'.ownsRow base 3 1 v' (ps.length + gs.length) ((ps ++ gs).map intV) ∧ W.grownBy W' v.ownBlock := by
  obtain ⟨i0, hi0, hz0, hz1, hz2⟩ := info_parts Tryz.infoInt
  by_cases h0 : gs = []
  · subst h0
    exact ⟨v, W, append_zero base _ ty _ i0 1 Tryz.underlying36 hi0 v _ _ hown (some ⟨a, 0, none⟩) c, by simpa using hown, ⟨rfl, rfl, rfl, Nat.le_refl _, fun _ _ _ => rfl⟩⟩
  · obtain ⟨v', W', h1, h2, h3, _⟩ := run_append_own_at (P := Tryz.prog) W base 36 ty 3 i0 _ 1 8 Tryz.underlying36 hi0 hz0 hz1 hz2 rfl (by decide) v ps.length (ps.map intV) hown ⟨a, 0, none⟩ gs.length c (gs.map intV) (by simp) (fun j u hu => by
        rw [List.getElem?_map] at hu
        cases hj : gs[j]? with
        | none => rw [hj] at hu; cases hu
        | some y =>
          rw [hj] at hu
          simp only [Option.map_some, Option.some.injEq] at hu
          subst hu
          have := hc j y hj
          rw [addr_add0]
          exact this) (fun u hu => by
        obtain ⟨b, _, rfl⟩ := List.mem_map.1 hu
        rfl) (by unfold maxLen; omega) (by omega) hb
    exact ⟨v', W', h1, by rw [List.map_append]; exact h2, h3⟩
/-- of each state nothing, or a row of small numbers -/
structure OutAt (W : World) (gO : Nat) (us : List Value) (out : List (Option (List Nat))) : Prop where
  row : RowIs W gO 36 us
  len : us.length = out.length
  no : ∀ t, t < out.length → out.getD t none = none → us[t]? = some (.slice none 0 0)
  yes : ∀ t p, out.getD t none = some p → ∃ a c, us[t]? = some (.slice (some ⟨a, 0, none⟩) p.length c) ∧ gO < a ∧ p.length ≤ c ∧ ∀ (k x : Nat), p[k]? = some x → x ≤ 64 ∧ W.cell? ⟨a, k, none⟩ = some (.int .i64 (x : Int))
theorem OutAt.below {W W' : World} {gO : Nat} {us : List Value} {out : List (Option (List Nat))} (h : OutAt W gO us out) (hb : Below W.heap.size W W') : OutAt W' gO us out :=
  ⟨h.row.below hb, h.len, h.no, fun t p hp => by
    obtain ⟨a, c, h1, h2, h3, h4⟩ := h.yes t p hp
    exact ⟨a, c, h1, h2, h3, fun k x hx => ⟨(h4 k x hx).1, (hb.cell (World.block_lt_of_cell? _ _ (h4 k x hx).2)).trans (h4 k x hx).2⟩⟩⟩
theorem set_elsewhere (W : World) (g i a k : Nat) (v : Value) (hne : g ≠ a) : (W.setCell ⟨g, i, none⟩ v).cell? ⟨a, k, none⟩ = W.cell? ⟨a, k, none⟩ := by
  unfold World.cell?
  have e : (W.setCell ⟨g, i, none⟩ v).heap[a]? = W.heap[a]? := by simp [World.setCell, Array.getElem?_modify, hne]
  rw [e]
theorem OutAt.put {W : World} {gO : Nat} {us : List Value} {out : List (Option (List Nat))} (h : OutAt W gO us out) (t : Nat) (ht : t < out.length) (p : List Nat) (a c : Nat) (ha : gO < a) (hc : p.length ≤ c) (hp : ∀ (k x : Nat), p[k]? = some x → x ≤ 64 ∧ W.cell? ⟨a, k, none⟩ = some (.int .i64 (x : Int))) :
    OutAt (W.setCell ⟨gO, t, none⟩ (.slice (some ⟨a, 0, none⟩) p.length c)) gO (us.set t (.slice (some ⟨a, 0, none⟩) p.length c)) (out.set t (some p)) := by
  have htu : t < us.length := by rw [h.len]; exact ht
  refine ⟨RowIs.set h.row t _, by simp [h.len], fun s hs hn => ?_, fun s q hq => ?_⟩
  · rw [getD_setO] at hn
    by_cases e : s = t
    · rw [if_pos ⟨e, ht⟩] at hn; cases hn
    · rw [if_neg (fun k => e k.1)] at hn
      rw [List.getElem?_set_ne (fun k => e k.symm)]
      exact h.no s (by simpa using hs) hn
  · rw [getD_setO] at hq
    by_cases e : s = t
    · subst e
      rw [if_pos ⟨rfl, ht⟩] at hq
      cases hq
      refine ⟨a, c, by rw [List.getElem?_set_self htu], ha, hc, fun k x hx => ⟨(hp k x hx).1, ?_⟩⟩
      rw [set_elsewhere _ _ _ _ _ _ (by omega)]
      exact (hp k x hx).2
    · rw [if_neg (fun k => e k.1)] at hq
      obtain ⟨a', c', h1, h2, h3, h4⟩ := h.yes s q hq
      refine ⟨a', c', by rw [List.getElem?_set_ne (fun k => e k.symm)]; exact h1, h2, h3, fun k x hx => ⟨(h4 k x hx).1, ?_⟩⟩
      rw [set_elsewhere _ _ _ _ _ _ (by omega)]
      exact (h4 k x hx).2
theorem ints_row2 {W : World} {a c : Nat} {p : List Nat} (hc : p.length ≤ c) (h : ∀ (k x : Nat), p[k]? = some x → x ≤ 64 ∧ W.cell? ⟨a, k, none⟩ = some (.int .i64 (x : Int))) : Ints W (.slice (some ⟨a, 0, none⟩) p.length c) (asI p) := by
  refine .inr ⟨a, 0, c, by rw [asI_len], by rw [asI_len]; exact hc, fun k y hy => ?_⟩
  unfold asI at hy
  rw [List.getElem?_map] at hy
  cases hk : p[k]? with
  | none => rw [hk] at hy; cases hy
  | some x =>
    rw [hk] at hy
    simp only [Option.map_some, Option.some.injEq] at hy
    subst hy
    obtain ⟨h1, h2⟩ := h k x hk
    exact ⟨by rw [Nat.zero_add]; exact h2, by unfold I64; omega⟩
/-- what the document's Paths comes to -/
def PathsD (w : World) (S : Nat) (next : Nat → List Nat) (e : Ending) (w' : World) : Prop := ∃ (g : Nat) (us : List Value) (out : List (Option (List Nat))), e = .returned (.slice (some ⟨g, 0, none⟩) S S) ∧ OutAt w' g us out ∧ PInv next S out S 0 0 ∧ Below w.heap.size w w'
end Rf
end
section
namespace Rf
open Go.RowKit Go.Deep
theorem own_row {W : World} {q n : Nat} {v : Value} {p : List Nat} (h : W.ownsRow q 3 1 v n (p.map intV)) (hn : 0 < n) (hp : p.length = n) : ∃ b c, v = .slice (some ⟨b, 0, none⟩) n c ∧ q ≤ b ∧ n ≤ c ∧ ∀ (k x : Nat), p[k]? = some x → W.cell? ⟨b, k, none⟩ = some (.int .i64 (x : Int)) := by
  rcases h.2 with ⟨_, h0⟩ | ⟨g, cap, cur, rfl, hg, hcur, hcap, _, _, htk⟩
  · omega
  · exact ⟨g, cap, rfl, hg, hcap, fun k x hx => row_cell hcur htk (by rw [List.getElem?_map, hx]; rfl)⟩
theorem outAt_new {W : World} {gO S : Nat} (h : RowIs W gO 36 (List.replicate S (.slice none 0 0))) : OutAt W gO (List.replicate S (.slice none 0 0)) (List.replicate S none) := by
  refine ⟨h, by simp, fun t ht _ => ?_, fun t p hp => ?_⟩
  · rw [List.getElem?_replicate, if_pos (by simpa using ht)]
  · rw [List.getD_eq_getElem?_getD, List.getElem?_replicate] at hp
    split at hp <;> cases hp
set_option maxHeartbeats 16000000 in
set_option maxRecDepth 100000 in
theorem RPaths_any (bx S I : Nat) (nv rv nx : Value) (next : Nat → List Nat) (w : World) (h : RMachAt w bx nv rv S I nx) (hR : RowsI w nx ((List.range S).map fun s => asI (next s))) (hnl : ∀ s, (next s).length = I) (hnx : ∀ f s, f < S → s ∈ next f → s < S) (hS1 : 1 ≤ S) (hS : S ≤ 4096) (hI : I ≤ 64) :
    Calls Tryz.prog 51 #[.pointer (some ⟨bx, 0, none⟩)] w (PathsD w S next) := by
  have HM := hide h
  have HR0 := hide hR
  obtain ⟨xa, xc, hx⟩ := hR.slice
  have hln : ((List.range S).map fun s => asI (next s)).length = S := by simp
  rw [hln] at hx
  subst hx
  have HR := hide hR
  have HNL := hide hnl
  have HNX := hide hnx
  have mk := fun W => makeIss S (by omega) W
  obtain ⟨cS, hcS⟩ : ∃ c, c = List.replicate S (Value.slice none 0 0) := ⟨_, rfl⟩
  rw [← hcS] at mk
  have HCS := hide hcS
  obtain ⟨w1, hw1⟩ : ∃ w1, w1 = w.alloc (.cells ⟨cS⟩ 36) := ⟨_, rfl⟩
  have HR1 : Hid (RowIs w1 w.heap.size 36 cS) := by show RowIs _ _ _ _; rw [hw1]; exact RowIs.new _ _ _
  have hb1 : Below w.heap.size w w1 := by rw [hw1]; exact (Below.refl _ _).alloc (Nat.le_refl _) _
  have HB1 := hide hb1
  have HS1W : Hid (w1.heap.size = w.heap.size + 1) := by show _ = _; rw [hw1]; simp
  obtain ⟨_, ⟨c2, _⟩, _⟩ := h.cells
  have HFA := hide (RFar_any bx S I _ _ _ next w1 (h.below hb1) (hR.below hb1) hnl hnx hS1 hS hI)
  rw [hw1] at HFA
  have HW1 := hide hw1
  have HPS := hide (PInv.start next S hS1 hnx)
  have HDW := hide (dist_walk next S hS1 hnx)
  have hSi : (0 : Int) < (S : Int) := by omega
  have en0 := eqNilN_none
  have en1 := eqNilN_some
  clear h hR hnl hnx hln hcS hw1 hb1
  go_enter Tryz.func51, Tryz.ntmps51
  go_wp2_with fail
  refine HFA.out.mono ?_
  rintro e w2 ⟨g2, dl, rfl, hdr, hdl, hds, hg2, hb2⟩
  rw [← HW1.out] at hg2 hb2
  have HFAR : Hid (∀ s (hs : s < dl.length), dl[s] = ((Rc.walk next S).at_ s).far) := fun s hs => by
    have h1 : dl.getD s 0 = ((Rc.walk next S).at_ s).far := hds.same HDW.out s (by omega)
    rw [← h1]
    simp [hs]
  have HDL : Hid (dl.length = S) := hdl
  have HDR2 := hide hdr
  have hgO : w.heap.size < g2 := by have := HS1W.out; omega
  have HB2 : Hid (Below w.heap.size w w2) := HB1.out.trans (hb2.mono HB1.out.size)
  have HRO2 := hide (HR1.out.below hb2)
  have hz2 : w.heap.size < w2.heap.size := by have := hb2.size; have := HS1W.out; omega
  have hcl : cS[0]? = some (.slice none 0 0) := by rw [HCS.out, List.getElem?_replicate, if_pos (by omega)]
  have d0 := HRO2.out.cell 0 _ hcl
  have f0 := HRO2.out.frozen 0
  have HOA0 : Hid (OutAt ((w2.setCell ⟨w.heap.size, 0, none⟩ (.slice (some ⟨w2.heap.size, 0, none⟩) 0 0)).alloc (.cells #[] 3)) w.heap.size (cS.set 0 (.slice (some ⟨w2.heap.size, 0, none⟩) 0 0)) ((List.replicate S none).set 0 (some []))) := by
    have h1 : OutAt w2 w.heap.size cS (List.replicate S none) := by rw [HCS.out]; exact outAt_new (by rw [← HCS.out]; exact HRO2.out)
    have h2 := h1.put 0 (by simp; omega) [] w2.heap.size 0 hz2 (Nat.le_refl _) (fun k x hx => by simp at hx)
    exact h2.below ((Below.refl _ _).alloc (Nat.le_refl _) _)
  have HDR3 : Hid (RowIs ((w2.setCell ⟨w.heap.size, 0, none⟩ (.slice (some ⟨w2.heap.size, 0, none⟩) 0 0)).alloc (.cells #[] 3)) g2 3 (dl.map iV)) := (RowIs.other HDR2.out w.heap.size 0 _ (by omega)).below ((Below.refl _ _).alloc (Nat.le_refl _) _)
  have HB3 : Hid (Below w.heap.size w ((w2.setCell ⟨w.heap.size, 0, none⟩ (.slice (some ⟨w2.heap.size, 0, none⟩) 0 0)).alloc (.cells #[] 3))) := (HB2.out.setCell (p := ⟨w.heap.size, 0, none⟩) (Nat.le_refl _) _).alloc (by have := HB2.out.size; simpa [World.setCell] using this) _
  clear hdr hdl hds hg2 hb2 HFA hcl
  go_wp2_with fail
  clear d0 f0
  generalize (w2.setCell ⟨w.heap.size, 0, none⟩ (.slice (some ⟨w2.heap.size, 0, none⟩) 0 0)).alloc (.cells #[] 3) = w3 at *
  go_loopw [5] (fun dv wr => ∃ (d : Nat) (us : List Value) (out : List (Option (List Nat))), d ≤ S ∧ dv = .int .i64 (d : Int) ∧ Hid (PInv next S out d 0 0) ∧ Hid (OutAt wr w.heap.size us out) ∧ Hid (RowIs wr g2 3 (dl.map iV)) ∧ Hid (Below w.heap.size w wr)) (fun dv _ => S - (intOf dv).toNat)
  case atStart => exact ⟨0, _, _, Nat.zero_le _, rfl, HPS.out, HOA0.out, HDR3.out, HB3.out⟩
  case round =>
    obtain ⟨d, us, out, hd, rfl, HPI, HOA, HDR, HB⟩ := hrel
    obtain ⟨wo, hwo⟩ : ∃ wo, wo = wr := ⟨_, rfl⟩
    subst hwo
    obtain ⟨_, ⟨e2, _⟩, _⟩ := (HM.out.below HB.out).cells
    by_cases hdS : d < S
    · have hdi : (d : Int) < (S : Int) := by omega
      go_wp2_with fail
      clear e2
      go_loopw [32] (fun i wr => ∃ (s : Nat) (us : List Value) (out : List (Option (List Nat))), s ≤ S ∧ i = .int .i64 (s : Int) ∧ Hid (PInv next S out d s 0) ∧ Hid (OutAt wr w.heap.size us out) ∧ Hid (RowIs wr g2 3 (dl.map iV)) ∧ Hid (Below w.heap.size w wr)) (fun i _ => S - (intOf i).toNat)
      case atStart => exact ⟨0, us, out, Nat.zero_le _, rfl, HPI.out, HOA.out, HDR.out, HB.out⟩
      case round =>
        obtain ⟨s, us, out, hs, rfl, HPI, HOA, HDR, HB⟩ := hrel
        by_cases hlt : s < S
        · have hsi : (s : Int) < (S : Int) := by omega
          have hsd : s < dl.length := by rw [HDL.out]; exact hlt
          have cd : wr.cell? ⟨g2, s, none⟩ = some (.int .i64 dl[s]) := HDR.out.cell s _ (by rw [List.getElem?_map, List.getElem?_eq_getElem hsd]; rfl)
          have HFS : Hid (dl[s] = ((Rc.walk next S).at_ s).far) := HFAR.out s hsd
          generalize dl[s] = xs at *
          by_cases hxd : xs = (d : Int)
          · subst hxd
            have hrs : ((List.range S).map fun s => asI (next s))[s]? = some (asI (next s)) := by simp [hlt]
            obtain ⟨gR, u, hxa, hxc, cR, iR⟩ := HR.out.at_ s _ hrs
            subst hxa
            have cRr := (HB.out.cell (World.block_lt_of_cell? _ _ cR)).trans cR
            obtain ⟨ua, uc, rfl⟩ := iR.slice
            have hlen : (asI (next s)).length = I := by unfold asI; rw [List.length_map]; exact HNL.out s
            rw [hlen] at iR cRr
            have HIR := hide iR
            obtain ⟨_, _, c4⟩ := (HM.out.below HB.out).cells
            clear hrs iR hlen cR
            go_wp2_with fail
            clear c4 cRr cd
            go_loopw [49] (fun i wr => ∃ (k : Nat) (us : List Value) (out : List (Option (List Nat))), k ≤ I ∧ i = .int .i64 (k : Int) ∧ Hid (PInv next S out d s k) ∧ Hid (OutAt wr w.heap.size us out) ∧ Hid (RowIs wr g2 3 (dl.map iV)) ∧ Hid (Below w.heap.size w wr)) (fun i _ => I - (intOf i).toNat)
            case atStart => exact ⟨0, us, out, Nat.zero_le _, rfl, HPI.out, HOA.out, HDR.out, HB.out⟩
            case round =>
              obtain ⟨k, us, out, hk, rfl, HPI, HOA, HDR, HB⟩ := hrel
              obtain ⟨wq, hwq⟩ : ∃ wq, wq = wr := ⟨_, rfl⟩
              subst hwq
              by_cases hlt2 : k < I
              · have hki : (k : Int) < (I : Int) := by omega
                have hkl : k < (next s).length := by rw [HNL.out]; exact hlt2
                obtain ⟨gu, ou, hua, cu⟩ := (HIR.out.below HB.out).cell k _ (asI_at (next s) k hkl)
                subst hua
                have htS : (next s)[k] < S := HNX.out s _ hlt (List.getElem_mem hkl)
                have HTE : Hid ((next s)[k]? = some (next s)[k]) := List.getElem?_eq_getElem hkl
                have htd : (next s)[k] < dl.length := by rw [HDL.out]; exact htS
                have HFT : Hid (dl[(next s)[k]] = ((Rc.walk next S).at_ (next s)[k]).far) := HFAR.out _ htd
                have HCT : Hid (∀ W, Below wq.heap.size wq W → W.cell? ⟨g2, (next s)[k], none⟩ = some (.int .i64 dl[(next s)[k]])) := fun W hW => (HDR.out.below hW).cell _ _ (by rw [List.getElem?_map, List.getElem?_eq_getElem htd]; rfl)
                generalize dl[(next s)[k]] = x at *
                generalize (next s)[k] = t at *
                have hti : (t : Int) < (S : Int) := by omega
                have HOL : Hid (t < out.length ∧ us.length = out.length) := ⟨by rw [HPI.out.len]; exact htS, HOA.out.len⟩
                obtain ⟨p0, hp0⟩ : ∃ p0, p0 = Rc.pathOf (Rc.walk next S) d s := ⟨_, rfl⟩
                have hp0l : p0.length = d := by rw [hp0]; exact Rc.pathOf_len _ _ _
                have hno := HPI.out.near s hlt d HFS.out.symm (Nat.le_refl _)
                rw [← hp0] at hno
                obtain ⟨a0, c0, hus, ha0, hc0, hcells⟩ := HOA.out.yes s p0 hno
                have cO := HOA.out.row.cell s _ hus
                rw [hp0l] at cO
                have hbA : Below wq.heap.size wq (wq.alloc (.cells #[] 3)) := (Below.refl _ _).alloc (Nat.le_refl _) _
                obtain ⟨v1, W2, hrun1, hown1, hgr1⟩ := app_ints (W := wq.alloc (.cells #[] 3)) wq.heap.size 36 (.slice (some ⟨wq.heap.size, 0, none⟩) 0 0) [] p0 (own_zero wq wq.heap.size 3 1 (Nat.le_refl _)) a0 c0 (fun k x hx => (hbA.cell (World.block_lt_of_cell? _ _ (hcells k x hx).2)).trans (hcells k x hx).2) (by simp) (by simp) (by omega)
                have hb12 : Below wq.heap.size wq W2 := hbA.grown hgr1 (by simp) (fun j e => by simp only [Value.ownBlock, Option.some.injEq] at e; omega)
                have hz12 := hb12.size
                have hbC : Below W2.heap.size W2 (W2.alloc (.cells #[.int .i64 (k : Int)] 3)) := (Below.refl _ _).alloc (Nat.le_refl _) _
                obtain ⟨v2, W4, hrun2, hown2, hgr2⟩ := app_ints (W := W2.alloc (.cells #[.int .i64 (k : Int)] 3)) wq.heap.size 36 v1 ([] ++ p0) [k] (by have h1 := hown1.alloc (.cells #[.int .i64 (k : Int)] 3); rw [List.length_append]; exact h1) W2.heap.size 1 (fun j x hx => by
                  cases j with
                  | succ j => simp at hx
                  | zero =>
                    simp only [List.getElem?_cons_zero, Option.some.injEq] at hx
                    subst hx
                    rw [Lib.cell_of_heap (heap_alloc_new _ _)]
                    rfl) (by simp; omega) (by simp; omega) (by simp)
                have hb14 : Below wq.heap.size wq W4 := (then_ hb12 hbC).grown hgr2 (by simp; omega) (fun j e => (hown1.lt j e).1)
                rw [List.nil_append] at hown2
                have hl4 : (p0 ++ [k]).length = d + 1 := by rw [List.length_append, hp0l]; rfl
                obtain ⟨b, cb, hv2, hbq, hcb, hcells2⟩ := own_row hown2 (by simp) (by simp)
                rw [show p0.length + [k].length = d + 1 by simp [hp0l]] at hv2 hcb
                subst hv2
                have HP4 : Hid (∀ (j y : Nat), (p0 ++ [k])[j]? = some y → y ≤ 64 ∧ W4.cell? ⟨b, j, none⟩ = some (.int .i64 (y : Int))) := fun j y hy => by
                  refine ⟨?_, hcells2 j y hy⟩
                  by_cases hj : j < p0.length
                  · rw [List.getElem?_append_left hj] at hy
                    exact (hcells j y hy).1
                  · rw [List.getElem?_append_right (by omega)] at hy
                    have : j - p0.length < 1 := by have := (List.getElem?_eq_some_iff.1 hy).1; simpa using this
                    obtain h0 : j - p0.length = 0 := by omega
                    rw [h0] at hy
                    simp only [List.getElem?_cons_zero, Option.some.injEq] at hy
                    omega
                simp only [hp0l] at hrun1
                simp only [List.length_cons, List.length_nil] at hrun2
                have HAPP1 := hide hrun1
                have HAPP2 := hide hrun2
                have HB14 := hide hb14
                have HOA4 := hide (HOA.out.below hb14)
                have HDR4 := hide (HDR.out.below hb14)
                have HBW4 : Hid (Below w.heap.size w W4) := HB.out.trans (hb14.mono HB.out.size)
                have cx := HCT.out W4 hb14
                have HL4 := hide hl4
                have HCB : Hid (d + 1 ≤ cb ∧ w.heap.size < b) := ⟨hcb, by have := HB.out.size; have := HOA.out.row.lt; omega⟩
                have HPE : Hid (p0 ++ [k] = Rc.pathOf (Rc.walk next S) d s ++ [k]) := by show _ = _; rw [hp0]
                have HFSD := hide HFS.out.symm
                have hwz : w.heap.size < wq.heap.size := HOA.out.row.lt
                clear hno hus hcells hbA hown1 hgr1 hb12 hbC hown2 hgr2 hb14 hcells2 hrun1 hrun2 hl4 hcb hp0 HCT htd hkl
                by_cases hft : x = (d : Int) + 1
                · have HFT1 : Hid (((Rc.walk next S).at_ t).far = (d : Int) + 1) := HFT.out.symm.trans hft
                  have hxb : (x == (d : Int) + 1) = true := by simpa using hft
                  cases hot : out.getD t none with
                  | none =>
                    have hut := HOA4.out.no t HOL.out.1 hot
                    have ct := HOA4.out.row.cell t _ hut
                    have ft := HOA4.out.row.frozen t
                    have HPN := hide (HPI.out.put hlt HFSD.out htS HTE.out HFT1.out (.inl hot))
                    rw [← HPE.out] at HPN
                    have hoa5 := HOA4.out.put t HOL.out.1 (p0 ++ [k]) b cb HCB.out.2 (by rw [HL4.out]; exact HCB.out.1) HP4.out
                    rw [HL4.out] at hoa5
                    have HOA5 := hide hoa5
                    have HDR5 : Hid (RowIs (W4.setCell ⟨w.heap.size, t, none⟩ (.slice (some ⟨b, 0, none⟩) (d + 1) cb)) g2 3 (dl.map iV)) := RowIs.other HDR4.out w.heap.size t _ (by omega)
                    have HB5 : Hid (Below w.heap.size w (W4.setCell ⟨w.heap.size, t, none⟩ (.slice (some ⟨b, 0, none⟩) (d + 1) cb))) := HBW4.out.setCell (p := ⟨w.heap.size, t, none⟩) (Nat.le_refl _) _
                    clear hot hut hoa5
                    go_wp2_with (at_builtin; first | (refine Lib.wpList_append_run _ rfl (.tmp 54) (.tmp 58) _ _ rfl _ _ rfl rfl _ _ HAPP1.out ?_) | (refine Lib.wpList_append_run _ rfl (.tmp 59) (.tmp 61) _ _ rfl _ _ rfl rfl _ _ HAPP2.out ?_))
                    go_roundw
                    case rel => exact ⟨k + 1, _, _, by omega, by go_num, HPN.out, HOA5.out, HDR5.out, HB5.out⟩
                    case measure => simp [intOf]; omega
                  | some q =>
                    obtain ⟨a5, c5, hu5, _, hc5, hcl5⟩ := HOA4.out.yes t q hot
                    have hql : q.length = d + 1 := by
                      rcases HPI.out.part t htS HFT1.out with ⟨h1, _⟩ | ⟨p', h1, h2, _⟩
                      · rw [hot] at h1; cases h1
                      · rw [hot] at h1; cases h1; exact h2.length
                    have ct := HOA4.out.row.cell t _ hu5
                    rw [hql] at ct
                    have hi1 : Ints W4 (.slice (some ⟨b, 0, none⟩) (d + 1) cb) (asI (p0 ++ [k])) := by have h := ints_row2 (by rw [HL4.out]; exact HCB.out.1) HP4.out; rw [HL4.out] at h; exact h
                    have hi2 : Ints W4 (.slice (some ⟨a5, 0, none⟩) (d + 1) c5) (asI q) := by have h := ints_row2 hc5 hcl5; rw [hql] at h; exact h
                    have HBF := hide (before_any (p0 ++ [k]) q _ _ W4 hi1 hi2 (by rw [HL4.out, hql]) (by rw [HL4.out]; omega))
                    have HOT := hide hot
                    have HTU : Hid (∃ y, us[t]? = some y) := ⟨_, hu5⟩
                    clear hi1 hi2 hu5 hc5 hcl5 hql hot
                    go_wp2_with (at_builtin; first | (refine Lib.wpList_append_run _ rfl (.tmp 54) (.tmp 58) _ _ rfl _ _ rfl rfl _ _ HAPP1.out ?_) | (refine Lib.wpList_append_run _ rfl (.tmp 59) (.tmp 61) _ _ rfl _ _ rfl rfl _ _ HAPP2.out ?_))
                    refine HBF.out.mono ?_
                    rintro e W5 ⟨rfl, hb5⟩
                    have HOA5 := hide (HOA4.out.below hb5)
                    have HDR5 := hide (HDR4.out.below hb5)
                    have HBW5 : Hid (Below w.heap.size w W5) := HBW4.out.trans (hb5.mono HBW4.out.size)
                    have HP5 : Hid (∀ (j y : Nat), (p0 ++ [k])[j]? = some y → y ≤ 64 ∧ W5.cell? ⟨b, j, none⟩ = some (.int .i64 (y : Int))) := fun j y hy => ⟨(HP4.out j y hy).1, (hb5.cell (World.block_lt_of_cell? _ _ (HP4.out j y hy).2)).trans (HP4.out j y hy).2⟩
                    clear hb5 HBF ct cx
                    cases hbf : Rc.bef (p0 ++ [k]) q with
                    | true =>
                      have HPN := hide (HPI.out.put hlt HFSD.out htS HTE.out HFT1.out (.inr ⟨q, HOT.out, by rw [← HPE.out]; exact hbf⟩))
                      rw [← HPE.out] at HPN
                      obtain ⟨y, hy⟩ := HTU.out
                      have ct5 := HOA5.out.row.cell t _ hy
                      have ft5 := HOA5.out.row.frozen t
                      have hoa6 := HOA5.out.put t HOL.out.1 (p0 ++ [k]) b cb HCB.out.2 (by rw [HL4.out]; exact HCB.out.1) HP5.out
                      rw [HL4.out] at hoa6
                      have HOA6 := hide hoa6
                      have HDR6 : Hid (RowIs (W5.setCell ⟨w.heap.size, t, none⟩ (.slice (some ⟨b, 0, none⟩) (d + 1) cb)) g2 3 (dl.map iV)) := RowIs.other HDR5.out w.heap.size t _ (by omega)
                      have HB6 : Hid (Below w.heap.size w (W5.setCell ⟨w.heap.size, t, none⟩ (.slice (some ⟨b, 0, none⟩) (d + 1) cb))) := HBW5.out.setCell (p := ⟨w.heap.size, t, none⟩) (Nat.le_refl _) _
                      clear hy hoa6 hbf
                      go_wp2_with fail
                      go_roundw
                      case rel => exact ⟨k + 1, _, _, by omega, by go_num, HPN.out, HOA6.out, HDR6.out, HB6.out⟩
                      case measure => simp [intOf]; omega
                    | false =>
                      have HPN := hide (HPI.out.keep HTE.out HOT.out (by rw [← HPE.out]; exact hbf))
                      clear hbf
                      go_wp2_with fail
                      go_roundw
                      case rel => exact ⟨k + 1, us, out, by omega, by go_num, HPN.out, HOA5.out, HDR5.out, HBW5.out⟩
                      case measure => simp [intOf]; omega
                · have hxb : (x == (d : Int) + 1) = false := by simpa using hft
                  have HPN := hide (HPI.out.pass HTE.out (fun e => hft (HFT.out.trans e)))
                  go_wp2_with (at_builtin; first | (refine Lib.wpList_append_run _ rfl (.tmp 54) (.tmp 58) _ _ rfl _ _ rfl rfl _ _ HAPP1.out ?_) | (refine Lib.wpList_append_run _ rfl (.tmp 59) (.tmp 61) _ _ rfl _ _ rfl rfl _ _ HAPP2.out ?_))
                  go_roundw
                  case rel => exact ⟨k + 1, us, out, by omega, by go_num, HPN.out, HOA4.out, HDR4.out, HBW4.out⟩
                  case measure => simp [intOf]; omega
              · obtain rfl : k = I := by omega
                have HPN := hide (HPI.out.next (fun _ => by rw [HNL.out]; exact Nat.le_refl _))
                have hki : ¬ (k : Int) < (k : Int) := by omega
                go_wp2_with fail
                go_roundw
                case rel => exact ⟨s + 1, us, out, by omega, by go_num, HPN.out, HOA.out, HDR.out, HB.out⟩
                case measure => simp [intOf]; omega
          · have HPN := hide (HPI.out.next (fun e => absurd (HFS.out.trans e) hxd))
            have hxb : (xs != (d : Int)) = true := by simpa using hxd
            go_wp2_with fail
            go_roundw
            case rel => exact ⟨s + 1, us, out, by omega, by go_num, HPN.out, HOA.out, HDR.out, HB.out⟩
            case measure => simp [intOf]; omega
        · obtain rfl : s = S := by omega
          have HPN := hide (HPI.out.deeper hS1 HNX.out)
          have hsi : ¬ (s : Int) < (s : Int) := by omega
          go_wp2_with fail
          go_roundw
          case rel => exact ⟨d + 1, us, out, by omega, by go_num, HPN.out, HOA.out, HDR.out, HB.out⟩
          case measure => simp [intOf]; omega
    · obtain rfl : d = S := by omega
      have hdi : ¬ (d : Int) < (d : Int) := by omega
      go_wp2_with fail
      go_ret
      exact ⟨w.heap.size, us, out, rfl, HOA.out, HPI.out, HB.out⟩
end Rf
end
end Go.Proofs.YtgldbliohpfljaaGreatDoor
