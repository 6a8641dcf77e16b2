/-
  The walks of package prop's Check and of its closure. How far states are, told by what holds of it: there is but one such table. Slices of slices of numbers in memory. The walk of the document's Far. The way by which a state is come to first is the least of the shortest ones, in plain words.
-/
import Derived.Test.YtgldbliohpfljaaGreatDoorPrGoodAll
import Derived.Test.YtgldbliohpfljaaGreatDoorRcNextAll
import Derived.Test.YtgldbliohpfljaaGreatDoorRlEdgesAll
import Derived.Test.YtgldbliohpfljaaGreatDoorRfStateMAll
import Derived.Test.YtgldbliohpfljaaGreatDoorMcOffAll
import Derived.Test.YtgldbliohpfljaaGreatDoorNaEdgesAll
import Derived.Deep.LoopGhost
namespace Go.Proofs.YtgldbliohpfljaaGreatDoor
section
open Go.RowKit
namespace Pr
/-- how long one waits where nothing is asked for but always -/
def wtC (row : Nat → List Bool) (p : Nat × Nat) (i : Nat) : Nat := waits 0 true ((row p.1).getD i false)
end Pr
set_option maxHeartbeats 2000000 in
set_option maxRecDepth 100000 in
theorem check1_any (w0 : World) (bg g S I : Nat) (us : List Nat) (row : Nat → List Bool) (p : Nat × Nat) (i : Nat) (w : World) (hc : w.cell? ⟨bg, 0, none⟩ = some (.slice (some ⟨g, 0, none⟩) S S)) (h : GT w0 g S I us row w) (hus : us.length = S) (hp : p.1 < S) (hi : i < I) :
    Calls Tryz.prog 40 #[.agg #[.int .i64 (p.1 : Int), .int .i64 (p.2 : Int)], .int .i64 (i : Int), .pointer (some ⟨bg, 0, none⟩)] w fun e w' => e = .returned (.int .i64 (Pr.wtC row p i : Int)) ∧ Below w.heap.size w w' := by
  obtain ⟨b, hb⟩ : ∃ b, us[p.1]? = some b := ⟨_, List.getElem?_eq_getElem (by omega)⟩
  obtain ⟨hr, _⟩ := h.rows _ b hb
  have hl := h.len p.1 (by omega)
  have r0 := h.top.cell p.1 (.slice (some ⟨b, 0, none⟩) I I) (by rw [List.getElem?_append_left (by simp; omega), List.getElem?_map, hb]; rfl)
  have r1 := hr.cell i _ (show (row p.1)[i]? = some ((row p.1).getD i false) by rw [List.getD_eq_getElem?_getD, List.getElem?_eq_getElem (by omega)]; rfl)
  obtain ⟨x, hx⟩ : ∃ x, x = (row p.1).getD i false := ⟨_, rfl⟩
  rw [← hx] at r1
  have HWT : Hid (Pr.wtC row p i = Pr.waits 0 true x) := by show _ = _; rw [hx]; rfl
  have hbl : bg < w.heap.size := World.block_lt_of_cell? _ _ hc
  have hgl : g < w.heap.size := World.block_lt_of_cell? _ _ r0
  have hbl2 : b < w.heap.size := World.block_lt_of_cell? _ _ r1
  have hpi : (p.1 : Int) < (S : Int) := by omega
  have hii : (i : Int) < (I : Int) := by omega
  have HW := hide (fun W => waits_any 0 true x W (by omega))
  have HB : Hid (∀ o, Below w.heap.size w (w.alloc o)) := fun o => (Below.refl _ _).alloc (Nat.le_refl _) _
  clear hb hr hl hx h
  go_enter Tryz.func40, Tryz.ntmps40
  go_wp2_with fail
  refine (HW.out _).mono ?_
  rintro e w' ⟨rfl, rfl⟩
  go_wp2_with fail
  go_ret
  exact ⟨by rw [HWT.out]; rfl, HB.out _⟩
/-- what Check and Answers come to, where there is no error -/
def SaidT (w : World) (next : Nat → List Nat) (wt : Nat × Nat → Nat → Nat) (most : Nat) (e : Ending) (w' : World) : Prop := (e = .returned (.tuple #[.bool true, .slice none 0 0, .nilIface]) ∧ Pr.Held next wt most) ∨ ∃ l g c, e = .returned (.tuple #[.bool false, .slice (some ⟨g, 0, none⟩) l.length c, .nilIface]) ∧ Pr.Broke next wt most l ∧ Pr.Least next wt most l ∧ w'.ownsRow w.heap.size 3 1 (.slice (some ⟨g, 0, none⟩) l.length c) l.length (l.map natV) ∧ l.length ≤ 100001
/-- what Check comes to -/
def PChecked (w : World) (p : Ld.Prg) (x : Ex) (e : Ending) (w' : World) : Prop := Below w.heap.size w w' ∧ (if Pr.has p.names x then SaidT w (Mc.nexts p) (Pr.wtC (Pr.goodRow p x (2 ^ (Ld.kindL p.names 1).length))) 0 e w' else e = .returned (.tuple #[.bool false, .slice none 0 0, .iface 40 (.int .i64 7)]))
theorem SaidT.of {w w2 w3 : World} {next : Nat → List Nat} {wt : Nat × Nat → Nat → Nat} {most : Nat} {e : Ending} (hz : w.heap.size ≤ w2.heap.size) (h : Searched w2 next wt most e w3) : (e = .returned (.tuple #[.bool true, .slice none 0 0]) ∧ SaidT w next wt most (.returned (.tuple #[.bool true, .slice none 0 0, .nilIface])) w3) ∨ ∃ g n c, e = .returned (.tuple #[.bool false, .slice (some ⟨g, 0, none⟩) n c]) ∧ SaidT w next wt most (.returned (.tuple #[.bool false, .slice (some ⟨g, 0, none⟩) n c, .nilIface])) w3 := by
  obtain ⟨_, ⟨h1, h2⟩ | ⟨l, g, c, h1, h2, h5, h3, h4⟩⟩ := h
  · exact .inl ⟨h1, .inl ⟨rfl, h2⟩⟩
  · exact .inr ⟨g, l.length, c, h1, .inr ⟨l, g, c, rfl, h2, h5, own_mono h3 hz, h4⟩⟩
set_option maxHeartbeats 4000000 in
set_option maxRecDepth 100000 in
theorem PCheck_any (ok : Nat → Prop) (bm : Nat) (p : Ld.Prg) (x : Ex) (v : Value) (w : World) (hm : IsMach w bm p) (hck : Ld.check p = none) (hS : Mc.total (Mc.parts p) ≤ 4096) (hq : (Ld.kindL p.names 1).length ≤ 6) (h : IsEx ok w x v) (hlen : x.size ≤ 1000000) :
    Calls Tryz.prog 11 #[.pointer (some ⟨bm, 0, none⟩), v] w (PChecked w p x) := by
  have hmf : ∀ (fn : Fn) (first cap : Array Value) (w : World), (Instr.makeFunc fn first cap).run Tryz.prog w = .ok (.func fn first cap) w := fun _ _ _ _ => rfl
  have HG := hide (Good_any ok bm p x v w hm hck hS hq h hlen)
  obtain ⟨gN, uN, hna⟩ := hm.next
  have HNA := hide hna
  have hS1 := Mc.total_pos (Mc.parts p) (Mc.parts_ok p)
  have hI6 : 2 ^ (Ld.kindL p.names 1).length ≤ 64 := Nat.pow_le_pow_right (n := 2) (by decide) hq
  have HNL := hide (fun s => Mc.nexts_len p s)
  have HNX : Hid (∀ f s, f < Mc.total (Mc.parts p) → s ∈ Mc.nexts p f → s < Mc.total (Mc.parts p)) := fun f s _ hs => Mc.nexts_lt p hck f s hs
  have HPC : Hid (∀ e w', PChecked w p x e w' ↔ (Below w.heap.size w w' ∧ (if Pr.has p.names x then SaidT w (Mc.nexts p) (Pr.wtC (Pr.goodRow p x (2 ^ (Ld.kindL p.names 1).length))) 0 e w' else e = .returned (.tuple #[.bool false, .slice none 0 0, .iface 40 (.int .i64 7)])))) := fun _ _ => Iff.rfl
  have HGD : Hid (∀ e w', Gooded w p x e w' → (Below w.heap.size w w' ∧ (if Pr.has p.names x then ∃ g us, e = .returned (.tuple #[.slice (some ⟨g, 0, none⟩) (Mc.total (Mc.parts p)) (Mc.total (Mc.parts p)), .nilIface]) ∧ us.length = Mc.total (Mc.parts p) ∧ GT w g (Mc.total (Mc.parts p)) (2 ^ (Ld.kindL p.names 1).length) us (Pr.goodRow p x (2 ^ (Ld.kindL p.names 1).length)) w' else e = .returned (.tuple #[.slice none 0 0, .iface 40 (.int .i64 7)])))) := fun _ _ h => h
  obtain ⟨tu, yu, rfl⟩ := IsEx.iface x v h
  clear hna h hm hq hck
  generalize hrw : Pr.goodRow p x (2 ^ (Ld.kindL p.names 1).length) = row at *
  generalize Mc.total (Mc.parts p) = S at *
  generalize 2 ^ (Ld.kindL p.names 1).length = I at *
  clear hrw
  go_enter Tryz.func11, Tryz.ntmps11
  go_wp2_with fail
  refine HG.out.mono ?_
  intro e w1 hg
  obtain ⟨hb1, hres⟩ := HGD.out e w1 hg
  clear hg HG HGD
  cases hhas : Pr.has p.names x with
  | false =>
    rw [hhas, if_neg Bool.false_ne_true] at hres
    obtain rfl := hres
    have HFN : Hid (∀ o, PChecked w p x (.returned (.tuple #[.bool false, .slice none 0 0, .iface 40 (.int .i64 7)])) (w1.alloc o)) := fun o => by
      refine (HPC.out _ _).2 ⟨hb1.alloc hb1.size _, ?_⟩
      rw [hhas, if_neg Bool.false_ne_true]
    clear hb1
    go_wp2_with fail
    refine bodyPost_ret (results_tmp3 rfl _ _ _) rfl ?_
    exact HFN.out _
  | true =>
    rw [hhas, if_pos rfl] at hres
    obtain ⟨g, us, rfl, hul, hgt⟩ := hres
    obtain ⟨w2, hw2⟩ : ∃ w2, w2 = w1.alloc (.cells #[.slice (some ⟨g, 0, none⟩) S S] 31) := ⟨_, rfl⟩
    have hb12 : Below w1.heap.size w1 w2 := by rw [hw2]; exact (Below.refl _ _).alloc (Nat.le_refl _) _
    have hb2 : Below w.heap.size w w2 := by rw [hw2]; exact hb1.alloc hb1.size _
    have hc2 : w2.cell? ⟨w1.heap.size, 0, none⟩ = some (.slice (some ⟨g, 0, none⟩) S S) := by rw [hw2]; exact Lib.cell_of_heap (heap_alloc_new w1 _) 0
    have hl2 : w1.heap.size < w2.heap.size := by rw [hw2]; simp
    have hgt2 := hgt.below hb12
    have HWA : Hid (Waiting w2 S 0 I (.func (.func 40) #[] #[.pointer (some ⟨w1.heap.size, 0, none⟩)]) (Pr.wtC row)) :=
      ⟨40, _, rfl, fun _ _ => by kernel_rfl, fun q i W hW hq1 _ hi => check1_any w w1.heap.size g S I us row q i W ((hW.cell (p := ⟨w1.heap.size, 0, none⟩) hl2).trans hc2) (hgt2.below hW) hul hq1 hi⟩
    have HSR : Hid (Calls Tryz.prog 39 #[.pointer (some ⟨bm, 0, none⟩), .int .i64 0, .func (.func 40) #[] #[.pointer (some ⟨w1.heap.size, 0, none⟩)]] w2 (Searched w2 (Mc.nexts p) (Pr.wtC row) 0)) :=
      search_any bm S I gN 0 (Mc.nexts p) uN _ _ w2 (HNA.out.below hb2) hS1 hS hI6 (by decide) HNL.out HNX.out HWA.out (fun q i _ => by unfold Pr.wtC Pr.waits; split <;> omega)
    have HFN : Hid (∀ e w3, Searched w2 (Mc.nexts p) (Pr.wtC row) 0 e w3 → (e = .returned (.tuple #[.bool true, .slice none 0 0]) ∧ PChecked w p x (.returned (.tuple #[.bool true, .slice none 0 0, .nilIface])) w3) ∨ ∃ g n c, e = .returned (.tuple #[.bool false, .slice (some ⟨g, 0, none⟩) n c]) ∧ PChecked w p x (.returned (.tuple #[.bool false, .slice (some ⟨g, 0, none⟩) n c, .nilIface])) w3) := fun e w3 hs => by
      have hb3 : Below w.heap.size w w3 := hb2.trans (hs.1.mono hb2.size)
      rcases SaidT.of hb2.size hs with ⟨h1, h2⟩ | ⟨g, n, c, h1, h2⟩
      · refine .inl ⟨h1, (HPC.out _ _).2 ⟨hb3, ?_⟩⟩
        rw [hhas, if_pos rfl]; exact h2
      · refine .inr ⟨g, n, c, h1, (HPC.out _ _).2 ⟨hb3, ?_⟩⟩
        rw [hhas, if_pos rfl]; exact h2
    rw [hw2] at HSR
    have HW2 := hide hw2
    clear hw2 hb12 hb2 hc2 hl2 hgt2 HWA hgt hul hb1 HPC
    go_wp2_with fail
    refine HSR.out.mono ?_
    rw [← HW2.out]
    intro e w3 hs
    rcases HFN.out e w3 hs with ⟨rfl, h1⟩ | ⟨g3, n3, c3, rfl, h1⟩
    · have H1 := hide h1
      clear h1 hs HSR HFN
      go_wp2_with fail
      refine bodyPost_ret (results_tmp3 rfl _ _ _) rfl ?_
      exact H1.out
    · have H1 := hide h1
      clear h1 hs HSR HFN
      go_wp2_with fail
      refine bodyPost_ret (results_tmp3 rfl _ _ _) rfl ?_
      exact H1.out
end
section
namespace Rf
/-- d tells how far each state is -/
structure Dist (next : Nat → List Nat) (S : Nat) (d : Nat → Int) : Prop where
  low : ∀ s, s < S → d s = -1 ∨ 0 ≤ d s
  zero : d 0 = 0
  one : ∀ s, s < S → d s = 0 → s = 0
  par : ∀ s, s < S → 0 < d s → ∃ t, t < S ∧ d t = d s - 1 ∧ s ∈ next t
  near : ∀ t u, t < S → 0 ≤ d t → u ∈ next t → 0 ≤ d u ∧ d u ≤ d t + 1
theorem Dist.le {next : Nat → List Nat} {S : Nat} {d e : Nat → Int} (h : Dist next S d) (k : Dist next S e) : ∀ (n s : Nat), s < S → d s = (n : Int) → 0 ≤ e s ∧ e s ≤ (n : Int)
  | 0, s, hs, hd => by
    have := h.one s hs hd
    subst this
    rw [k.zero]
    omega
  | n + 1, s, hs, hd => by
    obtain ⟨t, ht, h1, h2⟩ := h.par s hs (by omega)
    have h3 := Dist.le h k n t ht (by omega)
    have h4 := k.near t s ht h3.1 h2
    omega
theorem Dist.same {next : Nat → List Nat} {S : Nat} {d e : Nat → Int} (h : Dist next S d) (k : Dist next S e) (s : Nat) (hs : s < S) : d s = e s := by
  rcases h.low s hs with h1 | h1
  · rcases k.low s hs with h2 | h2
    · omega
    · have := Dist.le k h (e s).toNat s hs (by omega)
      omega
  · have h2 := Dist.le h k (d s).toNat s hs (by omega)
    have h3 := Dist.le k h (e s).toNat s hs (by omega)
    omega
theorem dist_walk (next : Nat → List Nat) (S : Nat) (hS : 1 ≤ S) (hn : ∀ f s, f < S → s ∈ next f → s < S) : Dist next S (fun s => ((Rc.walk next S).at_ s).far) := by
  have h := Rc.walk_far next S hS hn
  refine ⟨fun s hs => ?_, h.zero, h.one, fun s hs h0 => ?_, h.near⟩
  · obtain ⟨h1, _, h2⟩ := h.low s hs
    by_cases h3 : (Rc.Qu.at_ (Rc.walk next S) s).far < 0
    · exact .inl (h2 h3)
    · exact .inr (by omega)
  · obtain ⟨h1, h2, h3⟩ := h.par s hs h0
    exact ⟨_, h1, h2, List.mem_of_getElem? h3⟩
/-- while level d is looked at: of its states the first s, and of state s the first i inputs -/
structure Level (next : Nat → List Nat) (S : Nat) (out : List Int) (d s i : Nat) (more : Bool) : Prop where
  len : out.length = S
  low : ∀ t, t < S → out.getD t 0 = -1 ∨ (0 ≤ out.getD t 0 ∧ out.getD t 0 ≤ (d : Int) + 1)
  zero : out.getD 0 0 = 0
  one : ∀ t, t < S → out.getD t 0 = 0 → t = 0
  par : ∀ t, t < S → 0 < out.getD t 0 → ∃ u, u < S ∧ out.getD u 0 = out.getD t 0 - 1 ∧ t ∈ next u
  past : ∀ t u, t < S → 0 ≤ out.getD t 0 → out.getD t 0 < (d : Int) → u ∈ next t → 0 ≤ out.getD u 0 ∧ out.getD u 0 ≤ out.getD t 0 + 1
  here : ∀ t u, t < s → out.getD t 0 = (d : Int) → u ∈ next t → 0 ≤ out.getD u 0 ∧ out.getD u 0 ≤ (d : Int) + 1
  now : out.getD s 0 = (d : Int) → ∀ (k u : Nat), k < i → (next s)[k]? = some u → 0 ≤ out.getD u 0 ∧ out.getD u 0 ≤ (d : Int) + 1
  more_ : more = false → ∀ t, t < S → out.getD t 0 ≤ (d : Int)
theorem getD_setI (l : List Int) (n : Nat) (v : Int) (j : Nat) : (l.set n v).getD j 0 = if j = n ∧ n < l.length then v else l.getD j 0 := by
  rw [List.getD_eq_getElem?_getD, List.getD_eq_getElem?_getD, List.getElem?_set]
  by_cases h : n = j
  · subst h
    by_cases h2 : n < l.length
    · simp [h2]
    · simp [h2]
  · rw [if_neg h, if_neg (fun e => h e.1.symm)]
/-- one more input of a state: what it leads to was come to -/
theorem Level.pass {next : Nat → List Nat} {S : Nat} {out : List Int} {d s i t : Nat} {more : Bool} (h : Level next S out d s i more) (ht : (next s)[i]? = some t) (htS : t < S) (h0 : ¬ out.getD t 0 < 0) : Level next S out d s (i + 1) more :=
  ⟨h.len, h.low, h.zero, h.one, h.par, h.past, h.here, fun hd k u hk hu => by
    by_cases e : k = i
    · subst e
      rw [ht] at hu
      cases hu
      rcases h.low t htS with h1 | h1
      · omega
      · exact h1
    · exact h.now hd k u (by omega) hu, h.more_⟩
/-- .. was not -/
theorem Level.put {next : Nat → List Nat} {S : Nat} {out : List Int} {d s i t : Nat} {more : Bool} (h : Level next S out d s i more) (hs : s < S) (hd : out.getD s 0 = (d : Int)) (ht : (next s)[i]? = some t) (htS : t < S) (h0 : out.getD t 0 < 0) : Level next S (out.set t ((d : Int) + 1)) d s (i + 1) true := by
  have hg : ∀ j, (out.set t ((d : Int) + 1)).getD j 0 = if j = t then (d : Int) + 1 else out.getD j 0 := fun j => by
    rw [getD_setI]
    have := h.len
    by_cases e : j = t
    · rw [if_pos ⟨e, by omega⟩, if_pos e]
    · rw [if_neg (fun h => e h.1), if_neg e]
  have hst : s ≠ t := fun e => by rw [e] at hd; omega
  have keep : ∀ u, 0 ≤ out.getD u 0 → (out.set t ((d : Int) + 1)).getD u 0 = out.getD u 0 := fun u hu => by
    rw [hg, if_neg (fun e => by rw [e] at hu; omega)]
  have up : ∀ u b, 0 ≤ out.getD u 0 ∧ out.getD u 0 ≤ b → 0 ≤ (out.set t ((d : Int) + 1)).getD u 0 ∧ (out.set t ((d : Int) + 1)).getD u 0 ≤ b := fun u b hu => by rw [keep u hu.1]; exact hu
  refine ⟨by simp [h.len], fun j hj => ?_, ?_, fun j hj => ?_, fun j hj => ?_, fun j u hj h1 h2 hu => ?_, fun j u hj h1 hu => ?_, fun _ k u hk hu => ?_, fun e => by cases e⟩
  · rw [hg]
    split
    · exact .inr (by omega)
    · exact h.low j hj
  · rw [keep 0 (by rw [h.zero]; omega)]; exact h.zero
  · rw [hg]
    split
    · intro e; omega
    · exact h.one j hj
  · intro h1
    by_cases e : j = t
    · rw [hg j, if_pos e]
      exact ⟨s, hs, by rw [keep s (by omega), hd]; omega, by rw [e]; exact List.mem_of_getElem? ht⟩
    · rw [hg j, if_neg e] at h1 ⊢
      obtain ⟨u, hu, h2, h3⟩ := h.par j hj h1
      exact ⟨u, hu, by rw [keep u (by omega)]; exact h2, h3⟩
  · by_cases e : j = t
    · rw [hg j, if_pos e] at h2
      omega
    · rw [hg j, if_neg e] at h1 h2 ⊢
      exact up u _ (h.past j u hj h1 h2 hu)
  · rw [hg] at h1
    split at h1
    · omega
    · exact up u _ (h.here j u hj h1 hu)
  · by_cases e : k = i
    · subst e
      rw [ht] at hu
      cases hu
      rw [hg, if_pos rfl]
      omega
    · exact up u _ (h.now hd k u (by omega) hu)
/-- a state is looked at, or is of another level -/
theorem Level.next {next : Nat → List Nat} {S : Nat} {out : List Int} {d s i : Nat} {more : Bool} (h : Level next S out d s i more) (hi : out.getD s 0 = (d : Int) → (next s).length ≤ i) : Level next S out d (s + 1) 0 more :=
  ⟨h.len, h.low, h.zero, h.one, h.par, h.past, fun t u ht hd hu => by
    by_cases e : t = s
    · subst e
      obtain ⟨k, hk, rfl⟩ := List.getElem_of_mem hu
      exact h.now hd k _ (by have := hi hd; omega) (List.getElem?_eq_getElem hk)
    · exact h.here t u (by omega) hd hu, fun _ k u hk => absurd hk (Nat.not_lt_zero _), h.more_⟩
/-- the next level -/
theorem Level.deeper {next : Nat → List Nat} {S : Nat} {out : List Int} {d : Nat} {more : Bool} (h : Level next S out d S 0 more) : Level next S out (d + 1) 0 0 false := by
  refine ⟨h.len, fun t ht => ?_, h.zero, h.one, h.par, fun t u ht h0 h1 hu => ?_, fun t u ht => absurd ht (Nat.not_lt_zero _), fun _ k u hk => absurd hk (Nat.not_lt_zero _), fun _ t ht => ?_⟩
  · rcases h.low t ht with h1 | h1
    · exact .inl h1
    · exact .inr ⟨h1.1, by omega⟩
  · by_cases e : out.getD t 0 = (d : Int)
    · have := h.here t u ht e hu
      omega
    · exact h.past t u ht h0 (by omega) hu
  · rcases h.low t ht with h1 | h1 <;> omega
/-- the start -/
theorem Level.begin (next : Nat → List Nat) (S : Nat) (hS : 1 ≤ S) : Level next S ((List.replicate S (-1 : Int)).set 0 0) 0 0 0 false := by
  have hg : ∀ j, j < S → ((List.replicate S (-1 : Int)).set 0 0).getD j 0 = if j = 0 then 0 else -1 := fun j hj => by
    rw [getD_setI]
    by_cases e : j = 0
    · rw [if_pos ⟨e, by simp; omega⟩, if_pos e]
    · rw [if_neg (fun h => e h.1), if_neg e, List.getD_eq_getElem?_getD, List.getElem?_replicate, if_pos hj]
      rfl
  refine ⟨by simp, fun t ht => ?_, ?_, fun t ht => ?_, fun t ht => ?_, fun t u ht h0 h1 => ?_, fun t u ht => absurd ht (Nat.not_lt_zero _), fun _ k u hk => absurd hk (Nat.not_lt_zero _), fun _ t ht => ?_⟩
  · rw [hg t ht]; split <;> simp
  · rw [hg 0 (by omega)]; rfl
  · rw [hg t ht]; split
    · intro _; assumption
    · intro e; omega
  · rw [hg t ht]; split <;> (intro e; omega)
  · omega
  · rw [hg t ht]; split <;> simp
/-- where nothing more was found, all is told -/
theorem Level.done {next : Nat → List Nat} {S : Nat} {out : List Int} {d : Nat} (h : Level next S out d S 0 false) : Dist next S (fun s => out.getD s 0) :=
  ⟨fun s hs => by
    rcases h.low s hs with h1 | h1
    · exact .inl h1
    · exact .inr h1.1, h.zero, h.one, h.par, fun t u ht h0 hu => by
    have h1 := h.more_ rfl t ht
    by_cases e : out.getD t 0 = (d : Int)
    · have := h.here t u ht e hu
      exact ⟨this.1, by show out.getD u 0 ≤ out.getD t 0 + 1; omega⟩
    · exact h.past t u ht h0 (by omega) hu⟩
end Rf
end
section
namespace Rf
open Go.RowKit
def RowsI (W : World) (v : Value) (L : List (List Int)) : Prop :=
  (L = [] ∧ ∃ a cap, v = .slice a 0 cap) ∨ ∃ g cap, v = .slice (some ⟨g, 0, none⟩) L.length cap ∧ L.length ≤ cap ∧ ∀ (k : Nat) r, L[k]? = some r → ∃ u, W.cell? ⟨g, k, none⟩ = some u ∧ Ints W u r
theorem RowsI.below {W W' : World} {v : Value} {L : List (List Int)} (h : RowsI W v L) (hb : Below W.heap.size W W') : RowsI W' v L := by
  rcases h with h | ⟨g, cap, h1, h2, h3⟩
  · exact .inl h
  · refine .inr ⟨g, cap, h1, h2, fun k r hr => ?_⟩
    obtain ⟨u, h4, h5⟩ := h3 k r hr
    exact ⟨u, (hb.cell (World.block_lt_of_cell? _ _ h4)).trans h4, h5.below hb⟩
theorem RowsI.slice {W : World} {v : Value} {L : List (List Int)} (h : RowsI W v L) : ∃ a c, v = .slice a L.length c := by
  rcases h with ⟨rfl, a, c, rfl⟩ | ⟨g, cap, h1, _⟩
  · exact ⟨a, c, rfl⟩
  · exact ⟨_, _, h1⟩
theorem RowsI.at_ {W : World} {a : Option Addr} {n c : Nat} {L : List (List Int)} (h : RowsI W (.slice a n c) L) (k : Nat) (r : List Int) (hr : L[k]? = some r) : ∃ g u, a = some ⟨g, 0, none⟩ ∧ n ≤ c ∧ W.cell? ⟨g, k, none⟩ = some u ∧ Ints W u r := by
  rcases h with ⟨h0, _⟩ | ⟨g, cap, h1, h2, h3⟩
  · rw [h0] at hr; simp at hr
  · simp only [Value.slice.injEq] at h1
    obtain ⟨u, h4, h5⟩ := h3 k r hr
    exact ⟨g, u, h1.1, by rw [h1.2.1, h1.2.2]; exact h2, h4, h5⟩
def asI (l : List Nat) : List Int := l.map fun i : Nat => (i : Int)
theorem ints_nat {W : World} {q : Nat} {v : Value} {l : List Nat} (h : W.ownsRow q 3 1 v l.length (l.map intV)) (hl : ∀ i, i ∈ l → i ≤ 1000000) : Ints W v (asI l) := by
  rcases h.2 with ⟨rfl, h0⟩ | ⟨g, cap, cur, rfl, _, hcur, hcap, _, _, htk⟩
  · exact .inl ⟨by rw [List.length_eq_zero_iff.1 h0]; rfl, _, _, rfl⟩
  · refine .inr ⟨g, 0, cap, by simp [asI], by simpa [asI] using hcap, fun k x hx => ?_⟩
    unfold asI at hx
    rw [List.getElem?_map] at hx
    cases hk : l[k]? with
    | none => rw [hk] at hx; cases hx
    | some i =>
      rw [hk] at hx
      simp only [Option.map_some, Option.some.injEq] at hx
      subst hx
      have := hl i (List.mem_of_getElem? hk)
      exact ⟨by rw [Nat.zero_add]; exact row_cell hcur htk (by rw [List.getElem?_map, hk]; rfl), by unfold I64; omega⟩
theorem IntR.rowsI {q : Nat} {W : World} {o : Value} {us : List Value} {bs : List (List Nat)} (h : IntR q W o us bs) (hl : ∀ b, b ∈ bs → ∀ i, i ∈ b → i ≤ 1000000) : RowsI W o (bs.map asI) := by
  rcases h.own.2 with ⟨rfl, h0⟩ | ⟨g, cap, cur, rfl, _, hcur, hcap, _, _, htk⟩
  · exact .inl ⟨by rw [List.length_eq_zero_iff.1 h0]; rfl, _, _, rfl⟩
  · refine .inr ⟨g, cap, by simp, by simpa using hcap, fun i b hb => ?_⟩
    rw [List.getElem?_map] at hb
    cases hk : bs[i]? with
    | none => rw [hk] at hb; cases hb
    | some x =>
      rw [hk] at hb
      simp only [Option.map_some, Option.some.injEq] at hb
      subst hb
      have hil : i < us.length := by rw [h.len]; exact (List.getElem?_eq_some_iff.1 hk).1
      exact ⟨us[i], row_cell hcur htk (List.getElem?_eq_getElem hil), ints_nat (h.at_ i _ x (List.getElem?_eq_getElem hil) hk) (hl x (List.mem_of_getElem? hk))⟩
/-- a table of rows tells lists -/
theorem LL.rowsI {W : World} {g m n lo : Nat} {us : List Nat} {rows : Nat → List Value} {L : List (List Nat)} (h : LL W g 36 3 m n lo us rows) (hul : us.length = m) (hm : L.length = m) (hr : ∀ (s : Nat) (r : List Nat), L[s]? = some r → rows s = r.map intV ∧ r.length = n) (hl : ∀ b, b ∈ L → ∀ i, i ∈ b → i ≤ 1000000) : RowsI W (slV g m) (L.map asI) := by
  refine .inr ⟨g, m, by simp [slV, hm], by simp [hm], fun i b hb => ?_⟩
  rw [List.getElem?_map] at hb
  cases hk : L[i]? with
  | none => rw [hk] at hb; cases hb
  | some x =>
    rw [hk] at hb
    simp only [Option.map_some, Option.some.injEq] at hb
    subst hb
    have hil : i < us.length := by have := (List.getElem?_eq_some_iff.1 hk).1; omega
    obtain ⟨e1, e2⟩ := hr i x hk
    have hc := h.cell i us[i] (List.getElem?_eq_getElem hil)
    refine ⟨_, hc, ?_⟩
    have hrow := (h.row i us[i] (List.getElem?_eq_getElem hil)).1
    rw [e1] at hrow
    refine .inr ⟨us[i], 0, n, by simp [slV, asI, e2], by simp [asI, e2], fun k y hy => ?_⟩
    unfold asI at hy
    rw [List.getElem?_map] at hy
    cases hk2 : x[k]? with
    | none => rw [hk2] at hy; cases hy
    | some j =>
      rw [hk2] at hy
      simp only [Option.map_some, Option.some.injEq] at hy
      subst hy
      have := hl x (List.mem_of_getElem? hk) j (List.mem_of_getElem? hk2)
      exact ⟨by rw [Nat.zero_add]; exact hrow.cell k _ (by rw [List.getElem?_map, hk2]; rfl), by unfold I64; omega⟩
end Rf
end
section
namespace Rf
open Go.RowKit Go.Deep
/-- how many are not come to -/
def neg (l : List Int) : Nat := l.countP fun x => Decidable.decide (x < 0)
theorem neg_set : ∀ (l : List Int) (t : Nat) (v : Int), t < l.length → l.getD t 0 < 0 → 0 ≤ v → neg (l.set t v) + 1 = neg l
  | [], _, _, h, _, _ => absurd h (Nat.not_lt_zero _)
  | x :: l, 0, v, _, h, hv => by
    have h1 : x < 0 := by simpa using h
    have h2 : ¬ v < 0 := by omega
    simp [neg, h1, h2]
  | x :: l, t + 1, v, hl, h, hv => by
    have ih := neg_set l t v (by simpa using hl) (by simpa using h) hv
    simp only [neg, List.set_cons_succ, List.countP_cons] at ih ⊢
    omega
theorem neg_le (l : List Int) : neg l ≤ l.length := List.countP_le_length
theorem neg_one (S : Nat) (hS : 1 ≤ S) : neg ((List.replicate S (-1 : Int)).set 0 0) + 1 ≤ S := by
  have h := neg_set (List.replicate S (-1 : Int)) 0 0 (by simp; omega) (by rw [List.getD_eq_getElem?_getD, List.getElem?_replicate, if_pos (by omega)]; decide) (Int.le_refl _)
  have h2 := neg_le (List.replicate S (-1 : Int))
  rw [List.length_replicate] at h2
  omega
def fillN (S k : Nat) : List Int := List.replicate k (-1) ++ List.replicate (S - k) 0
theorem fillN_len (S k : Nat) (h : k ≤ S) : (fillN S k).length = S := by simp [fillN]; omega
theorem fillN_set (S k : Nat) (h : k < S) : (fillN S k).set k (-1) = fillN S (k + 1) := by
  unfold fillN
  obtain ⟨m, hm⟩ : ∃ m, S - k = m + 1 := ⟨S - k - 1, by omega⟩
  have h1 := set_mid (List.replicate k (-1 : Int)) (0 : Int) (-1) m
  rw [List.length_replicate] at h1
  rw [hm, h1, show S - (k + 1) = m by omega, List.replicate_succ']
theorem fillN_all (S : Nat) : fillN S S = List.replicate S (-1) := by simp [fillN]
theorem fillN_zero (S : Nat) : fillN S 0 = List.replicate S 0 := by simp [fillN]
theorem row_setI {W : World} {g : Nat} {l : List Int} (h : RowIs W g 3 (l.map iV)) (k : Nat) (v : Int) : RowIs (W.setCell ⟨g, k, none⟩ (.int .i64 v)) g 3 ((l.set k v).map iV) := by
  have h1 := RowIs.set h k (.int .i64 v)
  rw [List.map_set]
  exact h1
/-- what the document's Far comes to -/
def FarD (w : World) (S : Nat) (next : Nat → List Nat) (e : Ending) (w' : World) : Prop := ∃ (g : Nat) (d : List Int), e = .returned (.slice (some ⟨g, 0, none⟩) S S) ∧ RowIs w' g 3 (d.map iV) ∧ d.length = S ∧ Dist next S (fun s => d.getD s 0) ∧ w.heap.size ≤ g ∧ Below w.heap.size w w'
set_option maxHeartbeats 16000000 in
set_option maxRecDepth 100000 in
theorem RFar_any (bx S I : Nat) (nv rv nx : Value) (next : Nat → List Nat) (w : World) (h : RMachAt w bx nv rv S I nx) (hR : RowsI w nx ((List.range S).map fun s => asI (next s))) (hnl : ∀ s, (next s).length = I) (hnx : ∀ f s, f < S → s ∈ next f → s < S) (hS1 : 1 ≤ S) (hS : S ≤ 4096) (hI : I ≤ 64) :
    Calls Tryz.prog 68 #[.pointer (some ⟨bx, 0, none⟩)] w (FarD w S next) := by
  have HM := hide h
  obtain ⟨xa, xc, hx⟩ := hR.slice
  have hln : ((List.range S).map fun s => asI (next s)).length = S := by simp
  rw [hln] at hx
  subst hx
  have HR := hide hR
  have HNL := hide hnl
  have HNX := hide hnx
  have mk := fun W => makeIs S (by omega) W
  obtain ⟨cS, hcS⟩ : ∃ c, c = List.replicate S (Value.int .i64 0) := ⟨_, rfl⟩
  rw [← hcS] at mk
  obtain ⟨w1, hw1⟩ : ∃ w1, w1 = w.alloc (.cells ⟨cS⟩ 3) := ⟨_, rfl⟩
  have HR1 : Hid (RowIs w1 w.heap.size 3 ((fillN S 0).map iV)) := by
    show RowIs w1 w.heap.size 3 _
    rw [fillN_zero, List.map_replicate, hw1]
    show RowIs _ _ _ (List.replicate S (Value.int .i64 0))
    rw [← hcS]
    exact RowIs.new _ _ _
  have HB1 : Hid (Below w.heap.size w w1) := by rw [hw1]; exact (Below.refl _ _).alloc (Nat.le_refl _) _
  obtain ⟨_, ⟨c2, _⟩, _⟩ := h.cells
  have HLB := hide (Level.begin next S hS1)
  have HNO := hide (neg_one S hS1)
  have hSi : (0 : Int) < (S : Int) := by omega
  clear h hR hnl hnx hln hcS
  go_enter Tryz.func68, Tryz.ntmps68
  go_wp2_with fail
  rw [← hw1]
  clear hw1
  go_loopw [18] (fun i wr => ∃ k : Nat, k ≤ S ∧ i = .int .i64 (k : Int) ∧ Hid (RowIs wr w.heap.size 3 ((fillN S k).map iV)) ∧ Hid (Below w.heap.size w wr)) (fun i _ => S - (intOf i).toNat)
  case atStart => exact ⟨0, Nat.zero_le _, rfl, HR1.out, HB1.out⟩
  case round =>
    obtain ⟨k, hk, rfl, HR0, HB⟩ := hrel
    by_cases hlt : k < S
    · have hki : (k : Int) < (S : Int) := by omega
      have hkl : k < (fillN S k).length := by rw [fillN_len S k hk]; exact hlt
      have d0 := HR0.out.cell k _ (by rw [List.getElem?_map, List.getElem?_eq_getElem hkl]; rfl)
      have f0 := HR0.out.frozen k
      have HRN : Hid (RowIs (wr.setCell ⟨w.heap.size, k, none⟩ (.int .i64 (-1))) w.heap.size 3 ((fillN S (k + 1)).map iV)) := by
        have h1 := row_setI HR0.out k (-1)
        rw [fillN_set S k hlt] at h1
        exact h1
      have HBN : Hid (Below w.heap.size w (wr.setCell ⟨w.heap.size, k, none⟩ (.int .i64 (-1)))) := HB.out.setCell (p := ⟨w.heap.size, k, none⟩) (Nat.le_refl _) _
      generalize iV (fillN S k)[k] = y at *
      clear hkl
      go_wp2_with fail
      go_roundw
      case rel => exact ⟨k + 1, by omega, by go_num, HRN.out, HBN.out⟩
      case measure => simp [intOf]; omega
    · obtain rfl : k = S := by omega
      have hkl : 0 < (fillN k k).length := by rw [fillN_len k k hk]; exact hS1
      have d0 := HR0.out.cell 0 _ (by rw [List.getElem?_map, List.getElem?_eq_getElem hkl]; rfl)
      have f0 := HR0.out.frozen 0
      have HRN : Hid (RowIs (wr.setCell ⟨w.heap.size, 0, none⟩ (.int .i64 0)) w.heap.size 3 (((List.replicate k (-1 : Int)).set 0 0).map iV)) := by
        have h1 := row_setI HR0.out 0 0
        rw [fillN_all] at h1
        exact h1
      have HBN : Hid (Below w.heap.size w (wr.setCell ⟨w.heap.size, 0, none⟩ (.int .i64 0))) := HB.out.setCell (p := ⟨w.heap.size, 0, none⟩) (Nat.le_refl _) _
      generalize iV (fillN k k)[0] = y at *
      have hki : ¬ (k : Int) < (k : Int) := by omega
      clear hkl hlt
      go_wp2_with fail
      obtain ⟨n0, hn0⟩ : ∃ n0, n0 = neg ((List.replicate k (-1 : Int)).set 0 0) := ⟨_, rfl⟩
      have HN0 := hide hn0
      clear hn0
      go_loopg [5] n0 (fun gh dv wr => ∃ (d : Nat) (out : List Int), dv = .int .i64 (d : Int) ∧ gh = neg out ∧ d + neg out + 1 ≤ k ∧ Hid (Level next k out d 0 0 false) ∧ Hid (RowIs wr w.heap.size 3 (out.map iV)) ∧ Hid (Below w.heap.size w wr))
      case atStart => exact ⟨0, _, rfl, HN0.out, by have := HNO.out; omega, HLB.out, HRN.out, HBN.out⟩
      case round =>
        obtain ⟨d, out, rfl, hgk, hdn, HLV, HRW, HBW⟩ := hrel
        have HGK := hide hgk
        have HDN := hide hdn
        have hd5 : d ≤ 4096 := by omega
        obtain ⟨wo, hwo⟩ : ∃ wo, wo = wr := ⟨_, rfl⟩
        subst hwo
        obtain ⟨_, _, c4⟩ := (HM.out.below HBW.out).cells
        clear hgk hdn
        go_wp2_with fail
        go_loopw [6, 34] (fun mv i wr => ∃ (s : Nat) (m : Bool) (o : List Int), s ≤ k ∧ i = .int .i64 (s : Int) ∧ mv = .bool m ∧ Hid (Level next k o d s 0 m) ∧ Hid (RowIs wr w.heap.size 3 (o.map iV)) ∧ Hid (Below w.heap.size w wr) ∧ Hid (neg o ≤ neg out ∧ (m = true → neg o < neg out))) (fun _ i _ => k - (intOf i).toNat)
        case atStart => exact ⟨0, false, out, Nat.zero_le _, rfl, rfl, HLV.out, HRW.out, HBW.out, Nat.le_refl _, fun e => by cases e⟩
        case round =>
          obtain ⟨s, m, o, hs, rfl, rfl, HL, HRo, HB2, HNG⟩ := hrel
          by_cases hlt : s < k
          · have hrs : ((List.range k).map fun s => asI (next s))[s]? = some (asI (next s)) := by simp [hlt]
            obtain ⟨gR, u, hxa, hxc, cR, iR⟩ := HR.out.at_ s _ hrs
            subst hxa
            have cRr := (HB2.out.cell (World.block_lt_of_cell? _ _ cR)).trans cR
            obtain ⟨ua, uc, rfl⟩ := iR.slice
            have hlen : (asI (next s)).length = I := by unfold asI; rw [List.length_map]; exact HNL.out s
            rw [hlen] at iR cRr
            have HIR := hide iR
            have hsi : (s : Int) < (k : Int) := by omega
            have hso : s < o.length := by rw [HL.out.len]; exact hlt
            have co : wr.cell? ⟨w.heap.size, s, none⟩ = some (.int .i64 o[s]) := HRo.out.cell s _ (by rw [List.getElem?_map, List.getElem?_eq_getElem hso]; rfl)
            have HGD : Hid (o.getD s 0 = o[s]) := by show _ = _; simp [hso]
            clear hrs iR hlen cR
            by_cases hod : o[s] = (d : Int)
            · have HOD : Hid (o.getD s 0 = (d : Int)) := by show _ = _; rw [HGD.out]; exact hod
              rw [hod] at co
              clear hod HGD
              go_wp2_with fail
              go_loopw [6, 47] (fun mv j wr => ∃ (k2 : Nat) (m2 : Bool) (o2 : List Int), k2 ≤ I ∧ j = .int .i64 (k2 : Int) ∧ mv = .bool m2 ∧ Hid (Level next k o2 d s k2 m2) ∧ Hid (o2.getD s 0 = (d : Int)) ∧ Hid (RowIs wr w.heap.size 3 (o2.map iV)) ∧ Hid (Below w.heap.size w wr) ∧ Hid (neg o2 ≤ neg out ∧ (m2 = true → neg o2 < neg out))) (fun _ j _ => I - (intOf j).toNat)
              case atStart => exact ⟨0, m, o, Nat.zero_le _, rfl, rfl, HL.out, HOD.out, HRo.out, HB2.out, HNG.out⟩
              case round =>
                obtain ⟨k2, m2, o2, hk2, rfl, rfl, HL2, HOD2, HRo2, HB4, HNG2⟩ := hrel
                by_cases hlt2 : k2 < I
                · have hkl : k2 < (next s).length := by rw [HNL.out]; exact hlt2
                  have hxk : (asI (next s))[k2]? = some (((next s)[k2] : Nat) : Int) := by simp [asI, hkl]
                  obtain ⟨gu, ou, hua, cu⟩ := (HIR.out.below HB4.out).cell k2 _ hxk
                  subst hua
                  have htS : (next s)[k2] < k := HNX.out s _ hlt (List.getElem_mem hkl)
                  have HTE : Hid ((next s)[k2]? = some (next s)[k2]) := List.getElem?_eq_getElem hkl
                  have hto : (next s)[k2] < o2.length := by rw [HL2.out.len]; exact htS
                  have ct : wr.cell? ⟨w.heap.size, (next s)[k2], none⟩ = some (.int .i64 o2[(next s)[k2]]) := HRo2.out.cell _ _ (by rw [List.getElem?_map, List.getElem?_eq_getElem hto]; rfl)
                  have hgt : o2.getD (next s)[k2] 0 = o2[(next s)[k2]] := by simp [hto]
                  have ft := HRo2.out.frozen (next s)[k2]
                  generalize hx : o2[(next s)[k2]] = x at *
                  generalize (next s)[k2] = tt at *
                  have HGT := hide hgt
                  have HTO := hide hto
                  have hti : (tt : Int) < (k : Int) := by omega
                  have hki2 : (k2 : Int) < (I : Int) := by omega
                  clear hx hxk hgt hto
                  by_cases hx0 : x < 0
                  · have hx1 : o2.getD tt 0 < 0 := by rw [HGT.out]; exact hx0
                    have HLN := hide (HL2.out.put hlt HOD2.out HTE.out htS hx1)
                    have HNS := hide (neg_set o2 tt ((d : Int) + 1) HTO.out hx1 (by omega))
                    have HON : Hid ((o2.set tt ((d : Int) + 1)).getD s 0 = (d : Int)) := by
                      show _ = _
                      rw [getD_setI, if_neg (fun e => by have h1 := e.1; subst h1; have h2 := HOD2.out; omega)]
                      exact HOD2.out
                    have HRN2 := hide (row_setI HRo2.out tt ((d : Int) + 1))
                    have HBN2 : Hid (Below w.heap.size w (wr.setCell ⟨w.heap.size, tt, none⟩ (.int .i64 ((d : Int) + 1)))) := HB4.out.setCell (p := ⟨w.heap.size, tt, none⟩) (Nat.le_refl _) _
                    clear hx1
                    go_wp2_with fail
                    go_roundw
                    case rel => exact ⟨k2 + 1, true, _, by omega, by go_num, rfl, HLN.out, HON.out, HRN2.out, HBN2.out, by have h1 := HNS.out; have h2 := HNG2.out.1; exact ⟨by omega, fun _ => by omega⟩⟩
                    case measure => simp [intOf]; omega
                  · have HLN := hide (HL2.out.pass HTE.out htS (by rw [HGT.out]; exact hx0))
                    go_wp2_with fail
                    go_roundw
                    case rel => exact ⟨k2 + 1, m2, o2, by omega, by go_num, rfl, HLN.out, HOD2.out, HRo2.out, HB4.out, HNG2.out⟩
                    case measure => simp [intOf]; omega
                · obtain rfl : k2 = I := by omega
                  have HLN := hide (HL2.out.next (fun _ => by rw [HNL.out]; exact Nat.le_refl _))
                  have hki2 : ¬ (k2 : Int) < (k2 : Int) := by omega
                  go_wp2_with fail
                  go_roundw
                  case rel => exact ⟨s + 1, m2, o2, by omega, by go_num, rfl, HLN.out, HRo2.out, HB4.out, HNG2.out⟩
                  case measure => simp [intOf]; omega
            · have HLN := hide (HL.out.next (fun e => absurd (HGD.out.symm.trans e) hod))
              generalize o[s] = x at *
              have hxb : (x != (d : Int)) = true := by simpa using hod
              go_wp2_with fail
              go_roundw
              case rel => exact ⟨s + 1, m, o, by omega, by go_num, rfl, HLN.out, HRo.out, HB2.out, HNG.out⟩
              case measure => simp [intOf]; omega
          · obtain rfl : s = k := by omega
            have hsi : ¬ (s : Int) < (s : Int) := by omega
            cases m with
            | false =>
              have HDS := hide HL.out.done
              have HOL := hide HL.out.len
              go_wp2_with fail
              go_ret
              exact ⟨w.heap.size, o, rfl, HRo.out, HOL.out, HDS.out, Nat.le_refl _, HB2.out⟩
            | true =>
              have HLD := hide HL.out.deeper
              have hlt3 := HNG.out.2 rfl
              have HLT := hide hlt3
              clear hlt3
              go_wp2_with fail
              go_roundg (neg o)
              case measure => have h1 := HLT.out; have h2 := HGK.out; omega
              case rel => exact ⟨d + 1, o, by go_num, rfl, by have h1 := HLT.out; have h2 := HDN.out; omega, HLD.out, HRo.out, HB2.out⟩
end Rf
end
section
namespace Rc
/-- is a list ahead of another one of the same length? -/
def bef : List Nat → List Nat → Bool
  | a :: ar, b :: bs => if a = b then bef ar bs else decide (a < b)
  | _, _ => false
theorem bef_irr : ∀ a, bef a a = false
  | [] => rfl
  | _ :: ar => by unfold bef; rw [if_pos rfl]; exact bef_irr ar
theorem bef_snoc : ∀ (p q : List Nat) (i j : Nat), p.length = q.length → bef (p ++ [i]) (q ++ [j]) = (bef p q || (decide (p = q) && decide (i < j)))
  | [], [], i, j, _ => by
    by_cases e : i = j
    · subst e; simp [bef]
    · simp [bef, e]
  | [], _ :: _, _, _, h => by simp at h
  | _ :: _, [], _, _, h => by simp at h
  | a :: p, b :: q, i, j, h => by
    have ih := bef_snoc p q i j (by simpa using h)
    simp only [List.cons_append, bef]
    by_cases e : a = b
    · subst e; rw [if_pos rfl, if_pos rfl, ih]; simp
    · rw [if_neg e, if_neg e]; simp [e]
theorem bef_asym : ∀ (a b : List Nat), bef a b = true → bef b a = false
  | [], _, h => by simp [bef] at h
  | _ :: _, [], h => by simp [bef] at h
  | x :: a, y :: b, h => by
    unfold bef at h ⊢
    by_cases e : x = y
    · subst e; rw [if_pos rfl] at h ⊢; exact bef_asym a b h
    · rw [if_neg e] at h
      rw [if_neg (fun k => e k.symm)]
      simp at h ⊢
      omega
theorem bef_trans : ∀ (a b c : List Nat), bef a b = true → bef b c = true → bef a c = true
  | [], _, _, h, _ => by simp [bef] at h
  | _ :: _, [], _, h, _ => by simp [bef] at h
  | _ :: _, _ :: _, [], _, h => by simp [bef] at h
  | x :: a, y :: b, z :: c, h, k => by
    unfold bef at h k ⊢
    by_cases e : x = y
    · subst e
      rw [if_pos rfl] at h
      by_cases e2 : x = z
      · subst e2; rw [if_pos rfl] at k ⊢; exact bef_trans a b c h k
      · rw [if_neg e2] at k ⊢; exact k
    · rw [if_neg e] at h
      simp at h
      by_cases e2 : y = z
      · subst e2; rw [if_neg e]; simpa using h
      · rw [if_neg e2] at k
        simp at k
        rw [if_neg (by omega)]
        simp
        omega
theorem bef_tri : ∀ (a b : List Nat), a.length = b.length → a = b ∨ bef a b = true ∨ bef b a = true
  | [], [], _ => .inl rfl
  | [], _ :: _, h => by simp at h
  | _ :: _, [], h => by simp at h
  | x :: a, y :: b, h => by
    by_cases e : x = y
    · subst e
      rcases bef_tri a b (by simpa using h) with h1 | h1 | h1
      · exact .inl (by rw [h1])
      · exact .inr (.inl (by unfold bef; rw [if_pos rfl]; exact h1))
      · exact .inr (.inr (by unfold bef; rw [if_pos rfl]; exact h1))
    · rcases Nat.lt_or_gt_of_ne e with h1 | h1
      · exact .inr (.inl (by unfold bef; rw [if_neg e]; simpa using h1))
      · exact .inr (.inr (by unfold bef; rw [if_neg (fun k => e k.symm)]; simpa using h1))
/-- in what order states are met: by the place of the one ahead, then by the input -/
structure Ordd (next : Nat → List Nat) (q : Qu) (k b : Nat) : Prop where
  first : ∀ (j f i u : Nat), q.met[j]? = some f → (j < k ∨ (j = k ∧ i < b)) → (next f)[i]? = some u → u ≠ 0 → ∃ a : Nat, q.met[a]? = some (q.at_ u).frm ∧ (a < j ∨ (a = j ∧ (q.at_ u).by_ ≤ i))
  ord : ∀ (x y s t : Nat), x < y → q.met[x]? = some s → q.met[y]? = some t → s ≠ 0 → t ≠ 0 → ∃ a c : Nat, q.met[a]? = some (q.at_ s).frm ∧ q.met[c]? = some (q.at_ t).frm ∧ (a < c ∨ (a = c ∧ (q.at_ s).by_ < (q.at_ t).by_))
  last : ∀ s, s ∈ q.met → s ≠ 0 → ∃ a : Nat, q.met[a]? = some (q.at_ s).frm ∧ (a < k ∨ (a = k ∧ (q.at_ s).by_ < b))
theorem see_ord {next : Nat → List Nat} {S : Nat} {q : Qu} {k b f s : Nat} (h : Ok next S q k b) (o : Ordd next q k b) (hf : q.met[k]? = some f) (hs : s < S) (hb : (next f)[b]? = some s) : Ordd next (see f q b s) k (b + 1) := by
  have hfm : f ∈ q.met := List.mem_of_getElem? hf
  have hkl : k < q.met.length := (List.getElem?_eq_some_iff.1 hf).1
  have h0m : 0 ∈ q.met := List.mem_of_getElem? h.hd
  have hin : ∀ (j g i u : Nat), q.met[j]? = some g → (j < k ∨ (j = k ∧ i < b)) → (next g)[i]? = some u → u ∈ q.met := fun j g i u hj hp hu => by
    rcases hp with hp | ⟨rfl, hp⟩
    · exact (h.done j g u hp hj (List.mem_of_getElem? hu)).1
    · exact (h.part g i u hj hp hu).1
  unfold see
  by_cases hv : (q.at_ s).far < 0
  · rw [if_pos hv]
    have hsm : s ∉ q.met := fun hm => by have := h.vis s hm; omega
    have hs0 : s ≠ 0 := fun e => hsm (by rw [e]; exact h0m)
    have hsl : s < q.steps.length := by rw [h.len]; exact hs
    have hat := fun t => at_set q s t ⟨(q.at_ f).far + 1, f, b⟩ (q.met ++ [s]) hsl
    have hold : ∀ t, t ∈ q.met → (Qu.mk (q.steps.set s ⟨(q.at_ f).far + 1, f, b⟩) (q.met ++ [s])).at_ t = q.at_ t := fun t ht => by
      rw [hat, if_neg]; intro e; subst e; exact hsm ht
    have hnew : (Qu.mk (q.steps.set s ⟨(q.at_ f).far + 1, f, b⟩) (q.met ++ [s])).at_ s = ⟨(q.at_ f).far + 1, f, b⟩ := by rw [hat, if_pos rfl]
    have hup : ∀ (a t : Nat), q.met[a]? = some t → (q.met ++ [s])[a]? = some t := fun a t ha => by
      rw [List.getElem?_append_left (List.getElem?_eq_some_iff.1 ha).1]; exact ha
    have hget : ∀ (i t : Nat), (q.met ++ [s])[i]? = some t → (i < q.met.length ∧ q.met[i]? = some t ∧ t ∈ q.met) ∨ (i = q.met.length ∧ t = s) := fun i t ht => by
      by_cases hi : i < q.met.length
      · rw [List.getElem?_append_left hi] at ht
        exact .inl ⟨hi, ht, List.mem_of_getElem? ht⟩
      · rw [List.getElem?_append_right (by omega)] at ht
        have hl : i - q.met.length < [s].length := (List.getElem?_eq_some_iff.1 ht).1
        have hi2 : i = q.met.length := by simp at hl; omega
        subst hi2
        simp at ht
        exact .inr ⟨rfl, ht.symm⟩
    refine ⟨?_, ?_, ?_⟩
    · intro j g i u hj hp hu hu0
      rcases hget j g hj with ⟨j1, j2, j3⟩ | ⟨j1, _⟩
      · by_cases hold' : j < k ∨ (j = k ∧ i < b)
        · obtain ⟨a, a1, a2⟩ := o.first j g i u j2 hold' hu hu0
          rw [hold u (hin j g i u j2 hold' hu)]
          exact ⟨a, hup _ _ a1, a2⟩
        · obtain rfl : j = k := by omega
          obtain rfl : i = b := by omega
          rw [hf] at j2
          cases j2
          rw [hb] at hu
          cases hu
          rw [hnew]
          exact ⟨j, hup _ _ hf, .inr ⟨rfl, Nat.le_refl _⟩⟩
      · omega
    · intro x y t u hxy hx hy ht hu
      rcases hget x t hx with ⟨x1, x2, x3⟩ | ⟨x1, _⟩
      · rcases hget y u hy with ⟨y1, y2, y3⟩ | ⟨y1, rfl⟩
        · obtain ⟨a, c, e1, e2, e3⟩ := o.ord x y t u hxy x2 y2 ht hu
          rw [hold t x3, hold u y3]
          exact ⟨a, c, hup _ _ e1, hup _ _ e2, e3⟩
        · obtain ⟨a, e1, e2⟩ := o.last t x3 ht
          rw [hold t x3, hnew]
          exact ⟨a, k, hup _ _ e1, hup _ _ hf, e2⟩
      · rcases hget y u hy with ⟨y1, _, _⟩ | ⟨y1, _⟩ <;> omega
    · intro t ht ht0
      rcases List.mem_append.1 ht with ht | ht
      · obtain ⟨a, e1, e2⟩ := o.last t ht ht0
        rw [hold t ht]
        exact ⟨a, hup _ _ e1, by omega⟩
      · simp at ht
        subst ht
        rw [hnew]
        exact ⟨k, hup _ _ hf, .inr ⟨rfl, Nat.lt_succ_self _⟩⟩
  · rw [if_neg hv]
    have hsm : s ∈ q.met := by
      refine Classical.byContradiction fun hm => hv ?_
      rw [h.nev s hs hm]; decide
    refine ⟨?_, o.ord, ?_⟩
    · intro j g i u hj hp hu hu0
      by_cases hold' : j < k ∨ (j = k ∧ i < b)
      · exact o.first j g i u hj hold' hu hu0
      · obtain rfl : j = k := by omega
        obtain rfl : i = b := by omega
        rw [hf] at hj
        cases hj
        rw [hb] at hu
        cases hu
        obtain ⟨a, e1, e2⟩ := o.last _ hsm hu0
        exact ⟨a, e1, by omega⟩
    · intro t ht ht0
      obtain ⟨a, e1, e2⟩ := o.last t ht ht0
      exact ⟨a, e1, by omega⟩
theorem seesTo_ord {next : Nat → List Nat} {S : Nat} {q : Qu} {k f : Nat} (h : Ok next S q k 0) (o : Ordd next q k 0) (hf : q.met[k]? = some f) (hn : ∀ s, s ∈ next f → s < S) : ∀ b, b ≤ (next f).length → Ordd next (seesTo (next f) f q b) k b
  | 0, _ => o
  | b + 1, hb => by
    obtain ⟨h1, h2⟩ := seesTo_ok h hf hn b (by omega)
    have o1 := seesTo_ord h o hf hn b (by omega)
    have hbl : b < (next f).length := by omega
    have e : (next f).getD b 0 = (next f)[b] := by simp [hbl]
    show Ordd next (see f (seesTo (next f) f q b) b ((next f).getD b 0)) k (b + 1)
    rw [e]
    exact see_ord h1 o1 h2 (hn _ (List.getElem_mem hbl)) (List.getElem?_eq_getElem hbl)
theorem next_ord {next : Nat → List Nat} {q : Qu} {k f : Nat} (o : Ordd next q k (next f).length) (hf : q.met[k]? = some f) : Ordd next q (k + 1) 0 := by
  refine ⟨fun j g i u hj hp hu hu0 => ?_, o.ord, fun t ht ht0 => ?_⟩
  · refine o.first j g i u hj ?_ hu hu0
    by_cases e : j = k
    · subst e
      rw [hf] at hj
      cases hj
      exact .inr ⟨rfl, (List.getElem?_eq_some_iff.1 hu).1⟩
    · exact .inl (by omega)
  · obtain ⟨a, e1, e2⟩ := o.last t ht ht0
    exact ⟨a, e1, by omega⟩
theorem begin_ord (next : Nat → List Nat) (S : Nat) : Ordd next (begin S) 0 0 := by
  have hm : ∀ s, s ∈ (begin S).met → s = 0 := fun s hs => by simpa [begin] using hs
  refine ⟨fun j f i u _ hp => by omega, fun x y s t _ hx _ hs => absurd (hm s (List.mem_of_getElem? hx)) hs, fun s hs h0 => absurd (hm s hs) h0⟩
theorem rounds_ord {next : Nat → List Nat} {S : Nat} {q : Qu} (h : Ok next S q 0 0) (o : Ordd next q 0 0) (hn : ∀ f s, f < S → s ∈ next f → s < S) : ∀ k, Ordd next (rounds next q k) k 0
  | 0 => o
  | k + 1 => by
    have ih := rounds_ok h hn k
    have io := rounds_ord h o hn k
    cases hm : (rounds next q k).met[k]? with
    | some f =>
      have e : rounds next q (k + 1) = seesTo (next f) f (rounds next q k) (next f).length := by rw [rounds, hm]
      rw [e]
      have hnf : ∀ s, s ∈ next f → s < S := fun s hs => hn f s (ih.lt f (List.mem_of_getElem? hm)) hs
      exact next_ord (seesTo_ord ih io hm hnf (next f).length (Nat.le_refl _)) (seesTo_ok ih hm hnf (next f).length (Nat.le_refl _)).2
    | none =>
      have e : rounds next q (k + 1) = rounds next q k := by rw [rounds, hm]
      rw [e]
      have hl : (rounds next q k).met.length ≤ k := List.getElem?_eq_none_iff.1 hm
      refine ⟨fun j f i u hj hp hu hu0 => io.first j f i u hj (.inl (by have := (List.getElem?_eq_some_iff.1 hj).1; omega)) hu hu0, io.ord, fun t ht ht0 => ?_⟩
      obtain ⟨a, e1, e2⟩ := io.last t ht ht0
      exact ⟨a, e1, by omega⟩
theorem walk_ord (next : Nat → List Nat) (S : Nat) (hS : 1 ≤ S) (hn : ∀ f s, f < S → s ∈ next f → s < S) : Ordd next (walk next S) S 0 := rounds_ord (begin_ok next S hS) (begin_ord next S) hn S
theorem nodup_same {l : List Nat} (h : l.Nodup) {x y t : Nat} (hx : l[x]? = some t) (hy : l[y]? = some t) : x = y := by
  obtain ⟨h1, h2⟩ := List.getElem?_eq_some_iff.1 hx
  obtain ⟨h3, h4⟩ := List.getElem?_eq_some_iff.1 hy
  exact (List.getElem_inj h).1 (h2.trans h4.symm)
/-- of one level, who is met earlier has the earlier way -/
theorem path_ord {next : Nat → List Nat} {S : Nat} {q : Qu} (h : Ok next S q S 0) (o : Ordd next q S 0) : ∀ (n x y s t : Nat), x < y → q.met[x]? = some s → q.met[y]? = some t → (q.at_ s).far = n → (q.at_ t).far = n → bef (pathOf q n s) (pathOf q n t) = true
  | 0, x, y, s, t, hxy, hx, hy, hs, ht => by
    have z : ∀ u, u ∈ q.met → (q.at_ u).far = 0 → u = 0 := fun u hu h0 => by
      refine Classical.byContradiction fun hne => ?_
      obtain ⟨p1, p2, _⟩ := h.par u hu hne
      have := h.vis _ p1
      omega
    have e1 := z s (List.mem_of_getElem? hx) hs
    have e2 := z t (List.mem_of_getElem? hy) ht
    rw [e1] at hx
    rw [e2] at hy
    have := nodup_same h.nd hx hy
    omega
  | n + 1, x, y, s, t, hxy, hx, hy, hs, ht => by
    have s0 : s ≠ 0 := fun e => by subst e; rw [h.zero] at hs; omega
    have t0 : t ≠ 0 := fun e => by subst e; rw [h.zero] at ht; omega
    obtain ⟨a, c, e1, e2, e3⟩ := o.ord x y s t hxy hx hy s0 t0
    obtain ⟨p1, p2, _⟩ := h.par s (List.mem_of_getElem? hx) s0
    obtain ⟨r1, r2, _⟩ := h.par t (List.mem_of_getElem? hy) t0
    show bef (pathOf q n (q.at_ s).frm ++ [(q.at_ s).by_]) (pathOf q n (q.at_ t).frm ++ [(q.at_ t).by_]) = true
    rw [bef_snoc _ _ _ _ (by rw [pathOf_len, pathOf_len])]
    rcases e3 with e3 | ⟨rfl, e3⟩
    · rw [path_ord h o n a c _ _ e3 e1 e2 (by omega) (by omega)]
      rfl
    · rw [e1] at e2
      rw [Option.some.inj e2]
      simp [e3]
/-- the way told is the least -/
theorem path_least (next : Nat → List Nat) (S : Nat) (hS : 1 ≤ S) (hn : ∀ f s, f < S → s ∈ next f → s < S) (n s i t : Nat) (hs : s < S) (ht : t < S) (hfs : ((walk next S).at_ s).far = n) (hft : ((walk next S).at_ t).far = (n : Int) + 1) (hi : (next s)[i]? = some t) :
    pathOf (walk next S) (n + 1) t = pathOf (walk next S) n s ++ [i] ∨ bef (pathOf (walk next S) (n + 1) t) (pathOf (walk next S) n s ++ [i]) = true := by
  have h : Ok next S (walk next S) S 0 := rounds_ok (begin_ok next S hS) hn S
  have o := walk_ord next S hS hn
  have hin : ∀ s, s < S → 0 ≤ ((walk next S).at_ s).far → s ∈ (walk next S).met := fun s hs h0 => by
    refine Classical.byContradiction fun hx => ?_
    rw [h.nev s hs hx] at h0
    exact absurd h0 (by decide)
  have t0 : t ≠ 0 := fun e => by subst e; rw [h.zero] at hft; omega
  obtain ⟨j, hj, ej⟩ := List.getElem_of_mem (hin s hs (by omega))
  have hjs : (walk next S).met[j]? = some s := by rw [List.getElem?_eq_getElem hj, ej]
  have hm := h.many
  obtain ⟨a, e1, e2⟩ := o.first j s i t hjs (.inl (by omega)) hi t0
  obtain ⟨p1, p2, _⟩ := h.par t (hin t ht (by omega)) t0
  have e : pathOf (walk next S) (n + 1) t = pathOf (walk next S) n ((walk next S).at_ t).frm ++ [((walk next S).at_ t).by_] := rfl
  rw [e, bef_snoc _ _ _ _ (by rw [pathOf_len, pathOf_len])]
  rcases e2 with e2 | ⟨rfl, e2⟩
  · right
    rw [path_ord h o n a j _ _ e2 e1 hjs (by omega) hfs]
    rfl
  · rw [e1] at hjs
    have e3 := Option.some.inj hjs
    rw [e3]
    by_cases e4 : ((walk next S).at_ t).by_ = i
    · left; rw [e4]
    · right
      have : ((walk next S).at_ t).by_ < i := by omega
      simp [this]
end Rc
end
end Go.Proofs.YtgldbliohpfljaaGreatDoor
