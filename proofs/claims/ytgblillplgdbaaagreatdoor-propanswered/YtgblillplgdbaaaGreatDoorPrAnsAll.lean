/-
  Plain facts: what holds of a latch. The walk of the statements' own proper: what holds of a latch. The walks of package prop's Answers and of its closure.
-/
import Derived.Test.YtgblillplgdbaaaGreatDoorPrViewAll
import Derived.Test.YtgblillplgdbaaaGreatDoorPrPlayAll
import Derived.Test.YtgblillplgdbaaaGreatDoorPrNamesAll
import Derived.Test.YtgblillplgdbaaaGreatDoorLdRdAll
import Derived.Deep.QuietTactic
import Derived.BigQuiet
namespace Go.Proofs.YtgblillplgdbaaaGreatDoor
section
/-- !a | m -/
def prE : Ex := ⟨7, [], [⟨5, [], [⟨2, [97], []⟩]⟩, ⟨2, [109], []⟩]⟩
/-- !m -/
def prG : Ex := ⟨5, [], [⟨2, [109], []⟩]⟩
theorem prE_parse : Ex.parse [33, 97, 32, 124, 32, 109] = .inr prE := by kernel_rfl
theorem prG_parse : Ex.parse [33, 109] = .inr prG := by kernel_rfl
namespace Pr
theorem has_of {ns : List Ld.Nme} {x : Ex} (h : ∀ s, s ∈ x.named true → 0 ≤ Ld.number ns s) : has ns x = true := by
  unfold has
  rw [List.all_eq_true]
  intro s hs
  exact decide_eq_true (h s ((mem_ordered _ _).1 hs))
theorem has_iff {ns : List Ld.Nme} {x : Ex} : has ns x = true ↔ ∀ s, s ∈ x.named true → 0 ≤ Ld.number ns s := by
  refine ⟨fun h s hs => ?_, has_of⟩
  unfold has at h
  rw [List.all_eq_true] at h
  exact of_decide_eq_true (h s ((mem_ordered _ _).2 hs))
end Pr
theorem prE_has : Pr.has Ld.lit.names prE = true := Pr.has_of (fun s hs => by
  have h : prE.named true = [[97], [109]] := by simp [prE, Ex.named]
  rw [h] at hs
  simp only [List.mem_cons, List.not_mem_nil, or_false] at hs
  rcases hs with rfl | rfl
  · rw [lit_num0]; decide
  · rw [lit_num1]; decide)
theorem prG_has : Pr.has Ld.lit.names prG = true := Pr.has_of (fun s hs => by
  have h : prG.named true = [[109]] := by simp [prG, Ex.named]
  rw [h] at hs
  simp only [List.mem_cons, List.not_mem_nil, or_false] at hs
  subst hs
  rw [lit_num1]; decide)
theorem lit_told (x y : Bool) : Sc.told Ld.lit.names [x, y] [97] = x ∧ Sc.told Ld.lit.names [x, y] [109] = y := by
  unfold Sc.told
  rw [lit_num0, lit_num1]
  exact ⟨rfl, rfl⟩
theorem lit_is (s i : Nat) (y b : Bool) (hs : Mc.state [(1, false), (2, false)] s = ⟨[false, y], [0, 0]⟩) (hi : bitsTo i 1 = [b]) : (Mc.after1 Ld.lit (Ld.kindL Ld.lit.names 1).length s i).is = [b, b || y] := by
  unfold Mc.after1
  rw [lit_q, lit_parts, hs, hi, lit_step]
theorem prE_good (s i : Nat) (y b : Bool) (hs : Mc.state [(1, false), (2, false)] s = ⟨[false, y], [0, 0]⟩) (hi : bitsTo i 1 = [b]) : Pr.good Ld.lit prE s i = true := by
  unfold Pr.good
  rw [lit_is s i y b hs hi]
  obtain ⟨h1, h2⟩ := lit_told b (b || y)
  simp only [prE, Ex.eval, List.map_cons, List.map_nil, List.any_cons, List.any_nil, id, h1, h2]
  cases b <;> simp
theorem prG_good (s i : Nat) (y b : Bool) (hs : Mc.state [(1, false), (2, false)] s = ⟨[false, y], [0, 0]⟩) (hi : bitsTo i 1 = [b]) : Pr.good Ld.lit prG s i = !(b || y) := by
  unfold Pr.good
  rw [lit_is s i y b hs hi]
  obtain ⟨h1, h2⟩ := lit_told b (b || y)
  simp only [prG, Ex.eval, List.map_cons, List.map_nil, List.any_cons, List.any_nil, id, h2]
  simp
theorem lit_st0 : Mc.state [(1, false), (2, false)] 0 = ⟨[false, false], [0, 0]⟩ := by kernel_rfl
theorem lit_st1 : Mc.state [(1, false), (2, false)] 1 = ⟨[false, true], [0, 0]⟩ := by kernel_rfl
theorem lit_b0 : bitsTo 0 1 = [false] := by kernel_rfl
theorem lit_b1 : bitsTo 1 1 = [true] := by kernel_rfl
theorem prE_all (s i : Nat) (hs : s < 2) (hi : i < 2) : Pr.good Ld.lit prE s i = true := by
  have h1 : s = 0 ∨ s = 1 := by omega
  have h2 : i = 0 ∨ i = 1 := by omega
  rcases h1 with rfl | rfl <;> rcases h2 with rfl | rfl
  · exact prE_good _ _ _ _ lit_st0 lit_b0
  · exact prE_good _ _ _ _ lit_st0 lit_b1
  · exact prE_good _ _ _ _ lit_st1 lit_b0
  · exact prE_good _ _ _ _ lit_st1 lit_b1
theorem prG_00 : Pr.good Ld.lit prG 0 0 = true := by rw [prG_good _ _ _ _ lit_st0 lit_b0]; rfl
theorem prG_01 : Pr.good Ld.lit prG 0 1 = false := by rw [prG_good _ _ _ _ lit_st0 lit_b1]; rfl
namespace Pr
/-- how long one waits, told by what holds -/
theorem wtC_eq (p : Ld.Prg) (x : Ex) (I : Nat) (q : Nat × Nat) (i : Nat) (hi : i < I) : wtC (goodRow p x I) q i = if good p x q.1 i then 0 else 1 := by
  unfold wtC waits
  rw [List.getD_eq_getElem?_getD, goodRow_at p x I q.1 i hi]
  cases good p x q.1 i <;> rfl
theorem go_lt {next : Nat → List Nat} {wt : Nat × Nat → Nat → Nat} {S most : Nat} (hn : ∀ f s, f < S → s ∈ next f → s < S) : ∀ (l : List Nat) (p : Nat × Nat), p.1 < S → Fine next wt most p l → (go next wt p l).1 < S
  | [], _, h, _ => h
  | i :: l, p, h, hf => by
    refine go_lt hn l _ (hn p.1 _ h ?_) hf.2.2
    show (next p.1).getD i 0 ∈ _
    rw [List.getD_eq_getElem?_getD, List.getElem?_eq_getElem hf.1]
    exact List.getElem_mem hf.1
end Pr
theorem prE_held (l : List Nat) : ¬ Pr.Broke (Mc.nexts Ld.lit) (Pr.wtC (Pr.goodRow Ld.lit prE (2 ^ (Ld.kindL Ld.lit.names 1).length))) 0 l := by
  rintro ⟨m, i, rfl, h1, h2, h3⟩
  rw [Mc.nexts_len, lit_q] at h2
  rw [Pr.wtC_eq _ _ _ _ _ (by rw [lit_q]; exact h2)] at h3
  have hs := Pr.go_lt (S := 2) (fun f s _ hs => by have := Mc.nexts_lt Ld.lit Ld.lit_check f s hs; rw [lit_total] at this; exact this) m (0, 0) (by decide) h1
  rw [prE_all _ _ hs h2] at h3
  simp at h3
theorem prG_broke : Pr.Broke (Mc.nexts Ld.lit) (Pr.wtC (Pr.goodRow Ld.lit prG (2 ^ (Ld.kindL Ld.lit.names 1).length))) 0 [1] := by
  refine ⟨[], 1, rfl, trivial, by rw [Mc.nexts_len, lit_q]; decide, ?_⟩
  rw [Pr.wtC_eq _ _ _ _ _ (by rw [lit_q]; decide)]
  show 0 < if Pr.good Ld.lit prG 0 1 then 0 else 1
  rw [prG_01]
  decide
theorem prG_one (l : List Nat) (hb : Pr.Broke (Mc.nexts Ld.lit) (Pr.wtC (Pr.goodRow Ld.lit prG (2 ^ (Ld.kindL Ld.lit.names 1).length))) 0 l) (hl : Pr.Least (Mc.nexts Ld.lit) (Pr.wtC (Pr.goodRow Ld.lit prG (2 ^ (Ld.kindL Ld.lit.names 1).length))) 0 l) : l = [1] := by
  refine Pr.Least.one hb prG_broke hl ?_
  rintro l' ⟨m, i, rfl, h1, h2, h3⟩ hs
  rw [List.reverse_append] at hs
  have hs' : Pr.SLr (i :: m.reverse) [1] := hs
  rcases hs' with h | ⟨h, h4⟩
  · cases hm : m.reverse with
    | nil => rw [hm] at h; exact h
    | cons a b => rw [hm] at h; exact h
  · have hm : m = [] := by simpa using h
    subst hm
    have hi : i = 0 := by omega
    subst hi
    rw [Pr.wtC_eq _ _ _ _ _ (by rw [lit_q]; decide)] at h3
    have h5 : 0 < if Pr.good Ld.lit prG 0 0 then 0 else 1 := h3
    rw [prG_00] at h5
    simp at h5
end
section
open Go.RowKit
/-- a row of inputs that a call has built, as a slice of numbers -/
theorem ints_own {W : World} {q g n c : Nat} {l : List Nat} (h : W.ownsRow q 3 1 (.slice (some ⟨g, 0, none⟩) n c) n (l.map natV)) (hl : l.length = n) (hb : ∀ i, i ∈ l → i ≤ 1000) : Ints W (.slice (some ⟨g, 0, none⟩) n c) (l.map fun i : Nat => (i : Int)) := by
  rcases h.2 with ⟨hx, _⟩ | ⟨g', cap, cur, hx, _, hcur, hcap, _, _, htk⟩
  · cases hx
  · simp only [Value.slice.injEq, Option.some.injEq, Addr.mk.injEq, true_and, and_true] at hx
    obtain ⟨rfl, rfl⟩ := hx
    refine .inr ⟨g, 0, c, by rw [List.length_map, hl], by rw [List.length_map, hl]; exact hcap, fun k x hx => ?_⟩
    rw [List.getElem?_map, Option.map_eq_some_iff] at hx
    obtain ⟨i, hi, rfl⟩ := hx
    refine ⟨?_, i64_small _ ⟨by omega, by have := hb i (List.mem_of_getElem? hi); omega⟩⟩
    rw [Nat.zero_add]
    exact row_cell hcur htk (by rw [List.getElem?_map, hi]; rfl)
set_option maxHeartbeats 4000000 in
set_option maxRecDepth 100000 in
theorem proper_any (w : World) (hL : Laid w) : Calls Tryz.prog 6 #[] w fun e w' => e = .returned (.bool true) ∧ Below w.heap.size w w' := by
  have HM := hide (kmade_any ⟨#[105, 110, 112, 117, 116, 32, 97, 10, 99, 111, 105, 108, 32, 109, 10, 115, 101, 116, 32, 109, 32, 61, 32, 97, 10]⟩ 9 w (by decide) hL (by omega))
  rw [lit_made 9 (by omega)] at HM
  clear hL
  go_enter Tryz.func6, Tryz.ntmps6
  go_wp2_with fail
  refine HM.out.mono ?_
  rintro e w1 ⟨hb1, bm, rfl, hbm, hmach, hck⟩
  have HB1 := hide hb1
  have HMA := hide hmach
  have HCK := hide hck
  have HPE := hide (Parse_any ⟨#[33, 97, 32, 124, 32, 109]⟩ w1 (by decide))
  change Hid (Calls _ _ _ _ (Parsed w1 (Ex.parse [33, 97, 32, 124, 32, 109]))) at HPE
  rw [prE_parse] at HPE
  clear hb1 hmach hck HM
  go_wp2_with fail
  refine HPE.out.mono ?_
  rintro e w2 ⟨hb2, v, rfl, hx2⟩
  have HB2 := hide hb2
  have HX2 := hide hx2
  obtain ⟨tu, yu, rfl⟩ := IsEx.iface _ v hx2
  have HPG := hide (Parse_any ⟨#[33, 109]⟩ w2 (by decide))
  change Hid (Calls _ _ _ _ (Parsed w2 (Ex.parse [33, 109]))) at HPG
  rw [prG_parse] at HPG
  clear hb2 hx2 HPE
  go_wp2_with fail
  refine HPG.out.mono ?_
  rintro e w3 ⟨hb3, v, rfl, hx3⟩
  have HB3 := hide (HB2.out.trans (hb3.mono HB2.out.size))
  have HX3 := hide hx3
  have HE3 := hide (IsEx.stay (Stay.below hb3) (fun g _ => trivial) prE _ HX2.out (ok' := fun _ => True))
  obtain ⟨tv, yv, rfl⟩ := IsEx.iface _ v hx3
  have HC1 := hide (PCheck_any _ bm Ld.lit prE _ w3 (HMA.out.below HB3.out) HCK.out (by rw [lit_total]; decide) (by rw [lit_q]; decide) HE3.out (by simp [prE, Ex.size]))
  clear hb3 hx3 HPG
  go_wp2_with fail
  refine HC1.out.mono ?_
  intro e w4 hq
  obtain ⟨hb4, hq⟩ := hq
  rw [prE_has, if_pos rfl] at hq
  obtain ⟨rfl, _⟩ | ⟨l, g, c, _, hbr, _⟩ := hq
  case inr => exact (prE_held l hbr).elim
  have HB4 := hide (HB3.out.trans (hb4.mono HB3.out.size))
  have HC2 := hide (PCheck_any _ bm Ld.lit prG _ w4 (HMA.out.below HB4.out) HCK.out (by rw [lit_total]; decide) (by rw [lit_q]; decide) (IsEx.stay (Stay.below hb4) (fun g _ => trivial) prG _ HX3.out (ok' := fun _ => True)) (by simp [prG, Ex.size]))
  clear hb4 HC1
  go_wp2_with fail
  refine HC2.out.mono ?_
  intro e w5 hq
  obtain ⟨hb5, hq⟩ := hq
  rw [prG_has, if_pos rfl] at hq
  obtain ⟨_, hh⟩ | ⟨l, g, c, rfl, hbr, hle, hown, _⟩ := hq
  case inl => exact (prG_broke.not (Nat.le_refl _) hh).elim
  obtain rfl := prG_one l hbr hle
  have HB5 := hide (HB4.out.trans (hb5.mono HB4.out.size))
  have HO5 : Hid (w5.ownsRow w4.heap.size 3 1 (.slice (some ⟨g, 0, none⟩) 1 c) 1 [natV 1]) := hown
  obtain ⟨w6, hw6⟩ : ∃ w6, w6 = w5.alloc (.cells #[.int .i64 1] 3) := ⟨_, rfl⟩
  have hb6 : Below w5.heap.size w5 w6 := by rw [hw6]; exact (Below.refl _ _).alloc (Nat.le_refl _) _
  have HS1 := hide (sameI_any [1] _ _ w6 ((ints_own (l := [1]) HO5.out rfl (fun i hi => by simp at hi; omega)).below hb6) (ints_one (b := w5.heap.size) (by rw [hw6]; exact RowIs.new w5 3 [.int .i64 1]) (i64_small _ (by decide))) (by decide))
  have HB6 := hide (HB1.out.trans ((HB5.out.trans (hb6.mono HB5.out.size)).mono HB1.out.size))
  rw [hw6] at HS1 HB6
  clear hw6 hb6 hb5 hown hle hbr HC2
  go_wp2_with fail
  refine HS1.out.mono ?_
  rintro e w7 ⟨rfl, hb7⟩
  have HB7 := hide (HB6.out.trans (hb7.mono HB6.out.size))
  clear hb7 HS1
  go_wp2_with fail
  go_ret
  exact ⟨rfl, HB7.out⟩
end
section
open Go.RowKit
namespace Pr
/-- how long one waits for an answer -/
def wtA (ra rb : Nat → List Bool) (p : Nat × Nat) (i : Nat) : Nat := waits p.2 ((ra p.1).getD i false) ((rb p.1).getD i false)
end Pr
/-- a cell of a table of rows of bools -/
theorem GT.cells {w0 w : World} {g S I s i : Nat} {us : List Nat} {row : Nat → List Bool} (h : GT w0 g S I us row w) (hus : us.length = S) (hs : s < S) (hi : i < I) : ∃ b, w.cell? ⟨g, s, none⟩ = some (.slice (some ⟨b, 0, none⟩) I I) ∧ w.cell? ⟨b, i, none⟩ = some (.bool ((row s).getD i false)) := by
  obtain ⟨b, hb⟩ : ∃ b, us[s]? = some b := ⟨_, List.getElem?_eq_getElem (by omega)⟩
  obtain ⟨hr, _⟩ := h.rows _ b hb
  have hl := h.len s (by omega)
  exact ⟨b, h.top.cell s (.slice (some ⟨b, 0, none⟩) I I) (by rw [List.getElem?_append_left (by simp; omega), List.getElem?_map, hb]; rfl), hr.cell i _ (by rw [List.getD_eq_getElem?_getD, List.getElem?_eq_getElem (by omega)]; rfl)⟩
set_option maxHeartbeats 4000000 in
set_option maxRecDepth 100000 in
theorem answers1_any (w0 w00 : World) (ba bb ga gb S I : Nat) (ua ub : List Nat) (ra rb : Nat → List Bool) (p : Nat × Nat) (i : Nat) (w : World) (hca : w.cell? ⟨ba, 0, none⟩ = some (.slice (some ⟨ga, 0, none⟩) S S)) (hcb : w.cell? ⟨bb, 0, none⟩ = some (.slice (some ⟨gb, 0, none⟩) S S)) (ha : GT w0 ga S I ua ra w) (hb : GT w00 gb S I ub rb w) (hua : ua.length = S) (hub : ub.length = S) (hp : p.1 < S) (hp2 : p.2 ≤ 1000) (hi : i < I) :
    Calls Tryz.prog 35 #[.agg #[.int .i64 (p.1 : Int), .int .i64 (p.2 : Int)], .int .i64 (i : Int), .pointer (some ⟨ba, 0, none⟩), .pointer (some ⟨bb, 0, none⟩)] w fun e w' => e = .returned (.int .i64 (Pr.wtA ra rb p i : Int)) ∧ Below w.heap.size w w' := by
  obtain ⟨b1, r0, r1⟩ := ha.cells hua hp hi
  obtain ⟨b2, s0, s1⟩ := hb.cells hub hp hi
  have HWT : Hid (Pr.wtA ra rb p i = Pr.waits p.2 ((ra p.1).getD i false) ((rb p.1).getD i false)) := rfl
  generalize (ra p.1).getD i false = x at *
  generalize (rb p.1).getD i false = y at *
  have HB : Hid (∀ o n, Below w.heap.size w ((w.alloc o).drewN n)) := fun o n => by
    have h1 : Below w.heap.size w (w.alloc o) := (Below.refl _ _).alloc (Nat.le_refl _) _
    exact h1.trans ⟨rfl, rfl, rfl, Nat.le_refl _, fun _ _ => rfl⟩
  have l1 : ba < w.heap.size := World.block_lt_of_cell? _ _ hca
  have l2 : bb < w.heap.size := World.block_lt_of_cell? _ _ hcb
  have l3 : ga < w.heap.size := World.block_lt_of_cell? _ _ r0
  have l4 : gb < w.heap.size := World.block_lt_of_cell? _ _ s0
  have l5 : b1 < w.heap.size := World.block_lt_of_cell? _ _ r1
  have l6 : b2 < w.heap.size := World.block_lt_of_cell? _ _ s1
  have hpi : (p.1 : Int) < (S : Int) := by omega
  have hii : (i : Int) < (I : Int) := by omega
  clear ha hb
  go_enter Tryz.func35, Tryz.ntmps35
  go_wp2_with fail
  go_quiet (first | (go_at_call 27; refine Calls.quiet_of_same (waits_any _ _ _ _ hp2)))
  go_wp2_with fail
  go_ret
  exact ⟨by rw [HWT.out]; rfl, HB.out _ _⟩
/-- what Answers comes to -/
def PAnswered (w : World) (p : Ld.Prg) (x y : Ex) (n : Nat) (e : Ending) (w' : World) : Prop := Below w.heap.size w w' ∧ (if Pr.has p.names x && Pr.has p.names y then SaidT w (Mc.nexts p) (Pr.wtA (Pr.goodRow p x (2 ^ (Ld.kindL p.names 1).length)) (Pr.goodRow p y (2 ^ (Ld.kindL p.names 1).length))) n e w' else e = .returned (.tuple #[.bool false, .slice none 0 0, .iface 73 (.int .i64 7)]))
/-- what Good comes to, told once more -/
theorem Gooded.or {w w' : World} {p : Ld.Prg} {x : Ex} {e : Ending} (h : Gooded w p x e w') : Below w.heap.size w w' ∧ ((Pr.has p.names x = true ∧ ∃ g us, e = .returned (.tuple #[.slice (some ⟨g, 0, none⟩) (Mc.total (Mc.parts p)) (Mc.total (Mc.parts p)), .nilIface]) ∧ us.length = Mc.total (Mc.parts p) ∧ GT w g (Mc.total (Mc.parts p)) (2 ^ (Ld.kindL p.names 1).length) us (Pr.goodRow p x (2 ^ (Ld.kindL p.names 1).length)) w') ∨ (Pr.has p.names x = false ∧ e = .returned (.tuple #[.slice none 0 0, .iface 73 (.int .i64 7)]))) := by
  obtain ⟨h1, h2⟩ := h
  refine ⟨h1, ?_⟩
  cases hh : Pr.has p.names x with
  | true => rw [hh, if_pos rfl] at h2; exact .inl ⟨rfl, h2⟩
  | false => rw [hh, if_neg Bool.false_ne_true] at h2; exact .inr ⟨rfl, h2⟩
set_option maxHeartbeats 4000000 in
set_option maxRecDepth 100000 in
theorem Answers_any (ok : Nat → Prop) (bm : Nat) (p : Ld.Prg) (x y : Ex) (u v : Value) (n : Nat) (w : World) (hm : IsMach w bm p) (hck : Ld.check p = none) (hS : Mc.total (Mc.parts p) ≤ 4096) (hq : (Ld.kindL p.names 1).length ≤ 6) (hx : IsEx ok w x u) (hy : IsEx ok w y v) (hlx : x.size ≤ 1000000) (hly : y.size ≤ 1000000) (hn : n ≤ 20) :
    Calls Tryz.prog 15 #[.pointer (some ⟨bm, 0, none⟩), u, v, .int .i64 (n : Int)] w (PAnswered w p x y n) := by
  have hmf : ∀ (fn : Fn) (first cap : Array Value) (w : World), (Instr.makeFunc fn first cap).run Tryz.prog w = .ok (.func fn first cap) w := fun _ _ _ _ => rfl
  have HG := hide (Good_any ok bm p x u w hm hck hS hq hx hlx)
  have HGY : Hid (∀ W, Below w.heap.size w W → Calls Tryz.prog 24 #[.pointer (some ⟨bm, 0, none⟩), v] W (Gooded W p y)) := fun W hW => Good_any (fun _ => True) bm p y v W (hm.below hW) hck hS hq (IsEx.stay (Stay.below hW) (fun g _ => trivial) y _ hy) hly
  obtain ⟨gN, uN, hna⟩ := hm.next
  have HNA := hide hna
  have hS1 := Mc.total_pos (Mc.parts p) (Mc.parts_ok p)
  have hI6 : 2 ^ (Ld.kindL p.names 1).length ≤ 64 := Nat.pow_le_pow_right (n := 2) (by decide) hq
  have HNL := hide (fun s => Mc.nexts_len p s)
  have HNX : Hid (∀ f s, f < Mc.total (Mc.parts p) → s ∈ Mc.nexts p f → s < Mc.total (Mc.parts p)) := fun f s _ hs => Mc.nexts_lt p hck f s hs
  have HPC : Hid (∀ e w', PAnswered w p x y n e w' ↔ (Below w.heap.size w w' ∧ (if Pr.has p.names x && Pr.has p.names y then SaidT w (Mc.nexts p) (Pr.wtA (Pr.goodRow p x (2 ^ (Ld.kindL p.names 1).length)) (Pr.goodRow p y (2 ^ (Ld.kindL p.names 1).length))) n e w' else e = .returned (.tuple #[.bool false, .slice none 0 0, .iface 73 (.int .i64 7)])))) := fun _ _ => Iff.rfl
  have HGD : Hid (∀ (W : World) (x : Ex) e w', Gooded W p x e w' → Below W.heap.size W w' ∧ ((Pr.has p.names x = true ∧ ∃ g us, e = .returned (.tuple #[.slice (some ⟨g, 0, none⟩) (Mc.total (Mc.parts p)) (Mc.total (Mc.parts p)), .nilIface]) ∧ us.length = Mc.total (Mc.parts p) ∧ GT W g (Mc.total (Mc.parts p)) (2 ^ (Ld.kindL p.names 1).length) us (Pr.goodRow p x (2 ^ (Ld.kindL p.names 1).length)) w') ∨ (Pr.has p.names x = false ∧ e = .returned (.tuple #[.slice none 0 0, .iface 73 (.int .i64 7)])))) := fun _ _ _ _ h => h.or
  obtain ⟨tu, yu, rfl⟩ := IsEx.iface x u hx
  obtain ⟨tv, yv, rfl⟩ := IsEx.iface y v hy
  clear hna hx hy hm hq hck
  generalize Mc.total (Mc.parts p) = S at *
  generalize 2 ^ (Ld.kindL p.names 1).length = I at *
  have hn0 : Decidable.decide ((n : Int) < 0) = false := decide_eq_false (by omega)
  have hn1 : Decidable.decide (20 < (n : Int)) = false := decide_eq_false (by omega)
  go_enter Tryz.func15, Tryz.ntmps15
  go_wp2_with fail
  refine HG.out.mono ?_
  intro e w1 hg
  obtain ⟨hb1, ⟨hhx, g, ua, rfl, hua, hgt⟩ | ⟨hhx, rfl⟩⟩ := HGD.out _ _ e w1 hg
  · clear hg HG
    obtain ⟨w2, hw2⟩ : ∃ w2, w2 = w1.alloc (.cells #[.slice (some ⟨g, 0, none⟩) S S] 80) := ⟨_, rfl⟩
    have hb12 : Below w1.heap.size w1 w2 := by rw [hw2]; exact (Below.refl _ _).alloc (Nat.le_refl _) _
    have hb2 : Below w.heap.size w w2 := by rw [hw2]; exact hb1.alloc hb1.size _
    have hc2 : w2.cell? ⟨w1.heap.size, 0, none⟩ = some (.slice (some ⟨g, 0, none⟩) S S) := by rw [hw2]; exact Lib.cell_of_heap (heap_alloc_new w1 _) 0
    have hl2 : w1.heap.size < w2.heap.size := by rw [hw2]; simp
    have HC2 := hide hc2
    have HB2 := hide hb2
    have HGT2 := hide (hgt.below hb12)
    have HUA := hide hua
    have HHX := hide hhx
    have HG2 := hide (HGY.out w2 hb2)
    have HW2 := hide hw2
    rw [hw2] at HG2
    clear hw2 hb12 hb2 hc2 hgt hua hb1 HGY hhx
    go_wp2_with fail
    refine HG2.out.mono ?_
    rw [← HW2.out]
    intro e w3 hg
    obtain ⟨hb3, ⟨hhy, g3, ub, rfl, hub, hgt3⟩ | ⟨hhy, rfl⟩⟩ := HGD.out _ _ e w3 hg
    · clear hg HG2 HGD
      obtain ⟨w4, hw4⟩ : ∃ w4, w4 = w3.alloc (.cells #[.slice (some ⟨g3, 0, none⟩) S S] 80) := ⟨_, rfl⟩
      have hb34 : Below w3.heap.size w3 w4 := by rw [hw4]; exact (Below.refl _ _).alloc (Nat.le_refl _) _
      have hb24 : Below w2.heap.size w2 w4 := by rw [hw4]; exact hb3.alloc hb3.size _
      have hb4 : Below w.heap.size w w4 := HB2.out.trans (hb24.mono HB2.out.size)
      have hc4 : w4.cell? ⟨w3.heap.size, 0, none⟩ = some (.slice (some ⟨g3, 0, none⟩) S S) := by rw [hw4]; exact Lib.cell_of_heap (heap_alloc_new w3 _) 0
      have hl4 : w3.heap.size < w4.heap.size := by rw [hw4]; simp
      have hz24 := hb24.size
      have hc2' := (hb24.cell (p := ⟨w1.heap.size, 0, none⟩) hl2).trans HC2.out
      have hgt2' := HGT2.out.below hb24
      have hgt4 := hgt3.below hb34
      have HWA : Hid (Waiting w4 S n I (.func (.func 35) #[] #[.pointer (some ⟨w1.heap.size, 0, none⟩), .pointer (some ⟨w3.heap.size, 0, none⟩)]) (Pr.wtA (Pr.goodRow p x I) (Pr.goodRow p y I))) :=
        ⟨35, _, rfl, fun _ _ => by kernel_rfl, fun q i W hW hq1 hq2 hi => answers1_any w w2 w1.heap.size w3.heap.size g g3 S I ua ub _ _ q i W ((hW.cell (p := ⟨w1.heap.size, 0, none⟩) (by show w1.heap.size < _; omega)).trans hc2') ((hW.cell (p := ⟨w3.heap.size, 0, none⟩) hl4).trans hc4) (hgt2'.below hW) (hgt4.below hW) HUA.out hub hq1 (by omega) hi⟩
      have HSR := hide (search_any bm S I gN n (Mc.nexts p) uN _ _ w4 (HNA.out.below hb4) hS1 hS hI6 hn HNL.out HNX.out HWA.out (fun q i hq2 => by unfold Pr.wtA Pr.waits; split <;> omega))
      have hhxy : (Pr.has p.names x && Pr.has p.names y) = true := by rw [HHX.out, hhy]; rfl
      have HFN : Hid (∀ e w5, Searched w4 (Mc.nexts p) (Pr.wtA (Pr.goodRow p x I) (Pr.goodRow p y I)) n e w5 → (e = .returned (.tuple #[.bool true, .slice none 0 0]) ∧ PAnswered w p x y n (.returned (.tuple #[.bool true, .slice none 0 0, .nilIface])) w5) ∨ ∃ g m c, e = .returned (.tuple #[.bool false, .slice (some ⟨g, 0, none⟩) m c]) ∧ PAnswered w p x y n (.returned (.tuple #[.bool false, .slice (some ⟨g, 0, none⟩) m c, .nilIface])) w5) := fun e w5 hs => by
        have hb5 : Below w.heap.size w w5 := hb4.trans (hs.1.mono hb4.size)
        rcases SaidT.of hb4.size hs with ⟨h1, h2⟩ | ⟨g, m, c, h1, h2⟩
        · refine .inl ⟨h1, (HPC.out _ _).2 ⟨hb5, ?_⟩⟩
          rw [hhxy, if_pos rfl]; exact h2
        · refine .inr ⟨g, m, c, h1, (HPC.out _ _).2 ⟨hb5, ?_⟩⟩
          rw [hhxy, if_pos rfl]; exact h2
      rw [hw4] at HSR
      have HW4 := hide hw4
      clear hw4 hb34 hb24 hb4 hc4 hl4 hc2' hgt2' hgt4 hgt3 HWA hub hb3 HPC hhy hhxy
      go_wp2_with fail
      refine HSR.out.mono ?_
      rw [← HW4.out]
      intro e w5 hs
      rcases HFN.out e w5 hs with ⟨rfl, h1⟩ | ⟨g5, n5, c5, rfl, h1⟩
      · have H1 := hide h1
        clear h1 hs HSR HFN
        go_wp2_with fail
        refine bodyPost_ret (results_tmp3 rfl _ _ _) rfl ?_
        exact H1.out
      · have H1 := hide h1
        clear h1 hs HSR HFN
        go_wp2_with fail
        refine bodyPost_ret (results_tmp3 rfl _ _ _) rfl ?_
        exact H1.out
    · have HFN : Hid (∀ o, PAnswered w p x y n (.returned (.tuple #[.bool false, .slice none 0 0, .iface 73 (.int .i64 7)])) (w3.alloc o)) := fun o => by
        have hb4 : Below w.heap.size w w3 := HB2.out.trans (hb3.mono HB2.out.size)
        refine (HPC.out _ _).2 ⟨hb4.alloc hb4.size _, ?_⟩
        rw [hhy, Bool.and_false, if_neg Bool.false_ne_true]
      clear hb3 hg HG2 hhy
      go_wp2_with fail
      refine bodyPost_ret (results_tmp3 rfl _ _ _) rfl ?_
      exact HFN.out _
  · have HFN : Hid (∀ o, PAnswered w p x y n (.returned (.tuple #[.bool false, .slice none 0 0, .iface 73 (.int .i64 7)])) (w1.alloc o)) := fun o => by
      refine (HPC.out _ _).2 ⟨hb1.alloc hb1.size _, ?_⟩
      rw [hhx, Bool.false_and, if_neg Bool.false_ne_true]
    clear hb1 hg HG hhx
    go_wp2_with fail
    refine bodyPost_ret (results_tmp3 rfl _ _ _) rfl ?_
    exact HFN.out _
end
end Go.Proofs.YtgblillplgdbaaaGreatDoor
