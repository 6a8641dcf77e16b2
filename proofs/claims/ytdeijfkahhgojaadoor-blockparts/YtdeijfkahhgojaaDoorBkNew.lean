/-
  The walks of package block's newPairs, and of what it makes; of path, and of slices.Reverse over numbers.
-/
import Derived.Test.YtdeijfkahhgojaaDoorBkLst
import Derived.Test.YtdeijfkahhgojaaDoorBkBfs
import Derived.Test.YtdeijfkahhgojaaDoorShelf3
import Derived.Sort.OwnSortedInts
namespace Go.Proofs.YtdeijfkahhgojaaDoor
namespace Bk
open Go.RowKit Go.Maps Go.Sort
def boolV (b : Bool) : Value := .bool b
/-- what was asked for, in memory: how many states, the row -/
structure AMem (W : World) (n bS bA gA : Nat) (asked : List Bool) : Prop where
  st : W.cell? ⟨bS, 0, none⟩ = some (.int .i64 (n : Int))
  sl : W.cell? ⟨bA, 0, none⟩ = some (.slice (some ⟨gA, 0, none⟩) (n * n) (n * n))
  row : RowIs W gA 4 (asked.map boolV)
theorem AMem.below {W W' : World} {n bS bA gA : Nat} {asked : List Bool} (h : AMem W n bS bA gA asked) (hb : Below W.heap.size W W') : AMem W' n bS bA gA asked := ⟨kept hb h.st, kept hb h.sl, h.row.below hb⟩
theorem AMem.cell {W : World} {n bS bA gA : Nat} {asked : List Bool} (h : AMem W n bS bA gA asked) (i : Nat) (hi : i < asked.length) : W.cell? ⟨gA, i, none⟩ = some (.bool (asked.getD i false)) :=
  h.row.cell i _ (by rw [List.getElem?_map, List.getElem?_eq_getElem hi, getD_in _ _ _ hi]; rfl)
/-- what isNew comes to -/
def NewDone (W : World) (n gA : Nat) (asked : List Bool) (x y : Nat) (e : Ending) (W' : World) : Prop := e = .returned (.bool (!asked.getD (code n x y) false)) ∧ (asked.getD (code n x y) false = true → W' = W) ∧ (asked.getD (code n x y) false = false → W' = W.setCell ⟨gA, code n x y, none⟩ (.bool true))
set_option maxHeartbeats 4000000 in
set_option maxRecDepth 100000 in
theorem isNew_any (n x y bS bA gA : Nat) (asked : List Bool) (W : World) (h : AMem W n bS bA gA asked) (hl : asked.length = n * n) (hn : n ≤ 500) (hx : x < n) (hy : y < n) :
    Calls Tryd.prog 45 #[.int .i64 (x : Int), .int .i64 (y : Int), .pointer (some ⟨bS, 0, none⟩), .pointer (some ⟨bA, 0, none⟩)] W (NewDone W n gA asked x y) := by
  have hc := code_lt n x y hx hy
  have c0 := h.st
  have c1 := h.sl
  have c2 := h.cell (code n x y) (by rw [hl]; exact hc)
  have c3 := h.row.frozen (code n x y)
  have hnn : n * n ≤ 500 * 500 := Nat.mul_le_mul hn hn
  have hm1 : min x y * n ≤ 500 * 500 := Nat.mul_le_mul (by omega) hn
  have hP : min (x : Int) (y : Int) * (n : Int) = ((min x y * n : Nat) : Int) := by rw [Int.natCast_mul]; congr 1; omega
  have hmx : max (x : Int) (y : Int) = ((max x y : Nat) : Int) := by omega
  have hsum : ((min x y * n : Nat) : Int) + ((max x y : Nat) : Int) = ((code n x y : Nat) : Int) := by unfold code; omega
  have hmx5 : max x y < 500 := by omega
  have hc5 : code n x y < 500 * 500 := by omega
  unfold NewDone
  generalize asked.getD (code n x y) false = z at *
  generalize code n x y = c at *
  generalize min x y * n = P at *
  generalize max x y = mx at *
  clear h hl
  generalize n * n = Q at *
  have hci : (c : Int) < (Q : Int) := by omega
  cases z with
  | true =>
    go_enter Tryd.func45, Tryd.ntmps45
    go_wp2_with fail
    go_ret
    exact ⟨rfl, fun _ => rfl, fun h => by cases h⟩
  | false =>
    go_enter Tryd.func45, Tryd.ntmps45
    go_wp2_with fail
    go_ret
    exact ⟨rfl, fun h => (by cases h), fun _ => rfl⟩
/-- what newPairs comes to: nothing was asked for -/
def NewsDone (w : World) (n : Nat) (e : Ending) (w' : World) : Prop := ∃ bS bA gA, e = .returned (.func (.func 45) #[] #[.pointer (some ⟨bS, 0, none⟩), .pointer (some ⟨bA, 0, none⟩)]) ∧ AMem w' n bS bA gA (List.replicate (n * n) false) ∧ w.heap.size ≤ bS ∧ w.heap.size ≤ bA ∧ w.heap.size ≤ gA ∧ bS ≠ gA ∧ bA ≠ gA ∧ Below w.heap.size w w'
set_option maxHeartbeats 4000000 in
set_option maxRecDepth 100000 in
theorem newPairs_any (n nc : Nat) (na : Option Addr) (tv : Value) (w : World) (ht : ∃ a n c, tv = .slice a n c) (hn : n ≤ 500) :
    Calls Tryd.prog 38 #[.agg #[.slice na n nc, tv]] w (NewsDone w n) := by
  have hmf : ∀ (fn : Fn) (first cap : Array Value) (w : World), (Instr.makeFunc fn first cap).run Tryd.prog w = .ok (.func fn first cap) w := fun _ _ _ _ => rfl
  obtain ⟨ta, tn, tc, rfl⟩ := ht
  have hnn : n * n ≤ 500 * 500 := Nat.mul_le_mul hn hn
  have hP : (n : Int) * (n : Int) = ((n * n : Nat) : Int) := by rw [Int.natCast_mul]
  have HEQ : Hid (NewsDone w n = NewsDone w n) := rfl
  obtain ⟨Q, hQ⟩ : ∃ Q, Q = n * n := ⟨_, rfl⟩
  have HQ := hide hQ
  have mk := fun w => makeBs Q (by omega) w
  obtain ⟨cO, hcO⟩ : ∃ c, c = List.replicate Q (Value.bool false) := ⟨_, rfl⟩
  rw [← hcO] at mk
  rw [← hQ] at hP hnn
  obtain ⟨wA, hwA⟩ : ∃ wA, wA = w.alloc (.cells #[.slice na n nc, .slice ta tn tc] 24) := ⟨_, rfl⟩
  obtain ⟨wB, hwB⟩ : ∃ wB, wB = wA.alloc (.cells #[.int .i64 (n : Int)] 3) := ⟨_, rfl⟩
  obtain ⟨wC, hwC⟩ : ∃ wC, wC = wB.alloc (.cells ⟨cO⟩ 4) := ⟨_, rfl⟩
  obtain ⟨wD, hwD⟩ : ∃ wD, wD = wC.alloc (.cells #[.slice (some ⟨w.heap.size + 2, 0, none⟩) Q Q] 83) := ⟨_, rfl⟩
  have hzA : wA.heap.size = w.heap.size + 1 := by rw [hwA]; simp
  have hzB : wB.heap.size = w.heap.size + 2 := by rw [hwB]; simp [hzA]
  have hzC : wC.heap.size = w.heap.size + 3 := by rw [hwC]; simp [hzB]
  have hAB : Below w.heap.size w wA := by rw [hwA]; exact (Below.refl _ _).alloc (Nat.le_refl _) _
  have hBC : Below wA.heap.size wA wB := by rw [hwB]; exact (Below.refl _ _).alloc (Nat.le_refl _) _
  have hCD : Below wB.heap.size wB wC := by rw [hwC]; exact (Below.refl _ _).alloc (Nat.le_refl _) _
  have hDE : Below wC.heap.size wC wD := by rw [hwD]; exact (Below.refl _ _).alloc (Nat.le_refl _) _
  have HFIN : Hid (NewsDone w n (.returned (.func (.func 45) #[] #[.pointer (some ⟨w.heap.size + 1, 0, none⟩), .pointer (some ⟨w.heap.size + 3, 0, none⟩)])) wD) := by
    refine ⟨_, _, w.heap.size + 2, rfl, ⟨?_, ?_, ?_⟩, by omega, by omega, by omega, by omega, by omega, then_ hAB (then_ hBC (then_ hCD hDE))⟩
    · refine kept (then_ hCD hDE) ?_
      rw [hwB, ← hzA, Lib.cell_of_heap (heap_alloc_new wA _)]; rfl
    · rw [← hQ, hwD, ← hzC, Lib.cell_of_heap (heap_alloc_new wC _)]; rfl
    · refine RowIs.below ?_ hDE
      rw [← hQ, hwC, ← hzB, hcO]
      have h := RowIs.new wB 4 (List.replicate Q (Value.bool false))
      rw [List.map_replicate]
      exact h
  clear hcO hQ HEQ hzA hzB hzC hAB hBC hCD hDE
  go_enter Tryd.func38, Tryd.ntmps38
  go_wp2_with fail
  rw [← hwA, ← hwB, ← hwC, ← hwD]
  go_ret
  exact HFIN.out
theorem rev_any (base : Nat) (v : Value) (l : List Int) (w : World) (h : Rw w base v l) (hl : l.length ≤ 1000000) :
    Calls Tryd.prog 46 #[v] w fun e w' => e = .returned (.tuple #[]) ∧ Rw w' base v l.reverse ∧ w.grownBy w' v.ownBlock := by
  have hm : ∀ l : List Int, l.map intV = l.map (Value.int .i64) := fun l => rfl
  unfold Rw at *
  rw [List.length_reverse]
  rcases h with ⟨h1, ⟨rfl, h2⟩ | ⟨g, cap, cur, rfl, hg, hb, hn, hcap, hcur, ht⟩⟩
  · refine (Tryd.slices_Reverse_int_empty none 0 w).mono ?_
    rintro e w' ⟨rfl, rfl⟩
    have hl0 : l = [] := List.length_eq_zero_iff.1 h2
    subst hl0
    exact ⟨rfl, ⟨rfl, .inl ⟨rfl, rfl⟩⟩, rfl, rfl, rfl, Nat.le_refl _, fun _ _ _ => rfl⟩
  · have hH := holds_of_blockI (ss := l) hb (by rw [← hm]; simpa using ht)
    have hc := Tryd.slices_Reverse_int g 0 cap l w hH (by omega)
    refine hc.mono ?_
    rintro e w' ⟨rfl, n, rfl⟩
    refine ⟨rfl, ?_, ?_⟩
    · have h3 := ownsRow_sortedI (w := w) (base := base) (g := g) (cap := cap) (n := n) (e := 3) (os := #[]) (cur := cur) (ss := l) (ts := l.reverse) (by simp) hg hb hn hcap hcur
      rw [grow_empty] at h3
      rw [hm]
      exact h3
    · have h3 := grownBy_sortedI (w := w) (g := g) (n := n) (os := #[]) l.reverse.toArray
      rw [grow_empty] at h3
      exact h3
/-- a pair's four cells -/
def ppCells (m : Pp) : List Value := [.int .i64 (m.a : Int), .int .i64 (m.b : Int), .int .i64 m.fr, .int .i64 (m.i : Int)]
theorem flat4 : ∀ (l : List Pp) (i : Nat) (a : Pp), l[i]? = some a → ∀ j, j < 4 → (l.flatMap ppCells)[i * 4 + j]? = (ppCells a)[j]?
  | [], i, a, h, _, _ => by simp at h
  | b :: r, 0, a, h, j, hj => by
    simp only [List.getElem?_cons_zero, Option.some.injEq] at h
    subst h
    rw [List.flatMap_cons, List.getElem?_append_left (by simp [ppCells]; omega)]
    congr 1
    omega
  | b :: r, i + 1, a, h, j, hj => by
    simp only [List.getElem?_cons_succ] at h
    have ih := flat4 r i a h j hj
    rw [List.flatMap_cons, List.getElem?_append_right (by simp [ppCells]; omega)]
    have : (i + 1) * 4 + j - (ppCells b).length = i * 4 + j := by simp [ppCells]; omega
    rw [this]; exact ih
/-- the pairs that were met, in memory -/
def MetAt (W : World) (q : Nat) (mv : Value) (M : List Pp) : Prop := W.ownsRow q 77 4 mv M.length (M.flatMap ppCells)
theorem MetAt.below {W W' : World} {q : Nat} {mv : Value} {M : List Pp} (h : MetAt W q mv M) (hb : Below W.heap.size W W') : MetAt W' q mv M := own_below h hb
theorem MetAt.cells {W : World} {q : Nat} {a : Option Addr} {n c : Nat} {M : List Pp} (h : MetAt W q (.slice a n c) M) (j : Nat) (m : Pp) (hm : M[j]? = some m) : ∃ g, a = some ⟨g, 0, none⟩ ∧ W.cell? ⟨g, j * 4, none⟩ = some (.int .i64 (m.a : Int)) ∧ W.cell? ⟨g, j * 4 + 1, none⟩ = some (.int .i64 (m.b : Int)) ∧ W.cell? ⟨g, j * 4 + 2, none⟩ = some (.int .i64 m.fr) ∧ W.cell? ⟨g, j * 4 + 3, none⟩ = some (.int .i64 (m.i : Int)) := by
  have hl := (List.getElem?_eq_some_iff.1 hm).1
  rcases h.2 with ⟨_, h0⟩ | ⟨g, cap, cur, hx, _, hcur, _, _, _, htk⟩
  · omega
  · simp only [Value.slice.injEq] at hx
    have hc := fun j' hj' => flat4 M j m hm j' hj'
    exact ⟨g, hx.1, row_cell hcur htk (hc 0 (by omega)), row_cell hcur htk (hc 1 (by omega)), row_cell hcur htk (hc 2 (by omega)), row_cell hcur htk (hc 3 (by omega))⟩
/-- what path comes to -/
def PthDone (w : World) (M : List Pp) (K : Nat) (e : Ending) (w' : World) : Prop := ∃ a c, e = .returned (.slice a (pathTo M K).length c) ∧ Rw w' w.heap.size (.slice a (pathTo M K).length c) (ints (pathTo M K)) ∧ Below w.heap.size w w'
set_option maxHeartbeats 4000000 in
set_option maxRecDepth 100000 in
theorem path_any (t : Tb) (a b K J K' q : Nat) (M : List Pp) (mv : Value) (w : World) (hi : PInv t a b M K' J) (hM : MetAt w q mv M) (hK : K < M.length) (hl : M.length ≤ 500000) :
    Calls Tryd.prog 39 #[mv, .int .i64 (K : Int)] w (PthDone w M K) := by
  obtain ⟨i0, hi0, hz0, hz1, hz2⟩ := info_parts Tryd.infoInt
  have HI := hide hi
  have HM := hide hM
  obtain ⟨ma, mc, rfl⟩ := own_slice hM
  obtain ⟨L, hL⟩ : ∃ L, L = M.length := ⟨_, rfl⟩
  have HL := hide hL
  rw [← hL] at HM hl hK ⊢
  clear hi hM hL
  go_enter Tryd.func39, Tryd.ntmps39
  go_wp2_with fail
  go_loopw [1, 5] (fun kv v wr => ∃ (j : Nat) (r : List Int) (ra : Option Addr) (rc : Nat), j ≤ K ∧ kv = .int .i64 (j : Int) ∧ v = .slice ra r.length rc ∧ Hid (ints (pathTo M K) = ints (pathTo M j) ++ r.reverse) ∧ Hid (Rw wr w.heap.size (.slice ra r.length rc) r) ∧ Hid (Below w.heap.size w wr)) (fun kv _ _ => (intOf kv).toNat)
  case atStart => exact ⟨K, [], none, 0, Nat.le_refl _, rfl, rfl, (List.append_nil _).symm, World.ownsRow_nil _ _ _ _, Below.refl _ _⟩
  case round =>
    obtain ⟨j, r, ra, rc, hj, rfl, rfl, HP, HO, HB⟩ := hrel
    have hjl : j < M.length := by rw [← HL.out]; omega
    obtain ⟨m, hm⟩ : ∃ m, M[j]? = some m := ⟨_, List.getElem?_eq_getElem hjl⟩
    obtain ⟨g, rfl, c0, c1, c2, c3⟩ := (MetAt.below HM.out HB.out).cells j m hm
    have hji : (j : Int) < (L : Int) := by omega
    have hrl : r.length ≤ K := by
      have h1 := path_len HI.out K _ (List.getElem?_eq_getElem (by rw [← HL.out]; exact hK))
      have h2 := congrArg List.length HP.out
      rw [ints_len, List.length_append, List.length_reverse] at h2
      omega
    by_cases hj0 : j = 0
    · have hfr : m.fr = -1 := by subst hj0; have := HI.out.root; rw [hm] at this; cases this; rfl
      rw [hfr] at c2
      have HPE : Hid (ints (pathTo M K) = r.reverse) := by have h := HP.out; rw [hj0, pathTo_zero] at h; exact h
      have HR := hide (rev_any w.heap.size _ r wr HO.out (by omega))
      have HFN : Hid (∀ W, Rw W w.heap.size (.slice ra r.length rc) r.reverse → wr.grownBy W (Value.slice ra r.length rc).ownBlock → PthDone w M K (.returned (.slice ra r.length rc)) W) := fun W h1 h2 => by
        have hle : (pathTo M K).length = r.length := by have := congrArg List.length HPE.out; rwa [ints_len, List.length_reverse] at this
        refine ⟨ra, rc, by rw [hle], by rw [hle, HPE.out]; exact h1, HB.out.grown h2 HB.out.size (fun k e => (own_lt HO.out k e).1)⟩
      clear hm hfr HP hj0
      go_wp2_with fail
      refine HR.out.mono ?_
      rintro e w1 ⟨rfl, ho1, hg1⟩
      have HE := hide (HFN.out w1 ho1 hg1)
      clear ho1 hg1 HR HFN
      go_wp2_with fail
      go_ret
      exact HE.out
    · obtain ⟨p, e1, e2, e3⟩ := pathTo_step HI.out j m (by omega) hm
      rw [e1] at c2
      have HPN : Hid (ints (pathTo M K) = ints (pathTo M p) ++ (r ++ [(m.i : Int)]).reverse) := by
        have h := HP.out
        rw [e3, ints_snoc] at h
        show _ = _
        rw [h]; simp
      have hpi : ¬ (p : Int) < 0 := by omega
      have hpi2 : (0 : Int) ≤ (p : Int) := by omega
      generalize m.i = mi at *
      have HOWN : Hid (∀ o, (wr.alloc o).ownsRow w.heap.size 3 1 (.slice ra r.length rc) r.length (r.map intV)) := fun o => HO.out.alloc o
      have HONE : Hid (∀ u ∈ [Value.int .i64 (mi : Int)], u.oneCell' = true) := by
        intro u hu
        simp only [List.mem_cons, List.not_mem_nil, or_false] at hu
        subst hu; rfl
      have HFIN : Hid (∀ (o : Obj) (g cap : Nat) (wC : World), wC.ownsRow w.heap.size 3 1 (.slice (some ⟨g, 0, none⟩) (r.length + 1) cap) (r.length + 1) (r.map intV ++ [.int .i64 (mi : Int)]) → (wr.alloc o).grownBy wC (Value.slice ra r.length rc).ownBlock →
          Rw wC w.heap.size (.slice (some ⟨g, 0, none⟩) (r ++ [(mi : Int)]).length cap) (r ++ [(mi : Int)]) ∧ Below w.heap.size w wC) := fun o g cap wC h1 h2 =>
        ⟨by unfold Rw; rw [List.map_append, List.length_append]; exact h1, (HB.out.alloc HB.out.size o).grown h2 (by have := HB.out.size; simp; omega) (fun k e => (own_lt HO.out k e).1)⟩
      have HKM : Hid (∀ W, Below w.heap.size w W → W.cell? ⟨g, j * 4 + 2, none⟩ = some (.int .i64 (p : Int))) := fun W hW => by
        obtain ⟨g', e, _, _, c2', _⟩ := (MetAt.below HM.out hW).cells j m hm
        simp only [Option.some.injEq, Addr.mk.injEq, and_true] at e
        rw [e, c2', e1]
      have hzr := HB.out.size
      clear hm HP e1 e3
      go_wp2_with (at_builtin; refine wpList_append_lies _ rfl (.tmp 17) (.tmp 23) 31 rfl w.heap.size 3 i0 _ 1 8 Tryd.underlying31 hi0 hz0 hz1 hz2 rfl (by decide) (.slice ra r.length rc) r.length (r.map intV) rfl (HOWN.out _) ⟨wr.heap.size, 0, none⟩ 1 1 [.int .i64 (mi : Int)] rfl rfl (World.news_of_block (heap_alloc_new wr _)) (HONE.out) (by decide) (by unfold maxLen; omega) (by omega) (by simp; omega) (wr.heap.size + 1) (by simp) ?_; intro g2 cap2 wC hown hgrow hat hltg; obtain ⟨hoC, hbC⟩ := HFIN.out _ g2 cap2 wC hown hgrow; have x2 := HKM.out wC hbC; have HOC := hide hoC; have HBC := hide hbC; clear hoC hbC hown hgrow hat)
      go_roundw
      case rel => exact ⟨p, r ++ [(mi : Int)], some ⟨g2, 0, none⟩, cap2, by omega, rfl, by simp, HPN.out, HOC.out, HBC.out⟩
      case measure => simp [intOf]; omega
end Bk
end Go.Proofs.YtdeijfkahhgojaaDoor
