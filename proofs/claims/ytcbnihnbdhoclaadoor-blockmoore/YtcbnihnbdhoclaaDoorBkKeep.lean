/-
  The walks of what the statements of chapter 9 ask themselves: sameInts, few, blocked.
-/
import Derived.Test.YtcbnihnbdhoclaaDoorBkLeastM
import Derived.Test.YtcbnihnbdhoclaaDoorBkParts
namespace Go.Proofs.YtcbnihnbdhoclaaDoor
namespace Bk
open Go.RowKit
set_option maxHeartbeats 2000000 in
set_option maxRecDepth 100000 in
theorem sameI_any (l : List Int) (u v : Value) (w : World) (hu : Ints w u l) (hv : Ints w v l) :
    Calls Tryd.prog 22 #[u, v] w fun e w' => e = .returned (.bool true) ∧ Below w.heap.size w w' := by
  have hl := hu.len
  unfold maxLen at hl
  have HU := hide hu
  have HV := hide hv
  obtain ⟨n, hn⟩ : ∃ n, n = l.length := ⟨_, rfl⟩
  have HN := hide hn
  obtain ⟨ua, uc, rfl⟩ := hu.slice
  obtain ⟨va, vc, rfl⟩ := hv.slice
  rw [← hn] at HU HV hl ⊢
  clear hu hv hn
  go_enter Tryd.func22, Tryd.ntmps22
  go_wp2_with fail
  go_loopw [5] (fun i wr => ∃ k : Nat, k ≤ n ∧ i = .int .i64 (k : Int) ∧ Hid (Below w.heap.size w wr)) (fun i _ => n - (intOf i).toNat)
  case atStart => exact ⟨0, Nat.zero_le _, rfl, Below.refl _ _⟩
  case round =>
    obtain ⟨k, hk, rfl, HB⟩ := hrel
    by_cases hlt : k < n
    · have hkl : k < l.length := by rw [← HN.out]; exact hlt
      have hx := List.getElem?_eq_getElem hkl
      obtain ⟨g1, o1, rfl, d1, _⟩ := (HU.out.below HB.out).cell k _ hx
      obtain ⟨g2, o2, rfl, d2, _⟩ := (HV.out.below HB.out).cell k _ hx
      generalize l[k] = x at *
      clear hx
      go_wp2_with fail
      go_quiet (fail)
      go_wp2_with fail
      go_roundw
      case rel => exact ⟨k + 1, by omega, by go_num, HB.out.trans ⟨rfl, rfl, rfl, Nat.le_refl _, fun _ _ => rfl⟩⟩
      case measure => simp [intOf]; omega
    · have hkn : k = n := by omega
      subst hkn
      go_wp2_with fail
      go_ret
      exact ⟨rfl, HB.out⟩
/-- few enough to be held -/
def fewB (N T : List (List Int)) (most : Nat) : Bool := decide (N.length ≤ most) && (decide (T.length ≤ 500) && (decide (N.length = 0) || decide ((N.getD 0 []).length ≤ 16)))
set_option maxHeartbeats 4000000 in
set_option maxRecDepth 100000 in
theorem few_any (N T : List (List Int)) (nv tv : Value) (most : Nat) (w : World) (hN : Rows w nv N) (hT : Rows w tv T) :
    Calls Tryd.prog 19 #[.agg #[nv, tv], .int .i64 (most : Int)] w fun e w' => e = .returned (.bool (fewB N T most)) ∧ Below w.heap.size w w' := by
  have HDA : ∀ o : Obj, Below w.heap.size w (w.alloc o) := fun o => (Below.refl _ _).alloc (Nat.le_refl _) _
  have HD := hide HDA
  clear HDA
  have HN := hide hN
  obtain ⟨na, nc, rfl⟩ := hN.slice
  obtain ⟨ta, tc, rfl⟩ := hT.slice
  have HFB : Hid (fewB N T most = (decide (N.length ≤ most) && (decide (T.length ≤ 500) && (decide (N.length = 0) || decide ((N.getD 0 []).length ≤ 16))))) := rfl
  generalize fewB N T most = y at *
  obtain ⟨n, hn⟩ : ∃ n, n = N.length := ⟨_, rfl⟩
  obtain ⟨m, hm⟩ : ∃ m, m = T.length := ⟨_, rfl⟩
  have HNn := hide hn
  rw [← hn, ← hm] at HFB
  rw [← hn] at HN ⊢
  rw [← hm]
  clear hN hT hn hm
  by_cases h1 : n ≤ most
  · have h1i : (n : Int) ≤ (most : Int) := by omega
    by_cases h2 : m ≤ 500
    · have h2i : (m : Int) ≤ 500 := by omega
      by_cases h3 : n = 0
      · have HY : Hid (y = true) := by rw [HFB.out]; show _ = _; simp [h2, h3]
        subst h3
        go_enter Tryd.func19, Tryd.ntmps19
        go_wp2_with fail
        go_ret
        exact ⟨ret_bool HY.out.symm, HD.out _⟩
      · have h3i : ¬ (n : Int) = 0 := by omega
        have h3b : ((n : Int) == 0) = false := by simpa using h3
        have hp : 0 < N.length := by rw [← HNn.out]; omega
        have h0 := List.getElem?_eq_getElem hp
        have hz : N.getD 0 [] = N[0] := getD_in _ _ _ hp
        obtain ⟨g, o, rfl, u, d, c, _⟩ := HN.out.cell 0 _ h0
        simp only [Nat.add_zero] at c
        have hgl := World.block_lt_of_cell? _ _ c
        rw [hz] at HFB
        have hpi : (0 : Int) < (n : Int) := by omega
        generalize N[0].length = k at *
        clear h0 hz
        by_cases h4 : k ≤ 16
        · have HY : Hid (y = true) := by rw [HFB.out]; show _ = _; simp [h1, h2, h4]
          have h4i : (k : Int) ≤ 16 := by omega
          go_enter Tryd.func19, Tryd.ntmps19
          go_wp2_with fail
          go_ret
          exact ⟨ret_bool HY.out.symm, HD.out _⟩
        · have HY : Hid (y = false) := by rw [HFB.out]; show _ = _; simp [h1, h2, h3, h4]
          have h4i : ¬ (k : Int) ≤ 16 := by omega
          go_enter Tryd.func19, Tryd.ntmps19
          go_wp2_with fail
          go_ret
          exact ⟨ret_bool HY.out.symm, HD.out _⟩
    · have HY : Hid (y = false) := by rw [HFB.out]; show _ = _; simp [h1, h2]
      have h2i : ¬ (m : Int) ≤ 500 := by omega
      go_enter Tryd.func19, Tryd.ntmps19
      go_wp2_with fail
      go_ret
      exact ⟨ret_bool HY.out.symm, HD.out _⟩
  · have HY : Hid (y = false) := by rw [HFB.out]; show _ = _; simp [h1]
    have h1i : ¬ (n : Int) ≤ (most : Int) := by omega
    go_enter Tryd.func19, Tryd.ntmps19
    go_wp2_with fail
    go_ret
    exact ⟨ret_bool HY.out.symm, HD.out _⟩
theorem eqNilIf (w : World) : (binOp BinOp.eql 33 .nilIface .nilIface).run Tryd.prog w = .ok (.bool true) w := by kernel_rfl
def bN : List (List Int) := [[1], [0], [0]]
def bT : List (List Int) := [[5], [5], [6]]
theorem b_good : Good bN bT := good_of (by decide)
theorem b_stable : Stable (tab bN bT) 1 := stable_of b_good.ok 1 (by
  have h : ∀ a, a < 3 → ∀ b, b < 3 → eqB (tab bN bT) 1 a b = true → eqB (tab bN bT) 2 a b = true := by decide
  exact fun a b ha hb => h a ha b hb)
theorem b_blocks (d : Nat) (hd : Stable (tab bN bT) d) : (gd bN bT d).1 = [0, 0, 1] := by
  have h : gd bN bT d = gd bN bT 1 := grp_stable_eq d 1 hd b_stable
  rw [h]; decide
theorem b_apart : ¬ Alike (tab bN bT) 0 2 := fun h => by
  have := (h.next 0 (by decide)).1
  exact absurd this (by decide)
theorem b_path {M : List Pp} {K i : Nat} {m : Pp} (h : Found (tab bN bT) 0 2 M K i m) : pathTo M K ++ [i] = [0] := by
  obtain ⟨h1, _, _, h4⟩ := h.parts
  have hi : i < 1 := h.lt
  cases hp : pathTo M K with
  | nil => have : i = 0 := by omega
           rw [this]; rfl
  | cons x r =>
    have hx : x < 1 := h4 x (by rw [hp]; simp)
    have : x = 0 := by omega
    subst this
    rw [hp, tell, tell] at h1
    have := (List.cons.inj h1).1
    exact absurd this (by decide)
/-- a row of one number, as it is built -/
theorem ints_one (W : World) (x : Int) (hx : I64 x) : Ints (W.alloc (.cells #[.int .i64 x] 3)) (.slice (some ⟨W.heap.size, 0, none⟩) 1 1) [x] :=
  ints_row (l := [x]) (RowIs.new W 3 [.int .i64 x]) (by unfold maxLen; simp) (fun y hy => by simp at hy; rw [hy]; exact hx)
theorem rows3 {W : World} {g : Nat} {v0 v1 v2 : Value} {r0 r1 r2 : List Int} (h : RowIs W g 31 [v0, v1, v2]) (h0 : Ints W v0 r0) (h1 : Ints W v1 r1) (h2 : Ints W v2 r2) : Rows W (.slice (some ⟨g, 0, none⟩) 3 3) [r0, r1, r2] := by
  refine ⟨_, _, rfl, by unfold maxLen; simp, fun k r hk => ?_⟩
  match k, hk with
  | 0, hk => simp at hk; subst hk; exact ⟨g, 0, v0, rfl, Nat.le_refl _, h.cell 0 _ rfl, h0⟩
  | 1, hk => simp at hk; subst hk; exact ⟨g, 0, v1, rfl, Nat.le_refl _, h.cell 1 _ rfl, h1⟩
  | 2, hk => simp at hk; subst hk; exact ⟨g, 0, v2, rfl, Nat.le_refl _, h.cell 2 _ rfl, h2⟩
  | k + 3, hk => simp at hk
theorem newB (W : World) (o : Obj) : Below W.heap.size W (W.alloc o) := (Below.refl _ _).alloc (Nat.le_refl _) _
/-- the fact's table, as it is built -/
theorem b_rows (w : World) : ∃ W1 W2 W3 W4 W5 W6 W7 W8 W9 : World,
    W1 = w.alloc (.cells #[.int .i64 1] 3) ∧ W2 = W1.alloc (.cells #[.int .i64 0] 3) ∧ W3 = W2.alloc (.cells #[.int .i64 0] 3) ∧ W4 = W3.alloc (.cells #[.slice (some ⟨w.heap.size, 0, none⟩) 1 1, .slice (some ⟨w.heap.size + 1, 0, none⟩) 1 1, .slice (some ⟨w.heap.size + 1 + 1, 0, none⟩) 1 1] 31) ∧
    W5 = W4.alloc (.cells #[.int .i64 5] 3) ∧ W6 = W5.alloc (.cells #[.int .i64 5] 3) ∧ W7 = W6.alloc (.cells #[.int .i64 6] 3) ∧ W8 = W7.alloc (.cells #[.slice (some ⟨w.heap.size + 1 + 1 + 1 + 1, 0, none⟩) 1 1, .slice (some ⟨w.heap.size + 1 + 1 + 1 + 1 + 1, 0, none⟩) 1 1, .slice (some ⟨w.heap.size + 1 + 1 + 1 + 1 + 1 + 1, 0, none⟩) 1 1] 31) ∧
    W9 = W8.alloc (.cells #[.slice (some ⟨w.heap.size + 1 + 1 + 1, 0, none⟩) 3 3, .slice (some ⟨w.heap.size + 1 + 1 + 1 + 1 + 1 + 1 + 1, 0, none⟩) 3 3] 24) ∧
    Below w.heap.size w W9 ∧ Tab W9 (w.heap.size + 1 + 1 + 1 + 1 + 1 + 1 + 1 + 1) (.slice (some ⟨w.heap.size + 1 + 1 + 1, 0, none⟩) 3 3) (.slice (some ⟨w.heap.size + 1 + 1 + 1 + 1 + 1 + 1 + 1, 0, none⟩) 3 3) ∧ Rows W9 (.slice (some ⟨w.heap.size + 1 + 1 + 1, 0, none⟩) 3 3) bN ∧ Rows W9 (.slice (some ⟨w.heap.size + 1 + 1 + 1 + 1 + 1 + 1 + 1, 0, none⟩) 3 3) bT := by
  refine ⟨_, _, _, _, _, _, _, _, _, rfl, rfl, rfl, rfl, rfl, rfl, rfl, rfl, rfl, ?_⟩
  generalize e1 : w.alloc (.cells #[.int .i64 1] 3) = W1
  generalize e2 : W1.alloc (.cells #[.int .i64 0] 3) = W2
  generalize e3 : W2.alloc (.cells #[.int .i64 0] 3) = W3
  generalize e4 : W3.alloc (.cells #[.slice (some ⟨w.heap.size, 0, none⟩) 1 1, .slice (some ⟨w.heap.size + 1, 0, none⟩) 1 1, .slice (some ⟨w.heap.size + 1 + 1, 0, none⟩) 1 1] 31) = W4
  generalize e5 : W4.alloc (.cells #[.int .i64 5] 3) = W5
  generalize e6 : W5.alloc (.cells #[.int .i64 5] 3) = W6
  generalize e7 : W6.alloc (.cells #[.int .i64 6] 3) = W7
  generalize e8 : W7.alloc (.cells #[.slice (some ⟨w.heap.size + 1 + 1 + 1 + 1, 0, none⟩) 1 1, .slice (some ⟨w.heap.size + 1 + 1 + 1 + 1 + 1, 0, none⟩) 1 1, .slice (some ⟨w.heap.size + 1 + 1 + 1 + 1 + 1 + 1, 0, none⟩) 1 1] 31) = W8
  generalize e9 : W8.alloc (.cells #[.slice (some ⟨w.heap.size + 1 + 1 + 1, 0, none⟩) 3 3, .slice (some ⟨w.heap.size + 1 + 1 + 1 + 1 + 1 + 1 + 1, 0, none⟩) 3 3] 24) = W9
  have z1 : W1.heap.size = w.heap.size + 1 := by rw [← e1]; simp
  have z2 : W2.heap.size = w.heap.size + 1 + 1 := by rw [← e2]; simp [z1]
  have z3 : W3.heap.size = w.heap.size + 1 + 1 + 1 := by rw [← e3]; simp [z2]
  have z4 : W4.heap.size = w.heap.size + 1 + 1 + 1 + 1 := by rw [← e4]; simp [z3]
  have z5 : W5.heap.size = w.heap.size + 1 + 1 + 1 + 1 + 1 := by rw [← e5]; simp [z4]
  have z6 : W6.heap.size = w.heap.size + 1 + 1 + 1 + 1 + 1 + 1 := by rw [← e6]; simp [z5]
  have z7 : W7.heap.size = w.heap.size + 1 + 1 + 1 + 1 + 1 + 1 + 1 := by rw [← e7]; simp [z6]
  have z8 : W8.heap.size = w.heap.size + 1 + 1 + 1 + 1 + 1 + 1 + 1 + 1 := by rw [← e8]; simp [z7]
  have b1 : Below w.heap.size w W1 := by rw [← e1]; exact newB _ _
  have b2 : Below W1.heap.size W1 W2 := by rw [← e2]; exact newB _ _
  have b3 : Below W2.heap.size W2 W3 := by rw [← e3]; exact newB _ _
  have b4 : Below W3.heap.size W3 W4 := by rw [← e4]; exact newB _ _
  have b5 : Below W4.heap.size W4 W5 := by rw [← e5]; exact newB _ _
  have b6 : Below W5.heap.size W5 W6 := by rw [← e6]; exact newB _ _
  have b7 : Below W6.heap.size W6 W7 := by rw [← e7]; exact newB _ _
  have b8 : Below W7.heap.size W7 W8 := by rw [← e8]; exact newB _ _
  have b9 : Below W8.heap.size W8 W9 := by rw [← e9]; exact newB _ _
  have c8 := then_ b8 b9
  have c7 := then_ b7 c8
  have c6 := then_ b6 c7
  have c5 := then_ b5 c6
  have c4 := then_ b4 c5
  have c3 := then_ b3 c4
  have c2 := then_ b2 c3
  have i1 : Ints W1 (.slice (some ⟨w.heap.size, 0, none⟩) 1 1) [1] := by rw [← e1]; exact ints_one _ _ (by unfold I64; omega)
  have i2 : Ints W2 (.slice (some ⟨w.heap.size + 1, 0, none⟩) 1 1) [0] := by rw [← e2, ← z1]; exact ints_one _ _ (by unfold I64; omega)
  have i3 : Ints W3 (.slice (some ⟨w.heap.size + 1 + 1, 0, none⟩) 1 1) [0] := by rw [← e3, ← z2]; exact ints_one _ _ (by unfold I64; omega)
  have i5 : Ints W5 (.slice (some ⟨w.heap.size + 1 + 1 + 1 + 1, 0, none⟩) 1 1) [5] := by rw [← e5, ← z4]; exact ints_one _ _ (by unfold I64; omega)
  have i6 : Ints W6 (.slice (some ⟨w.heap.size + 1 + 1 + 1 + 1 + 1, 0, none⟩) 1 1) [5] := by rw [← e6, ← z5]; exact ints_one _ _ (by unfold I64; omega)
  have i7 : Ints W7 (.slice (some ⟨w.heap.size + 1 + 1 + 1 + 1 + 1 + 1, 0, none⟩) 1 1) [6] := by rw [← e7, ← z6]; exact ints_one _ _ (by unfold I64; omega)
  have r4 : RowIs W4 (w.heap.size + 1 + 1 + 1) 31 [.slice (some ⟨w.heap.size, 0, none⟩) 1 1, .slice (some ⟨w.heap.size + 1, 0, none⟩) 1 1, .slice (some ⟨w.heap.size + 1 + 1, 0, none⟩) 1 1] := by
    have h := RowIs.new W3 31 [.slice (some ⟨w.heap.size, 0, none⟩) 1 1, .slice (some ⟨w.heap.size + 1, 0, none⟩) 1 1, .slice (some ⟨w.heap.size + 1 + 1, 0, none⟩) 1 1]
    rw [z3] at h
    rw [← e4]; exact h
  have r8 : RowIs W8 (w.heap.size + 1 + 1 + 1 + 1 + 1 + 1 + 1) 31 [.slice (some ⟨w.heap.size + 1 + 1 + 1 + 1, 0, none⟩) 1 1, .slice (some ⟨w.heap.size + 1 + 1 + 1 + 1 + 1, 0, none⟩) 1 1, .slice (some ⟨w.heap.size + 1 + 1 + 1 + 1 + 1 + 1, 0, none⟩) 1 1] := by
    have h := RowIs.new W7 31 [.slice (some ⟨w.heap.size + 1 + 1 + 1 + 1, 0, none⟩) 1 1, .slice (some ⟨w.heap.size + 1 + 1 + 1 + 1 + 1, 0, none⟩) 1 1, .slice (some ⟨w.heap.size + 1 + 1 + 1 + 1 + 1 + 1, 0, none⟩) 1 1]
    rw [z7] at h
    rw [← e8]; exact h
  refine ⟨then_ b1 c2, ?_, rows3 (r4.below c5) (i1.below c2) (i2.below c3) (i3.below c4), rows3 (r8.below b9) (i5.below c6) (i6.below c7) (i7.below c8)⟩
  have h := Tab.new W8 (.slice (some ⟨w.heap.size + 1 + 1 + 1, 0, none⟩) 3 3) (.slice (some ⟨w.heap.size + 1 + 1 + 1 + 1 + 1 + 1 + 1, 0, none⟩) 3 3)
  rw [z8] at h
  rw [← e9]; exact h
set_option maxHeartbeats 8000000 in
set_option maxRecDepth 100000 in
theorem blocked_any (w : World) : Calls Tryd.prog 20 #[] w fun e w' => e = .returned (.bool true) ∧ Below w.heap.size w w' := by
  obtain ⟨W1, W2, W3, W4, W5, W6, W7, W8, W9, e1, e2, e3, e4, e5, e6, e7, e8, e9, hb, ht, hN, hT⟩ := b_rows w
  have HB9 := hide hb
  have HT9 := hide ht
  have HBL := hide (Blocks_any bN bT _ _ W9 hN hT)
  have HPA := hide (fun W (hW : Below W9.heap.size W9 W) => Part_any bN bT _ _ 0 2 W (hN.below hW) (hT.below hW))
  obtain ⟨t0, t1⟩ := ht
  clear hb hN hT
  go_enter Tryd.func20, Tryd.ntmps20
  go_wp2_with fail
  rw [← e1, ← e2, ← e3, ← e4, ← e5, ← e6, ← e7, ← e8, ← e9]
  clear e1 e2 e3 e4 e5 e6 e7 e8 e9
  refine HBL.out.mono ?_
  rintro e wB ⟨hbB, hres⟩
  have hck : check bN bT = none := b_good.fine
  rcases hres with ⟨h0, _⟩ | ⟨_, d, gO, hd, hst, rfl, hrow, hgO⟩
  · exact absurd hck h0
  rw [show bN.length = 3 from rfl]
  have HI1 : Hid (Ints wB (.slice (some ⟨gO, 0, none⟩) 3 3) [0, 0, 1]) := by
    rw [b_blocks d hst] at hrow
    exact ints_row (l := [0, 0, 1]) hrow (by unfold maxLen; simp) (fun x hx => by simp at hx; unfold I64; omega)
  have HBB := hide hbB
  have HP2 := hide (HPA.out wB hbB)
  obtain ⟨u0, u1⟩ := HT9.out.below hbB
  clear hbB hrow hst HBL HPA hck
  go_wp2_with fail
  refine HP2.out.mono ?_
  rintro e wP ⟨hbP, hres⟩
  have hck : check bN bT = none := b_good.fine
  rcases hres with ⟨h0, _⟩ | ⟨_, h0, _⟩ | ⟨_, x, y, hx, hy, _, _, hal, _⟩ | ⟨_, x, y, hx, hy, _, _, M, K, i, m, g, c, hF, rfl, hrw⟩
  · exact absurd hck h0
  · exact absurd h0 (by decide)
  · have hx0 : x = 0 := by omega
    have hy0 : y = 2 := by omega
    subst hx0
    subst hy0
    exact absurd hal b_apart
  have hx0 : x = 0 := by omega
  have hy0 : y = 2 := by omega
  subst hx0
  subst hy0
  have hpp := b_path hF
  have hl1 : (pathTo M K).length + 1 = 1 := by have := congrArg List.length hpp; simpa using this
  rw [hpp, hl1] at hrw
  rw [hl1]
  have HI2 : Hid (Ints wP (.slice (some ⟨g, 0, none⟩) 1 c) [0]) := ints_own hrw (by unfold maxLen; simp) (fun x hx => by simp at hx; unfold I64; omega)
  have HI1P := hide (HI1.out.below hbP)
  have HBP := hide (then_ HB9.out (then_ HBB.out hbP))
  have nn := eqNilIf
  have HS1 := hide (fun W (hW : Below wP.heap.size wP W) v (hv : Ints W v [0, 0, 1]) => sameI_any [0, 0, 1] _ v W (HI1P.out.below hW) hv)
  have HS2 := hide (fun W (hW : Below wP.heap.size wP W) v (hv : Ints W v [0]) => sameI_any [0] _ v W (HI2.out.below hW) hv)
  have HN1 : Hid (Below wP.heap.size wP (wP.alloc (.cells #[.int .i64 0, .int .i64 0, .int .i64 1] 3))) := newB _ _
  have HR1 : Hid (Ints (wP.alloc (.cells #[.int .i64 0, .int .i64 0, .int .i64 1] 3)) (.slice (some ⟨wP.heap.size, 0, none⟩) 3 3) [0, 0, 1]) :=
    ints_row (l := [0, 0, 1]) (RowIs.new wP 3 [.int .i64 0, .int .i64 0, .int .i64 1]) (by unfold maxLen; simp) (fun x hx => by simp at hx; unfold I64; omega)
  clear hbP hF hrw hpp hl1 hx hy hck HP2
  go_wp2_with (first
    | (go_at_call 22; (with_reducible refine (HS1.out _ HN1.out _ HR1.out).mono ?_); rintro e w5 ⟨rfl, hb5⟩; have HB5 := hide (then_ HN1.out hb5); have HR2 := hide (ints_one w5 0 (by unfold I64; omega)); have HN2 := hide (then_ HB5.out (newB w5 (.cells #[.int .i64 0] 3))); clear hb5)
    | (go_at_call 22; (with_reducible refine (HS2.out _ HN2.out _ HR2.out).mono ?_); rintro e w6 ⟨rfl, hb6⟩; have HB6 := hide (then_ HBP.out (then_ HN2.out hb6)); clear hb6))
  go_ret
  exact ⟨rfl, HB6.out⟩
end Bk
end Go.Proofs.YtcbnihnbdhoclaaDoor
