/-
  The walks of package block's leadAlike and blocks, and of what they ask.
-/
import Derived.Test.YtdeijfkahhgojaaDoorBkGroup
namespace Go.Proofs.YtdeijfkahhgojaaDoor
namespace Bk
open Go.RowKit
/-- of each two numbers, one behind the other, something holds -/
def pairsB (k : Nat) (p : Nat → Nat → Bool) (la lb : Nat → Nat) : Bool := (List.range k).all fun i => p (la i) (lb i)
theorem pairsB_yes (k : Nat) (p : Nat → Nat → Bool) (la lb : Nat → Nat) (h : ∀ i, i < k → p (la i) (lb i) = true) : pairsB k p la lb = true := by
  rw [pairsB, List.all_eq_true]; intro i hi; exact h i (List.mem_range.1 hi)
theorem pairsB_no (k i : Nat) (p : Nat → Nat → Bool) (la lb : Nat → Nat) (hi : i < k) (h : p (la i) (lb i) = false) : pairsB k p la lb = false := by
  rw [pairsB, List.all_eq_false]; exact ⟨i, List.mem_range.2 hi, by rw [h]; decide⟩
set_option maxHeartbeats 2000000 in
set_option maxRecDepth 100000 in
theorem equalF_any (l m : List Int) (u v f : Value) (k n : Nat) (la lb : Nat → Nat) (p : Nat → Nat → Bool) (w : World) (hu : Ints w u l) (hv : Ints w v m) (hl : l.length = k) (hm : m.length = k) (ha : ∀ i, i < k → l[i]? = some (la i : Int) ∧ la i < n) (hb : ∀ i, i < k → m[i]? = some (lb i : Int) ∧ lb i < n) (hf : PPred w f n p) :
    Calls Tryd.prog 43 #[u, v, f] w fun e w' => e = .returned (.bool (pairsB k p la lb)) ∧ Below w.heap.size w w' := by
  have hlu := hu.len
  unfold maxLen at hlu
  have HU := hide hu
  have HV := hide hv
  obtain ⟨ua, uc, rfl⟩ := hu.slice
  obtain ⟨va, vc, rfl⟩ := hv.slice
  rw [hl] at HU hlu ⊢
  rw [hm] at HV ⊢
  have HA := hide ha
  have HBB := hide hb
  obtain ⟨K, cs, rfl, hcs, hent, hcall⟩ := hf
  have hent' : ∀ (args : Array Value) (w : World), (callFunc K args).run Tryd.prog w = .ok (.enter K args) w := hent
  have HC := hide hcall
  clear hu hv hl hm ha hb hcall hent
  rcases hcs with ⟨c, rfl⟩ | ⟨c, d, rfl⟩
  all_goals
    go_enter Tryd.func43, Tryd.ntmps43
    go_wp2_with fail
    go_loopw [17] (fun i wr => ∃ j : Nat, j ≤ k ∧ i = .int .i64 (j : Int) ∧ Hid (∀ i, i < j → p (la i) (lb i) = true) ∧ Hid (Below w.heap.size w wr)) (fun i _ => k - (intOf i).toNat)
    case atStart => exact ⟨0, Nat.zero_le _, rfl, fun i hi => by omega, Below.refl _ _⟩
    case round =>
      obtain ⟨j, hj, rfl, HT, HB⟩ := hrel
      by_cases hlt : j < k
      · obtain ⟨a1, a2⟩ := HA.out j hlt
        obtain ⟨b1, b2⟩ := HBB.out j hlt
        obtain ⟨g1, o1, rfl, d1, _⟩ := (HU.out.below HB.out).cell j _ a1
        obtain ⟨g2, o2, rfl, d2, _⟩ := (HV.out.below HB.out).cell j _ b1
        have HCL := hide (HC.out (la j) (lb j) wr HB.out a2 b2)
        have HYS : Hid (p (la j) (lb j) = true → ∀ i, i < j + 1 → p (la i) (lb i) = true) := fun h i hi => by
          by_cases e : i = j
          · rw [e]; exact h
          · exact HT.out i (by omega)
        have HNO := hide (pairsB_no k j p la lb hlt)
        have hji : (j : Int) < (k : Int) := by omega
        generalize p (la j) (lb j) = y at *
        generalize la j = x1 at *
        generalize lb j = x2 at *
        clear a1 b1
        go_wp2_with fail
        refine HCL.out.mono ?_
        rintro e w1 ⟨rfl, hb1⟩
        have HB1 := hide (then_ HB.out hb1)
        clear hb1 HCL
        cases y with
        | true =>
          have HT1 := hide (HYS.out rfl)
          go_wp2_with fail
          go_roundw
          case rel => exact ⟨j + 1, by omega, by go_num, HT1.out, HB1.out⟩
          case measure => simp [intOf]; omega
        | false =>
          have HN1 := hide (HNO.out rfl)
          go_wp2_with fail
          go_ret
          exact ⟨ret_bool HN1.out.symm, HB1.out⟩
      · have hjk : j = k := by omega
        have HY := hide (pairsB_yes k p la lb (fun i hi => HT.out i (by omega)))
        subst hjk
        go_wp2_with fail
        go_ret
        exact ⟨ret_bool HY.out.symm, HB.out⟩
/-- two numbers of a row are the same -/
def sameB (of : List Nat) (x y : Nat) : Bool := decide (of.getD x 0 = of.getD y 0)
set_option maxHeartbeats 2000000 in
set_option maxRecDepth 100000 in
theorem into_any (x y n bO gO : Nat) (of : List Nat) (w : World) (hO : w.cell? ⟨bO, 0, none⟩ = some (.slice (some ⟨gO, 0, none⟩) n n)) (hr : RowIs w gO 3 ((ints of).map intV)) (hl : of.length = n) (hx : x < n) (hy : y < n) :
    Calls Tryd.prog 41 #[.int .i64 (x : Int), .int .i64 (y : Int), .pointer (some ⟨bO, 0, none⟩)] w fun e w' => e = .returned (.bool (sameB of x y)) ∧ Below w.heap.size w w' := by
  have c1 : w.cell? ⟨gO, x, none⟩ = some (.int .i64 ((of.getD x 0 : Nat) : Int)) := hr.cell x _ (by rw [List.getElem?_map, ints_get of x (of.getD x 0) (by rw [getD_in _ _ _ (by omega), List.getElem?_eq_getElem (by omega)])]; rfl)
  have c2 : w.cell? ⟨gO, y, none⟩ = some (.int .i64 ((of.getD y 0 : Nat) : Int)) := hr.cell y _ (by rw [List.getElem?_map, ints_get of y (of.getD y 0) (by rw [getD_in _ _ _ (by omega), List.getElem?_eq_getElem (by omega)])]; rfl)
  have hxi : (x : Int) < (n : Int) := by omega
  have hyi : (y : Int) < (n : Int) := by omega
  unfold sameB
  generalize of.getD x 0 = a at *
  generalize of.getD y 0 = b at *
  clear hr hl
  by_cases hab : a = b
  · subst hab
    go_enter Tryd.func41, Tryd.ntmps41
    go_wp2_with fail
    go_quiet (fail)
    go_wp2_with fail
    go_ret
    exact ⟨ret_bool (by simp), ⟨rfl, rfl, rfl, Nat.le_refl _, fun _ _ => rfl⟩⟩
  · have hab2 : ¬ (a : Int) = (b : Int) := by omega
    have hab3 : ((a : Int) == (b : Int)) = false := by simpa using hab2
    go_enter Tryd.func41, Tryd.ntmps41
    go_wp2_with fail
    go_quiet (fail)
    go_wp2_with fail
    go_ret
    exact ⟨ret_bool (by simp [hab]), ⟨rfl, rfl, rfl, Nat.le_refl _, fun _ _ => rfl⟩⟩
theorem into_pred (n bO gO : Nat) (of : List Nat) (w : World) (hO : w.cell? ⟨bO, 0, none⟩ = some (.slice (some ⟨gO, 0, none⟩) n n)) (hr : RowIs w gO 3 ((ints of).map intV)) (hl : of.length = n) :
    PPred w (.func (.func 41) #[] #[.pointer (some ⟨bO, 0, none⟩)]) n (sameB of) :=
  ⟨_, _, rfl, .inl ⟨_, rfl⟩, fun _ _ => by kernel_rfl, fun x y W hW hx hy => into_any x y n bO gO of W (kept hW hO) (hr.below hW) hl hx hy⟩
theorem tells_eq {N T : List (List Int)} (h : Good N T) (a b : Nat) (ha : a < N.length) (hb : b < N.length) : Decidable.decide (T.getD a [] = T.getD b []) = eqB (tab N T) 1 a b := by
  obtain ⟨_, a2, _⟩ := h.rows a ha
  obtain ⟨_, b2, _⟩ := h.rows b hb
  rw [Bool.eq_iff_iff, decide_eq_true_eq, eqB_succ]
  constructor
  · intro e i hi
    refine ⟨?_, rfl⟩
    show (T.getD a []).getD i 0 = (T.getD b []).getD i 0
    rw [e]
  · intro e
    apply List.ext_getElem
    · rw [a2, b2]
    · intro i h1 h2
      have := (e i (by show i < (N.getD 0 []).length; omega)).1
      have : (T.getD a []).getD i 0 = (T.getD b []).getD i 0 := this
      rwa [getD_in _ _ _ h1, getD_in _ _ _ h2] at this
set_option maxHeartbeats 4000000 in
set_option maxRecDepth 100000 in
theorem blocks1_any (N T : List (List Int)) (a b bT : Nat) (nv tv : Value) (w : World) (hG : Good N T) (hT : Rows w tv T) (ht : Tab w bT nv tv) (ha : a < N.length) (hb : b < N.length) :
    Calls Tryd.prog 33 #[.int .i64 (a : Int), .int .i64 (b : Int), .pointer (some ⟨bT, 0, none⟩)] w fun e w' => e = .returned (.bool (eqB (tab N T) 1 a b)) ∧ Below w.heap.size w w' := by
  have haT : a < T.length := by rw [hG.tells]; exact ha
  have hbT : b < T.length := by rw [hG.tells]; exact hb
  obtain ⟨ta, tc, rfl⟩ := hT.slice
  obtain ⟨g, o, rfl, u1, d1, c1, i1⟩ := hT.cell a _ (List.getElem?_eq_getElem haT)
  obtain ⟨g', o', e', u2, d2, c2, i2⟩ := hT.cell b _ (List.getElem?_eq_getElem hbT)
  simp only [Option.some.injEq, Addr.mk.injEq, and_true] at e'
  obtain ⟨rfl, rfl⟩ := e'
  have HEQ := hide (fun W (hW : Below w.heap.size w W) => equal_any _ _ _ _ W (i1.below hW) (i2.below hW))
  have he := tells_eq hG a b ha hb
  rw [getD_in _ _ _ haT, getD_in _ _ _ hbT] at he
  rw [he] at HEQ
  obtain ⟨t0, t1⟩ := ht
  have HD := hide (drewB w)
  have HK : Hid (∀ W, Below w.heap.size w W → W.cell? ⟨bT, 1, none⟩ = some (.slice (some ⟨g, o, none⟩) T.length tc) ∧ W.cell? ⟨g, o + a, none⟩ = some (.slice u1 T[a].length d1) ∧ W.cell? ⟨g, o + b, none⟩ = some (.slice u2 T[b].length d2)) := fun W hW => ⟨kept hW t1, kept hW c1, kept hW c2⟩
  generalize eqB (tab N T) 1 a b = y at *
  generalize T[a].length = n1 at *
  generalize T[b].length = n2 at *
  clear he hT i1 i2 t0
  generalize T.length = n at *
  have hai : (a : Int) < (n : Int) := by omega
  have hbi : (b : Int) < (n : Int) := by omega
  go_enter Tryd.func33, Tryd.ntmps33
  go_wp2_with fail
  go_region_held3 (fun W => W.cell? ⟨bT, 1, none⟩ = some (.slice (some ⟨g, o, none⟩) n tc) ∧ W.cell? ⟨g, o + a, none⟩ = some (.slice u1 n1 d1) ∧ W.cell? ⟨g, o + b, none⟩ = some (.slice u2 n2 d2)) ((refine HK.out _ ?_; first | exact HD.out | exact HB2.out | exact Below.refl _ _)) ((go_at_call 34; (with_reducible refine (HEQ.out _ HD.out).mono ?_); rintro e w2 ⟨rfl, hb2⟩; have HB2 : Hid (Below w.heap.size w w2) := then_ HD.out hb2; clear hb2))
  go_wp2_with fail
  go_ret
  exact ⟨rfl, HB2.out⟩
theorem blocks1_pred (N T : List (List Int)) (bT : Nat) (nv tv : Value) (w : World) (hG : Good N T) (hT : Rows w tv T) (ht : Tab w bT nv tv) :
    PPred w (.func (.func 33) #[] #[.pointer (some ⟨bT, 0, none⟩)]) N.length (eqB (tab N T) 1) :=
  ⟨_, _, rfl, .inl ⟨_, rfl⟩, fun _ _ => by kernel_rfl, fun x y W hW hx hy => blocks1_any N T x y bT nv tv W hG (hT.below hW) (ht.below hW) hx hy⟩
end Bk
end Go.Proofs.YtdeijfkahhgojaaDoor
