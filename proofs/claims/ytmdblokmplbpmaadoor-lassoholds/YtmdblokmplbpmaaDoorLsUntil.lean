/-
  The walk of package lasso's until.
-/
import Derived.Test.YtmdblokmplbpmaaDoorLsSo
namespace Go.Proofs.YtmdblokmplbpmaaDoor
namespace Ls
open Go.RowKit
theorem skipU_at {P : Program} {md : Region.Mode} {ops : Array Oper} {Q : Exit → Act → World → Prop} {S : World → Prop} (i d j : Nat) (want : Bool) {oi : Oper} {fuel : Nat} {listed : Array Bool} {tm : Array Value} {df : _} {w : World} (hi : ops[i]? = some oi) (hd : oi.dst = some d) (hg : oi.guard = some (j, want)) (hj : yielded ops tm j = none) (hs : Region.noSelect ops = true) (hf : Region.free md ops listed i = true) (hr : (Region.ready md ops listed).contains i = true) (hQ : ∀ c a w, ¬ Q (.panic c) a w) (hS : S w) (h : wpAnyH P md ops Q S fuel (listed.setIfInBounds i true) ⟨tm.setIfInBounds d undef, df⟩ w) : wpAnyH P md ops Q S (fuel + 1) listed ⟨tm, df⟩ w := by
  refine take_at i d undef hi hd hs hf hr hQ hS (Or.inr ⟨?_, rfl⟩) h
  unfold Region.wanted
  rw [hg]
  show (yielded ops tm j == some want) = false
  rw [hj]
  rfl
theorem wpOp_skipU {P : Program} {ops : Array Oper} {Q : Exit → Act → World → Prop} (i d j : Nat) (want : Bool) {o : Oper} {K : Act → World → Prop} {tm : Array Value} {df : _} {w : World} (ho : ops[i]? = some o) (hd : o.dst = some d) (hg : o.guard = some (j, want)) (hj : yielded ops tm j = none) (h : K ⟨tm.setIfInBounds d undef, df⟩ w) : wpOp P ops Q i K ⟨tm, df⟩ w := by
  have hw : Region.wanted o (yielded ops tm) = false := by
    unfold Region.wanted
    rw [hg]
    show (yielded ops tm j == some want) = false
    rw [hj]
    rfl
  unfold wpOp
  rw [ho]
  simp only [hw]
  rw [hd]
  exact h
/-- what stands while until looks backwards: the times, the row of bools, its header -/
def UW (w : World) (n r : Nat) (a : Option Addr) (c : Nat) (wr : World) (f : Nat → Bool) : Prop :=
  Below w.heap.size w wr ∧ w.heap.size + 3 ≤ wr.heap.size ∧ Tm wr w.heap.size (.slice a n c) r ∧ BRow wr (w.heap.size + 1) n f ∧ wr.cell? ⟨w.heap.size + 1 + 1, 0, none⟩ = some (.slice (some ⟨w.heap.size + 1, 0, none⟩) n n)
theorem UW.below {w : World} {n r : Nat} {a : Option Addr} {c : Nat} {wr W : World} {f : Nat → Bool} (h : UW w n r a c wr f) (hb : Below wr.heap.size wr W) : UW w n r a c W f :=
  ⟨h.1.trans (hb.mono h.1.size), Nat.le_trans h.2.1 hb.size, h.2.2.1.below hb, h.2.2.2.1.below hb, kept hb h.2.2.2.2⟩
theorem UW.set {w : World} {n r : Nat} {a : Option Addr} {c : Nat} {wr : World} {f : Nat → Bool} (h : UW w n r a c wr f) (i : Nat) (v : Bool) : UW w n r a c (wr.setCell ⟨w.heap.size + 1, i, none⟩ (.bool v)) (fun j => if j = i then v else f j) := by
  obtain ⟨h1, h2, h3, h4, h5⟩ := h
  refine ⟨h1.setCell (by show w.heap.size ≤ w.heap.size + 1; omega) _, by simpa using h2, ⟨cell_set_block _ _ _ _ _ _ _ (by omega) h3.1, cell_set_block _ _ _ _ _ _ _ (by omega) h3.2⟩, h4.set i v, cell_set_block _ _ _ _ _ _ _ (by omega) h5⟩
theorem UW.congr {w : World} {n r : Nat} {a : Option Addr} {c : Nat} {wr : World} {f f' : Nat → Bool} (h : UW w n r a c wr f) (hf : ∀ i, i < n → f i = f' i) : UW w n r a c wr f' := ⟨h.1, h.2.1, h.2.2.1, h.2.2.2.1.congr hf, h.2.2.2.2⟩
/-- behind so many ways back -/
def way (n r : Nat) (p q : Nat → Bool) : Nat → Nat → Bool
  | 0 => fun _ => false
  | k + 1 => fun i => bk n p q (way n r p q k r) (n - i)
theorem way_two (n r : Nat) (p q : Nat → Bool) : way n r p q 2 = unt n r p q := rfl
/-- within a way back: the last d are told anew -/
def part (n : Nat) (p q : Nat → Bool) (f : Nat → Bool) (r d : Nat) (i : Nat) : Bool := if n - d ≤ i then bk n p q (f r) (n - i) else f i
theorem part_zero (n : Nat) (p q f : Nat → Bool) (r i : Nat) (hi : i < n) : part n p q f r 0 i = f i := by unfold part; rw [if_neg (by omega)]
theorem part_all (n : Nat) (p q f : Nat → Bool) (r i : Nat) : part n p q f r n i = bk n p q (f r) (n - i) := by unfold part; rw [if_pos (by omega)]
theorem part_next (n : Nat) (p q f : Nat → Bool) (r d t : Nat) (hr : r < n) (ht : t + d + 1 = n) : part n p q f r d (next n r t) = bk n p q (f r) d := by
  unfold next part
  by_cases h : t + 1 < n
  · rw [if_pos h, if_pos (by omega)]
    have : n - (t + 1) = d := by omega
    rw [this]
  · have : d = 0 := by omega
    subst this
    rw [if_neg h, if_neg (by omega)]
    rfl
theorem part_step (n : Nat) (p q f : Nat → Bool) (r d t : Nat) (ht : t + d + 1 = n) (i : Nat) : (if i = t then (q t || (p t && bk n p q (f r) d)) else part n p q f r d i) = part n p q f r (d + 1) i := by
  unfold part
  by_cases h : i = t
  · subst h
    rw [if_pos rfl, if_pos (by omega)]
    have : n - i = d + 1 := by omega
    rw [this, bk]
    have : n - (d + 1) = i := by omega
    rw [this]
  · rw [if_neg h]
    by_cases h2 : n - d ≤ i
    · rw [if_pos h2, if_pos (by omega)]
    · rw [if_neg h2, if_neg (by omega)]
set_option maxHeartbeats 8000000 in
set_option maxRecDepth 100000 in
theorem until_any (ok : Nat → Prop) (n r : Nat) (p q : Nat → Bool) (fp fq : Value) (a : Option Addr) (c : Nat) (w : World) (hp : IsSo ok w fp n p) (hq : IsSo ok w fq n q) (hok : ∀ b, w.heap.size ≤ b → ok b) (hn : n ≤ 60) (hr : r < n) :
    Calls Tryd.prog 46 #[.agg #[.slice a n c, .int .i64 (r : Int)], fp, fq] w fun e w' => ∃ v, e = .returned v ∧ IsSo ok w' v n (unt n r p q) ∧ Below w.heap.size w w' := by
  have hmf : ∀ (fn : Fn) (first cap : Array Value) (w : World), (Instr.makeFunc fn first cap).run Tryd.prog w = .ok (.func fn first cap) w := fun _ _ _ _ => rfl
  have hmk := makeBs n (by omega)
  obtain ⟨K, cs, rfl, _, hent1, hc1⟩ := hp
  obtain ⟨K2, cs2, rfl, _, hent2, hc2⟩ := hq
  have he1 : ∀ (args : Array Value) (w : World), (callFunc K args).run Tryd.prog w = .ok (.enter K args) w := hent1
  have he2 : ∀ (args : Array Value) (w : World), (callFunc K2 args).run Tryd.prog w = .ok (.enter K2 args) w := hent2
  have HOK := hide hok
  clear hok
  have HC1 := hide hc1
  have HC2 := hide hc2
  clear hent1 hent2 hc1 hc2
  obtain ⟨wA, hwA⟩ : ∃ wA, wA = ((w.alloc (.cells #[.slice a n c, .int .i64 (r : Int)] 67)).alloc (.cells (Array.replicate n (.bool false)) 4)).alloc (.cells #[.slice (some ⟨w.heap.size + 1, 0, none⟩) n n] 37) := ⟨_, rfl⟩
  have HU0 : Hid (UW w n r a c wA (way n r p q 0)) := by
    have hb1 := newB w (.cells #[.slice a n c, .int .i64 (r : Int)] 67)
    obtain ⟨w1, hw1⟩ : ∃ w1, w1 = w.alloc (.cells #[.slice a n c, .int .i64 (r : Int)] 67) := ⟨_, rfl⟩
    have hs1 : w1.heap.size = w.heap.size + 1 := by rw [hw1]; simp
    have ht1 : Tm w1 w.heap.size (.slice a n c) r := by rw [hw1]; exact Tm.new _ _ _
    rw [← hw1] at hwA hb1
    clear hw1
    obtain ⟨w2, hw2⟩ : ∃ w2, w2 = w1.alloc (.cells (Array.replicate n (.bool false)) 4) := ⟨_, rfl⟩
    have hs2 : w2.heap.size = w.heap.size + 1 + 1 := by rw [hw2]; simp [hs1]
    have hb2 : Below w1.heap.size w1 w2 := by rw [hw2]; exact newB _ _
    have hr2 : BRow w2 (w.heap.size + 1) n (way n r p q 0) := by
      rw [hw2, ← hs1]
      have : (Array.replicate n (Value.bool false)) = ⟨(List.range n).map fun i => Value.bool (way n r p q 0 i)⟩ := by
        apply Array.ext'
        apply List.ext_getElem
        · simp
        · intro i h1 h2
          simp [way]
      rw [this]
      exact RowIs.new _ _ _
    rw [← hw2] at hwA
    clear hw2
    have hb3 : Below w2.heap.size w2 wA := by rw [hwA]; exact newB _ _
    refine ⟨then_ hb1 (then_ hb2 hb3), by rw [hwA]; simp [hs2], (ht1.below hb2).below hb3, hr2.below hb3, ?_⟩
    rw [hwA, ← hs2, Lib.cell_of_heap (heap_alloc_new w2 _)]
    rfl
  have HWA := hide hwA
  clear hwA
  go_enter Tryd.func46, Tryd.ntmps46
  go_wp2_with fail
  rw [← HWA.out]
  clear HWA hmk
  go_loopw [13] (fun i wr => ∃ k : Nat, k ≤ 2 ∧ i = .int .i64 (k : Int) ∧ Hid (UW w n r a c wr (way n r p q k))) (fun i _ => 2 - (intOf i).toNat)
  case atStart => exact ⟨0, by omega, rfl, HU0.out⟩
  case round =>
    obtain ⟨k, hk, rfl, HU⟩ := hrel
    by_cases hk2 : k < 2
    · have hki : (k : Int) < 2 := by omega
      have HK1 : Hid (∀ i, way n r p q (k + 1) i = bk n p q (way n r p q k r) (n - i)) := fun _ => rfl
      generalize way n r p q k = f at *
      have ch := HU.out.2.2.2.2
      go_wp2_with fail
      go_loopw [8] (fun s wr => ∃ (d : Nat) (x : Int), d ≤ n ∧ s = .int .i64 x ∧ x = (n : Int) - 1 - (d : Int) ∧ Hid (UW w n r a c wr (part n p q f r d))) (fun s _ => (intOf s + 1).toNat)
      case atStart => exact ⟨0, _, Nat.zero_le _, rfl, by omega, HU.out.congr fun i hi => (part_zero n p q f r i hi).symm⟩
      case round =>
        rename_i wr0 _ wr
        obtain ⟨d, x, hd, rfl, hx, HV⟩ := hrel
        clear ch
        have ch := HV.out.2.2.2.2
        by_cases hdn : d < n
        · obtain ⟨t, ht⟩ : ∃ t : Nat, t + d + 1 = n := ⟨n - d - 1, by omega⟩
          obtain rfl : x = (t : Int) := by omega
          have htn : t < n := by omega
          have hti : (0 : Int) ≤ (t : Int) := by omega
          have htl : (t : Int) < (n : Int) := by omega
          have HD := hide (drewB wr)
          have HKS : Hid (∀ W, Below wr.heap.size wr W → W.cell? ⟨w.heap.size + 1 + 1, 0, none⟩ = some (.slice (some ⟨w.heap.size + 1, 0, none⟩) n n) ∧ W.cell? ⟨w.heap.size, 0, none⟩ = some (.slice a n c) ∧ W.cell? ⟨w.heap.size, 1, none⟩ = some (.int .i64 (r : Int))) := fun W hW => ⟨(HV.out.below hW).2.2.2.2, (HV.out.below hW).2.2.1.1, (HV.out.below hW).2.2.1.2⟩
          have HKT : Hid (∀ (W : World) (y : Bool), Below wr.heap.size wr W → (W.setCell ⟨w.heap.size + 1, t, none⟩ (.bool y)).cell? ⟨w.heap.size + 1 + 1, 0, none⟩ = some (.slice (some ⟨w.heap.size + 1, 0, none⟩) n n) ∧ (W.setCell ⟨w.heap.size + 1, t, none⟩ (.bool y)).cell? ⟨w.heap.size, 0, none⟩ = some (.slice a n c) ∧ (W.setCell ⟨w.heap.size + 1, t, none⟩ (.bool y)).cell? ⟨w.heap.size, 1, none⟩ = some (.int .i64 (r : Int))) := fun W y hW => ⟨((HV.out.below hW).set t y).2.2.2.2, ((HV.out.below hW).set t y).2.2.1.1, ((HV.out.below hW).set t y).2.2.1.2⟩
          have HKR : Hid (∀ W, Below wr.heap.size wr W → W.cell? ⟨w.heap.size + 1, t, none⟩ = some (.bool (part n p q f r d t)) ∧ W.frozen? ⟨w.heap.size + 1, t, none⟩ = false) := fun W hW => ⟨(HV.out.below hW).2.2.2.1.cell t htn, RowIs.frozen (HV.out.below hW).2.2.2.1 t⟩
          have HCQ : Hid (∀ W, Below wr.heap.size wr W → Calls Tryd.prog K2 (#[.int .i64 (t : Int)] ++ cs2) W fun e w' => e = .returned (.bool (q t)) ∧ Below W.heap.size W w') := fun W hW => HC2.out t W (Stay.of_below (HV.out.below hW).1) htn
          have HCP : Hid (∀ W, Below wr.heap.size wr W → Calls Tryd.prog K (#[.int .i64 (t : Int)] ++ cs) W fun e w' => e = .returned (.bool (p t)) ∧ Below W.heap.size W w') := fun W hW => HC1.out t W (Stay.of_below (HV.out.below hW).1) htn
          have HKN : Hid (∀ W, Below wr.heap.size wr W → W.cell? ⟨w.heap.size + 1, next n r t, none⟩ = some (.bool (bk n p q (f r) d))) := fun W hW => by rw [← part_next n p q f r d t hr ht]; exact (HV.out.below hW).2.2.2.1.cell _ (next_lt hr t)
          have hnl : (next n r t : Int) < (n : Int) := by have := next_lt hr t; omega
          have HSTEP : Hid (∀ W, Below wr.heap.size wr W → UW w n r a c (W.setCell ⟨w.heap.size + 1, t, none⟩ (.bool (q t || (p t && bk n p q (f r) d)))) (part n p q f r (d + 1))) := fun W hW => ((HV.out.below hW).set t _).congr fun i _ => part_step n p q f r d t ht i
          generalize part n p q f r d t = old at *
          generalize bk n p q (f r) d = y at *
          generalize q t = yq at *
          generalize p t = yp at *
          have HTD := hide ht
          clear ht hd hx hdn
          cases yq with
          | true =>
            rw [Bool.true_or] at HSTEP
            go_wp2_with fail
            refine wp_region_noPanic ?_
            refine wp_region_held_drew (S := fun W => W.cell? ⟨w.heap.size + 1 + 1, 0, none⟩ = some (.slice (some ⟨w.heap.size + 1, 0, none⟩) n n) ∧ W.cell? ⟨w.heap.size, 0, none⟩ = some (.slice a n c) ∧ W.cell? ⟨w.heap.size, 1, none⟩ = some (.int .i64 (r : Int))) (by kernel_rfl) (HKS.out _ HD.out) (fun hHeld => ?_)
            refine take_at 0 22 (.slice (some ⟨w.heap.size + 1, 0, none⟩) n n) rfl rfl (by kernel_rfl) (by kernel_rfl) (by kernel_rfl) (fun _ _ _ h => h) hHeld (Or.inl ⟨by rfl, ?_⟩) ?_
            · rintro Z ⟨z0, z1, z2⟩
              go_simp
            simp only [List.setIfInBounds_toArray, List.set_cons_zero, List.set_cons_succ]
            refine take_at 1 23 (.int .i64 (t : Int)) rfl rfl (by kernel_rfl) (by kernel_rfl) (by kernel_rfl) (fun _ _ _ h => h) hHeld (Or.inl ⟨by rfl, ?_⟩) ?_
            · rintro Z ⟨z0, z1, z2⟩
              go_simp
            simp only [List.setIfInBounds_toArray, List.set_cons_zero, List.set_cons_succ]
            refine take_at 2 24 (.func (.func K2) #[] cs2) rfl rfl (by kernel_rfl) (by kernel_rfl) (by kernel_rfl) (fun _ _ _ h => h) hHeld (Or.inl ⟨by rfl, ?_⟩) ?_
            · rintro Z ⟨z0, z1, z2⟩
              go_simp
            simp only [List.setIfInBounds_toArray, List.set_cons_zero, List.set_cons_succ]
            refine take_at 3 25 (.int .i64 (t : Int)) rfl rfl (by kernel_rfl) (by kernel_rfl) (by kernel_rfl) (fun _ _ _ h => h) hHeld (Or.inl ⟨by rfl, ?_⟩) ?_
            · rintro Z ⟨z0, z1, z2⟩
              go_simp
            simp only [List.setIfInBounds_toArray, List.set_cons_zero, List.set_cons_succ]
            refine wpAnyH_ready (rs := [4]) (by kernel_rfl) (by simp) ?_
            intro i hmem
            obtain rfl := List.mem_singleton.1 hmem
            refine wpOp_k rfl (by rfl) (fun K' hK => ?_)
            go_simp
            refine (HCQ.out _ HD.out).mono ?_
            rintro e w2 ⟨rfl, hb⟩
            have HB2 : Hid (Below wr.heap.size wr w2) := then_ HD.out hb
            have h2 := HKS.out _ HB2.out
            clear hb
            refine hK _ _ ⟨h2, ?_⟩
            clear hK K'
            refine take_at 5 27 (.bool true) rfl rfl (by kernel_rfl) (by kernel_rfl) (by kernel_rfl) (fun _ _ _ h => h) h2 (Or.inl ⟨by rfl, ?_⟩) ?_
            · rintro Z ⟨z0, z1, z2⟩
              go_simp
            simp only [List.setIfInBounds_toArray, List.set_cons_zero, List.set_cons_succ]
            refine skip_at 6 28 5 false rfl rfl rfl rfl (by kernel_rfl) (by kernel_rfl) (by kernel_rfl) (fun _ _ _ h => h) h2 ?_
            simp only [List.setIfInBounds_toArray, List.set_cons_zero, List.set_cons_succ]
            refine skip_at 7 29 5 false rfl rfl rfl rfl (by kernel_rfl) (by kernel_rfl) (by kernel_rfl) (fun _ _ _ h => h) h2 ?_
            simp only [List.setIfInBounds_toArray, List.set_cons_zero, List.set_cons_succ]
            refine wpAnyH_ready (rs := [8]) (by kernel_rfl) (by simp) ?_
            intro i hmem
            obtain rfl := List.mem_singleton.1 hmem
            refine wpOp_skip 8 30 5 false rfl rfl rfl rfl ⟨h2, ?_⟩
            simp only [List.setIfInBounds_toArray, List.set_cons_zero, List.set_cons_succ]
            refine skip_at 9 31 5 false rfl rfl rfl rfl (by kernel_rfl) (by kernel_rfl) (by kernel_rfl) (fun _ _ _ h => h) h2 ?_
            simp only [List.setIfInBounds_toArray, List.set_cons_zero, List.set_cons_succ]
            refine skipU_at 10 32 9 true rfl rfl rfl rfl (by kernel_rfl) (by kernel_rfl) (by kernel_rfl) (fun _ _ _ h => h) h2 ?_
            simp only [List.setIfInBounds_toArray, List.set_cons_zero, List.set_cons_succ]
            refine skipU_at 11 33 9 true rfl rfl rfl rfl (by kernel_rfl) (by kernel_rfl) (by kernel_rfl) (fun _ _ _ h => h) h2 ?_
            simp only [List.setIfInBounds_toArray, List.set_cons_zero, List.set_cons_succ]
            refine skipU_at 12 34 9 true rfl rfl rfl rfl (by kernel_rfl) (by kernel_rfl) (by kernel_rfl) (fun _ _ _ h => h) h2 ?_
            simp only [List.setIfInBounds_toArray, List.set_cons_zero, List.set_cons_succ]
            refine wpAnyH_ready (rs := [13]) (by kernel_rfl) (by simp) ?_
            intro i hmem
            obtain rfl := List.mem_singleton.1 hmem
            refine wpOp_skipU 13 35 9 true rfl rfl rfl rfl ⟨h2, ?_⟩
            simp only [List.setIfInBounds_toArray, List.set_cons_zero, List.set_cons_succ]
            refine skipU_at 14 36 9 true rfl rfl rfl rfl (by kernel_rfl) (by kernel_rfl) (by kernel_rfl) (fun _ _ _ h => h) h2 ?_
            simp only [List.setIfInBounds_toArray, List.set_cons_zero, List.set_cons_succ]
            refine skipU_at 15 37 9 true rfl rfl rfl rfl (by kernel_rfl) (by kernel_rfl) (by kernel_rfl) (fun _ _ _ h => h) h2 ?_
            simp only [List.setIfInBounds_toArray, List.set_cons_zero, List.set_cons_succ]
            refine skip_at 16 38 5 false rfl rfl rfl rfl (by kernel_rfl) (by kernel_rfl) (by kernel_rfl) (fun _ _ _ h => h) h2 ?_
            simp only [List.setIfInBounds_toArray, List.set_cons_zero, List.set_cons_succ]
            refine take_at 17 39 (.bool true) rfl rfl (by kernel_rfl) (by kernel_rfl) (by kernel_rfl) (fun _ _ _ h => h) h2 (Or.inl ⟨by rfl, ?_⟩) ?_
            · rintro Z ⟨z0, z1, z2⟩
              go_simp
            simp only [List.setIfInBounds_toArray, List.set_cons_zero, List.set_cons_succ]
            refine take_at 18 40 (.pointer (some ⟨w.heap.size + 1, t, none⟩)) rfl rfl (by kernel_rfl) (by kernel_rfl) (by kernel_rfl) (fun _ _ _ h => h) h2 (Or.inl ⟨by rfl, ?_⟩) ?_
            · rintro Z ⟨z0, z1, z2⟩
              go_simp
            simp only [List.setIfInBounds_toArray, List.set_cons_zero, List.set_cons_succ]
            obtain ⟨k0, kf⟩ := HKR.out _ HB2.out
            refine wpAnyH_ready (rs := [19]) (by kernel_rfl) (by simp) ?_
            intro i hmem
            obtain rfl := List.mem_singleton.1 hmem
            refine wpOp_k rfl (by rfl) (fun K' hK => ?_)
            go_simp
            have h9 := HKT.out _ true HB2.out
            refine hK _ _ ⟨h9, ?_⟩
            clear hK K'
            refine wpAnyH_done (by kernel_rfl) ?_ _
            refine NoPanic.normal ?_
            have HNX := hide (HSTEP.out _ HB2.out)
            clear h9 k0 kf
            go_wp2_with fail
            go_roundw
            case rel => exact ⟨d + 1, (t : Int) - 1, by have := HTD.out; omega, by go_num, by have := HTD.out; omega, HNX.out⟩
            case measure => simp [intOf]
          | false =>
            rw [Bool.false_or] at HSTEP
            cases yp with
            | false =>
              rw [Bool.false_and] at HSTEP
              go_wp2_with fail
              refine wp_region_noPanic ?_
              refine wp_region_held_drew (S := fun W => W.cell? ⟨w.heap.size + 1 + 1, 0, none⟩ = some (.slice (some ⟨w.heap.size + 1, 0, none⟩) n n) ∧ W.cell? ⟨w.heap.size, 0, none⟩ = some (.slice a n c) ∧ W.cell? ⟨w.heap.size, 1, none⟩ = some (.int .i64 (r : Int))) (by kernel_rfl) (HKS.out _ HD.out) (fun hHeld => ?_)
              refine take_at 0 22 (.slice (some ⟨w.heap.size + 1, 0, none⟩) n n) rfl rfl (by kernel_rfl) (by kernel_rfl) (by kernel_rfl) (fun _ _ _ h => h) hHeld (Or.inl ⟨by rfl, ?_⟩) ?_
              · rintro Z ⟨z0, z1, z2⟩
                go_simp
              simp only [List.setIfInBounds_toArray, List.set_cons_zero, List.set_cons_succ]
              refine take_at 1 23 (.int .i64 (t : Int)) rfl rfl (by kernel_rfl) (by kernel_rfl) (by kernel_rfl) (fun _ _ _ h => h) hHeld (Or.inl ⟨by rfl, ?_⟩) ?_
              · rintro Z ⟨z0, z1, z2⟩
                go_simp
              simp only [List.setIfInBounds_toArray, List.set_cons_zero, List.set_cons_succ]
              refine take_at 2 24 (.func (.func K2) #[] cs2) rfl rfl (by kernel_rfl) (by kernel_rfl) (by kernel_rfl) (fun _ _ _ h => h) hHeld (Or.inl ⟨by rfl, ?_⟩) ?_
              · rintro Z ⟨z0, z1, z2⟩
                go_simp
              simp only [List.setIfInBounds_toArray, List.set_cons_zero, List.set_cons_succ]
              refine take_at 3 25 (.int .i64 (t : Int)) rfl rfl (by kernel_rfl) (by kernel_rfl) (by kernel_rfl) (fun _ _ _ h => h) hHeld (Or.inl ⟨by rfl, ?_⟩) ?_
              · rintro Z ⟨z0, z1, z2⟩
                go_simp
              simp only [List.setIfInBounds_toArray, List.set_cons_zero, List.set_cons_succ]
              refine wpAnyH_ready (rs := [4]) (by kernel_rfl) (by simp) ?_
              intro i hmem
              obtain rfl := List.mem_singleton.1 hmem
              refine wpOp_k rfl (by rfl) (fun K' hK => ?_)
              go_simp
              refine (HCQ.out _ HD.out).mono ?_
              rintro e w2 ⟨rfl, hb⟩
              have HB2 : Hid (Below wr.heap.size wr w2) := then_ HD.out hb
              have h2 := HKS.out _ HB2.out
              clear hb
              refine hK _ _ ⟨h2, ?_⟩
              clear hK K'
              refine take_at 5 27 (.bool false) rfl rfl (by kernel_rfl) (by kernel_rfl) (by kernel_rfl) (fun _ _ _ h => h) h2 (Or.inl ⟨by rfl, ?_⟩) ?_
              · rintro Z ⟨z0, z1, z2⟩
                go_simp
              simp only [List.setIfInBounds_toArray, List.set_cons_zero, List.set_cons_succ]
              refine take_at 6 28 (.func (.func K) #[] cs) rfl rfl (by kernel_rfl) (by kernel_rfl) (by kernel_rfl) (fun _ _ _ h => h) h2 (Or.inl ⟨by rfl, ?_⟩) ?_
              · rintro Z ⟨z0, z1, z2⟩
                go_simp
              simp only [List.setIfInBounds_toArray, List.set_cons_zero, List.set_cons_succ]
              refine take_at 7 29 (.int .i64 (t : Int)) rfl rfl (by kernel_rfl) (by kernel_rfl) (by kernel_rfl) (fun _ _ _ h => h) h2 (Or.inl ⟨by rfl, ?_⟩) ?_
              · rintro Z ⟨z0, z1, z2⟩
                go_simp
              simp only [List.setIfInBounds_toArray, List.set_cons_zero, List.set_cons_succ]
              refine wpAnyH_ready (rs := [8]) (by kernel_rfl) (by simp) ?_
              intro i hmem
              obtain rfl := List.mem_singleton.1 hmem
              refine wpOp_k rfl (by rfl) (fun K' hK => ?_)
              go_simp
              refine (HCP.out _ HB2.out).mono ?_
              rintro e w3 ⟨rfl, hb⟩
              have HB3 : Hid (Below wr.heap.size wr w3) := then_ HB2.out hb
              have h3 := HKS.out _ HB3.out
              clear hb
              refine hK _ _ ⟨h3, ?_⟩
              clear hK K'
              refine take_at 9 31 (.bool false) rfl rfl (by kernel_rfl) (by kernel_rfl) (by kernel_rfl) (fun _ _ _ h => h) h3 (Or.inl ⟨by rfl, ?_⟩) ?_
              · rintro Z ⟨z0, z1, z2⟩
                go_simp
              simp only [List.setIfInBounds_toArray, List.set_cons_zero, List.set_cons_succ]
              refine skip_at 10 32 9 true rfl rfl rfl rfl (by kernel_rfl) (by kernel_rfl) (by kernel_rfl) (fun _ _ _ h => h) h3 ?_
              simp only [List.setIfInBounds_toArray, List.set_cons_zero, List.set_cons_succ]
              refine skip_at 11 33 9 true rfl rfl rfl rfl (by kernel_rfl) (by kernel_rfl) (by kernel_rfl) (fun _ _ _ h => h) h3 ?_
              simp only [List.setIfInBounds_toArray, List.set_cons_zero, List.set_cons_succ]
              refine skip_at 12 34 9 true rfl rfl rfl rfl (by kernel_rfl) (by kernel_rfl) (by kernel_rfl) (fun _ _ _ h => h) h3 ?_
              simp only [List.setIfInBounds_toArray, List.set_cons_zero, List.set_cons_succ]
              refine wpAnyH_ready (rs := [13]) (by kernel_rfl) (by simp) ?_
              intro i hmem
              obtain rfl := List.mem_singleton.1 hmem
              refine wpOp_skip 13 35 9 true rfl rfl rfl rfl ⟨h3, ?_⟩
              simp only [List.setIfInBounds_toArray, List.set_cons_zero, List.set_cons_succ]
              refine skip_at 14 36 9 true rfl rfl rfl rfl (by kernel_rfl) (by kernel_rfl) (by kernel_rfl) (fun _ _ _ h => h) h3 ?_
              simp only [List.setIfInBounds_toArray, List.set_cons_zero, List.set_cons_succ]
              refine skip_at 15 37 9 true rfl rfl rfl rfl (by kernel_rfl) (by kernel_rfl) (by kernel_rfl) (fun _ _ _ h => h) h3 ?_
              simp only [List.setIfInBounds_toArray, List.set_cons_zero, List.set_cons_succ]
              refine take_at 16 38 (.bool false) rfl rfl (by kernel_rfl) (by kernel_rfl) (by kernel_rfl) (fun _ _ _ h => h) h3 (Or.inl ⟨by rfl, ?_⟩) ?_
              · rintro Z ⟨z0, z1, z2⟩
                go_simp
              simp only [List.setIfInBounds_toArray, List.set_cons_zero, List.set_cons_succ]
              refine take_at 17 39 (.bool false) rfl rfl (by kernel_rfl) (by kernel_rfl) (by kernel_rfl) (fun _ _ _ h => h) h3 (Or.inl ⟨by rfl, ?_⟩) ?_
              · rintro Z ⟨z0, z1, z2⟩
                go_simp
              simp only [List.setIfInBounds_toArray, List.set_cons_zero, List.set_cons_succ]
              refine take_at 18 40 (.pointer (some ⟨w.heap.size + 1, t, none⟩)) rfl rfl (by kernel_rfl) (by kernel_rfl) (by kernel_rfl) (fun _ _ _ h => h) h3 (Or.inl ⟨by rfl, ?_⟩) ?_
              · rintro Z ⟨z0, z1, z2⟩
                go_simp
              simp only [List.setIfInBounds_toArray, List.set_cons_zero, List.set_cons_succ]
              obtain ⟨k0, kf⟩ := HKR.out _ HB3.out
              refine wpAnyH_ready (rs := [19]) (by kernel_rfl) (by simp) ?_
              intro i hmem
              obtain rfl := List.mem_singleton.1 hmem
              refine wpOp_k rfl (by rfl) (fun K' hK => ?_)
              go_simp
              have h9 := HKT.out _ false HB3.out
              refine hK _ _ ⟨h9, ?_⟩
              clear hK K'
              refine wpAnyH_done (by kernel_rfl) ?_ _
              refine NoPanic.normal ?_
              have HNX := hide (HSTEP.out _ HB3.out)
              clear h9 k0 kf
              go_wp2_with fail
              go_roundw
              case rel => exact ⟨d + 1, (t : Int) - 1, by have := HTD.out; omega, by go_num, by have := HTD.out; omega, HNX.out⟩
              case measure => simp [intOf]
            | true =>
              rw [Bool.true_and] at HSTEP
              go_wp2_with fail
              refine wp_region_noPanic ?_
              refine wp_region_held_drew (S := fun W => W.cell? ⟨w.heap.size + 1 + 1, 0, none⟩ = some (.slice (some ⟨w.heap.size + 1, 0, none⟩) n n) ∧ W.cell? ⟨w.heap.size, 0, none⟩ = some (.slice a n c) ∧ W.cell? ⟨w.heap.size, 1, none⟩ = some (.int .i64 (r : Int))) (by kernel_rfl) (HKS.out _ HD.out) (fun hHeld => ?_)
              refine take_at 0 22 (.slice (some ⟨w.heap.size + 1, 0, none⟩) n n) rfl rfl (by kernel_rfl) (by kernel_rfl) (by kernel_rfl) (fun _ _ _ h => h) hHeld (Or.inl ⟨by rfl, ?_⟩) ?_
              · rintro Z ⟨z0, z1, z2⟩
                go_simp
              simp only [List.setIfInBounds_toArray, List.set_cons_zero, List.set_cons_succ]
              refine take_at 1 23 (.int .i64 (t : Int)) rfl rfl (by kernel_rfl) (by kernel_rfl) (by kernel_rfl) (fun _ _ _ h => h) hHeld (Or.inl ⟨by rfl, ?_⟩) ?_
              · rintro Z ⟨z0, z1, z2⟩
                go_simp
              simp only [List.setIfInBounds_toArray, List.set_cons_zero, List.set_cons_succ]
              refine take_at 2 24 (.func (.func K2) #[] cs2) rfl rfl (by kernel_rfl) (by kernel_rfl) (by kernel_rfl) (fun _ _ _ h => h) hHeld (Or.inl ⟨by rfl, ?_⟩) ?_
              · rintro Z ⟨z0, z1, z2⟩
                go_simp
              simp only [List.setIfInBounds_toArray, List.set_cons_zero, List.set_cons_succ]
              refine take_at 3 25 (.int .i64 (t : Int)) rfl rfl (by kernel_rfl) (by kernel_rfl) (by kernel_rfl) (fun _ _ _ h => h) hHeld (Or.inl ⟨by rfl, ?_⟩) ?_
              · rintro Z ⟨z0, z1, z2⟩
                go_simp
              simp only [List.setIfInBounds_toArray, List.set_cons_zero, List.set_cons_succ]
              refine wpAnyH_ready (rs := [4]) (by kernel_rfl) (by simp) ?_
              intro i hmem
              obtain rfl := List.mem_singleton.1 hmem
              refine wpOp_k rfl (by rfl) (fun K' hK => ?_)
              go_simp
              refine (HCQ.out _ HD.out).mono ?_
              rintro e w2 ⟨rfl, hb⟩
              have HB2 : Hid (Below wr.heap.size wr w2) := then_ HD.out hb
              have h2 := HKS.out _ HB2.out
              clear hb
              refine hK _ _ ⟨h2, ?_⟩
              clear hK K'
              refine take_at 5 27 (.bool false) rfl rfl (by kernel_rfl) (by kernel_rfl) (by kernel_rfl) (fun _ _ _ h => h) h2 (Or.inl ⟨by rfl, ?_⟩) ?_
              · rintro Z ⟨z0, z1, z2⟩
                go_simp
              simp only [List.setIfInBounds_toArray, List.set_cons_zero, List.set_cons_succ]
              refine take_at 6 28 (.func (.func K) #[] cs) rfl rfl (by kernel_rfl) (by kernel_rfl) (by kernel_rfl) (fun _ _ _ h => h) h2 (Or.inl ⟨by rfl, ?_⟩) ?_
              · rintro Z ⟨z0, z1, z2⟩
                go_simp
              simp only [List.setIfInBounds_toArray, List.set_cons_zero, List.set_cons_succ]
              refine take_at 7 29 (.int .i64 (t : Int)) rfl rfl (by kernel_rfl) (by kernel_rfl) (by kernel_rfl) (fun _ _ _ h => h) h2 (Or.inl ⟨by rfl, ?_⟩) ?_
              · rintro Z ⟨z0, z1, z2⟩
                go_simp
              simp only [List.setIfInBounds_toArray, List.set_cons_zero, List.set_cons_succ]
              refine wpAnyH_ready (rs := [8]) (by kernel_rfl) (by simp) ?_
              intro i hmem
              obtain rfl := List.mem_singleton.1 hmem
              refine wpOp_k rfl (by rfl) (fun K' hK => ?_)
              go_simp
              refine (HCP.out _ HB2.out).mono ?_
              rintro e w3 ⟨rfl, hb⟩
              have HB3 : Hid (Below wr.heap.size wr w3) := then_ HB2.out hb
              have h3 := HKS.out _ HB3.out
              clear hb
              refine hK _ _ ⟨h3, ?_⟩
              clear hK K'
              refine take_at 9 31 (.bool true) rfl rfl (by kernel_rfl) (by kernel_rfl) (by kernel_rfl) (fun _ _ _ h => h) h3 (Or.inl ⟨by rfl, ?_⟩) ?_
              · rintro Z ⟨z0, z1, z2⟩
                go_simp
              simp only [List.setIfInBounds_toArray, List.set_cons_zero, List.set_cons_succ]
              refine take_at 10 32 (.slice (some ⟨w.heap.size + 1, 0, none⟩) n n) rfl rfl (by kernel_rfl) (by kernel_rfl) (by kernel_rfl) (fun _ _ _ h => h) h3 (Or.inl ⟨by rfl, ?_⟩) ?_
              · rintro Z ⟨z0, z1, z2⟩
                go_simp
              simp only [List.setIfInBounds_toArray, List.set_cons_zero, List.set_cons_succ]
              refine take_at 11 33 (.agg #[.slice a n c, .int .i64 (r : Int)]) rfl rfl (by kernel_rfl) (by kernel_rfl) (by kernel_rfl) (fun _ _ _ h => h) h3 (Or.inl ⟨by rfl, ?_⟩) ?_
              · rintro Z ⟨z0, z1, z2⟩
                go_simp
              simp only [List.setIfInBounds_toArray, List.set_cons_zero, List.set_cons_succ]
              refine take_at 12 34 (.int .i64 (t : Int)) rfl rfl (by kernel_rfl) (by kernel_rfl) (by kernel_rfl) (fun _ _ _ h => h) h3 (Or.inl ⟨by rfl, ?_⟩) ?_
              · rintro Z ⟨z0, z1, z2⟩
                go_simp
              simp only [List.setIfInBounds_toArray, List.set_cons_zero, List.set_cons_succ]
              refine wpAnyH_ready (rs := [13]) (by kernel_rfl) (by simp) ?_
              intro i hmem
              obtain rfl := List.mem_singleton.1 hmem
              refine wpOp_k rfl (by rfl) (fun K' hK => ?_)
              go_simp
              refine (next_any n r t hn htn a c w3).mono ?_
              rintro e w4 ⟨rfl, hb⟩
              have HB4 : Hid (Below wr.heap.size wr w4) := then_ HB3.out hb
              have h4 := HKS.out _ HB4.out
              clear hb
              refine hK _ _ ⟨h4, ?_⟩
              clear hK K'
              refine take_at 14 36 (.pointer (some ⟨w.heap.size + 1, next n r t, none⟩)) rfl rfl (by kernel_rfl) (by kernel_rfl) (by kernel_rfl) (fun _ _ _ h => h) h4 (Or.inl ⟨by rfl, ?_⟩) ?_
              · rintro Z ⟨z0, z1, z2⟩
                go_simp
              simp only [List.setIfInBounds_toArray, List.set_cons_zero, List.set_cons_succ]
              have kn := HKN.out _ HB4.out
              refine wpAnyH_ready (rs := [15]) (by kernel_rfl) (by simp) ?_
              intro i hmem
              obtain rfl := List.mem_singleton.1 hmem
              refine wpOp_k rfl (by rfl) (fun K' hK => ?_)
              go_simp
              refine hK _ _ ⟨h4, ?_⟩
              clear hK K'
              refine take_at 16 38 (.bool y) rfl rfl (by kernel_rfl) (by kernel_rfl) (by kernel_rfl) (fun _ _ _ h => h) h4 (Or.inl ⟨by rfl, ?_⟩) ?_
              · rintro Z ⟨z0, z1, z2⟩
                go_simp
              simp only [List.setIfInBounds_toArray, List.set_cons_zero, List.set_cons_succ]
              refine take_at 17 39 (.bool y) rfl rfl (by kernel_rfl) (by kernel_rfl) (by kernel_rfl) (fun _ _ _ h => h) h4 (Or.inl ⟨by rfl, ?_⟩) ?_
              · rintro Z ⟨z0, z1, z2⟩
                go_simp
              simp only [List.setIfInBounds_toArray, List.set_cons_zero, List.set_cons_succ]
              refine take_at 18 40 (.pointer (some ⟨w.heap.size + 1, t, none⟩)) rfl rfl (by kernel_rfl) (by kernel_rfl) (by kernel_rfl) (fun _ _ _ h => h) h4 (Or.inl ⟨by rfl, ?_⟩) ?_
              · rintro Z ⟨z0, z1, z2⟩
                go_simp
              simp only [List.setIfInBounds_toArray, List.set_cons_zero, List.set_cons_succ]
              obtain ⟨k0, kf⟩ := HKR.out _ HB4.out
              refine wpAnyH_ready (rs := [19]) (by kernel_rfl) (by simp) ?_
              intro i hmem
              obtain rfl := List.mem_singleton.1 hmem
              refine wpOp_k rfl (by rfl) (fun K' hK => ?_)
              go_simp
              have h9 := HKT.out _ y HB4.out
              refine hK _ _ ⟨h9, ?_⟩
              clear hK K'
              refine wpAnyH_done (by kernel_rfl) ?_ _
              refine NoPanic.normal ?_
              have HNX := hide (HSTEP.out _ HB4.out)
              clear h9 k0 kf
              go_wp2_with fail
              go_roundw
              case rel => exact ⟨d + 1, (t : Int) - 1, by have := HTD.out; omega, by go_num, by have := HTD.out; omega, HNX.out⟩
              case measure => simp [intOf]
        · have hdn2 : d = n := by omega
          obtain rfl : x = -1 := by omega
          have HNX : Hid (UW w n r a c wr (way n r p q (k + 1))) := HV.out.congr fun i _ => by rw [HK1.out, hdn2, part_all]
          clear hd hx hdn hdn2
          go_wp2_with fail
          go_roundw
          case rel => exact ⟨k + 1, by omega, by go_num, HNX.out⟩
          case measure => simp [intOf]; omega
    · have hk3 : k = 2 := by omega
      subst hk3
      have HR : Hid (IsSo ok wr (.func (.func 59) #[] #[.pointer (some ⟨w.heap.size + 1 + 1, 0, none⟩)]) n (unt n r p q)) := ⟨_, _, rfl, .inr (.inl ⟨_, rfl⟩), fun _ _ => by kernel_rfl, fun t W hW ht => until1_any n t ht _ _ _ W (hW.cell (HOK.out _ (by omega)) HU.out.2.2.2.2) ((hW.2 _ HU.out.2.2.2.1.lt (HOK.out _ (by omega))).trans HU.out.2.2.2.1)⟩
      clear hk hk2
      go_wp2_with fail
      go_ret
      exact ⟨_, rfl, HR.out, HU.out.1⟩
end Ls
end Go.Proofs.YtmdblokmplbpmaaDoor
