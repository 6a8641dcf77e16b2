/-
  The walks of package route's among, over numbers and over points, and of slices.IndexFunc and ContainsFunc over both.
-/
import Derived.Test.YtflonjbbolmelaaGreatDoorRoMapAll
namespace Go.Proofs.YtflonjbbolmelaaGreatDoor
namespace Ro
open Go.RowKit Go.Maps
/-- a function that tells something of a point -/
def QPred (w : World) (f : Value) (p : Int × Bool → Bool) : Prop := ∃ K c, f = .func (.func K) #[] #[c] ∧ (∀ args w, (callFunc K args).run Tryz.prog w = .ok (.enter K args) w) ∧ ∀ (x : Int × Bool) (W : World), Below w.heap.size w W → I64 x.1 → Calls Tryz.prog K #[ptV x, c] W fun e w' => e = .returned (.bool (p x)) ∧ Below W.heap.size W w'
theorem QPred.below {w w' : World} {f : Value} {p : Int × Bool → Bool} (h : QPred w f p) (hb : Below w.heap.size w w') : QPred w' f p := by
  obtain ⟨K, c, h1, h2, h3⟩ := h
  exact ⟨K, c, h1, h2, fun x W hW hx => h3 x W (hb.trans (hW.mono hb.size)) hx⟩
theorem contains_take {α : Type} [BEq α] [LawfulBEq α] (l : List α) (k : Nat) (h : k < l.length) (x : α) : (l.take (k + 1)).contains x = ((l.take k).contains x || x == l[k]) := by
  rw [Bool.eq_iff_iff, Bool.or_eq_true, List.contains_iff_mem, List.contains_iff_mem, beq_iff_eq, List.take_succ_eq_append_getElem h, List.mem_append, List.mem_singleton]
theorem madeI (n : Nat) (w : World) : (Instr.makeMap 110 (some (.int .i64 (n : Int)))).run Tryz.prog w = .ok (.map (some w.heap.size)) (w.alloc (.map #[] 0)) := by
  simp [Instr.makeMap, run_underlying Tryz.underlying110, asInt, asIntOf]
theorem madeP (n : Nat) (w : World) : (Instr.makeMap 113 (some (.int .i64 (n : Int)))).run Tryz.prog w = .ok (.map (some w.heap.size)) (w.alloc (.map #[] 0)) := by
  simp [Instr.makeMap, run_underlying Tryz.underlying113, asInt, asIntOf]
set_option maxHeartbeats 2000000 in
set_option maxRecDepth 100000 in
theorem amongI1_any (c b n : Nat) (p : Int → Bool) (x : Int) (hx : I64 x) (w : World) (c0 : w.cell? ⟨c, 0, none⟩ = some (.map (some b))) (hm : IMap w b n p) :
    Calls Tryz.prog 53 #[.int .i64 x, .pointer (some ⟨c, 0, none⟩)] w fun e w' => e = .returned (.bool (p x)) ∧ Below w.heap.size w w' := by
  have hl := hm.look x hx
  generalize p x = y at *
  clear hm
  go_enter Tryz.func53, Tryz.ntmps53
  go_wp2_with fail
  go_ret
  exact ⟨rfl, newB _ _⟩
set_option maxHeartbeats 2000000 in
set_option maxRecDepth 100000 in
theorem amongP1_any (c b n : Nat) (p : Int × Bool → Bool) (x : Int × Bool) (hx : I64 x.1) (w : World) (c0 : w.cell? ⟨c, 0, none⟩ = some (.map (some b))) (hm : PMap w b n p) :
    Calls Tryz.prog 54 #[ptV x, .pointer (some ⟨c, 0, none⟩)] w fun e w' => e = .returned (.bool (p x)) ∧ Below w.heap.size w w' := by
  obtain ⟨w1, hw1⟩ : ∃ w1, w1 = w.alloc (.cells #[.int .i64 x.1, .bool x.2] 85) := ⟨_, rfl⟩
  have HB : Hid (Below w.heap.size w w1) := by rw [hw1]; exact newB _ _
  have hl := (hm.kept (HB.out.block b hm.lt)).look x hx
  have c1 := kept HB.out c0
  have hbl := World.block_lt_of_cell? _ _ c0
  unfold ptV at hl ⊢
  generalize p x = y at *
  have HW := hide hw1
  clear hm hw1
  go_enter Tryz.func54, Tryz.ntmps54
  rw [HW.out] at hl c1
  go_wp2_with fail
  go_ret
  exact ⟨rfl, then_ (newB _ _) (newB _ _)⟩
/-- a question that 'among' made: is it in its map? -/
def AmI (q : Nat) (W : World) (f : Value) (p : Int → Bool) : Prop := ∃ c b n, f = .func (.func 53) #[] #[.pointer (some ⟨c, 0, none⟩)] ∧ q ≤ c ∧ q ≤ b ∧ W.cell? ⟨c, 0, none⟩ = some (.map (some b)) ∧ IMap W b n p
theorem AmI.below {q : Nat} {W W' : World} {f : Value} {p : Int → Bool} (h : AmI q W f p) (hb : Below W.heap.size W W') : AmI q W' f p := by
  obtain ⟨c, b, n, h1, h2, h3, h4, h5⟩ := h
  exact ⟨c, b, n, h1, h2, h3, kept hb h4, h5.kept (hb.block _ h5.lt)⟩
theorem AmI.set {q : Nat} {W : World} {f : Value} {p : Int → Bool} (h : AmI q W f p) (b0 i : Nat) (v : Value) (hb : b0 < q) : AmI q (W.setCell ⟨b0, i, none⟩ v) f p := by
  obtain ⟨c, b, n, h1, h2, h3, h4, h5⟩ := h
  exact ⟨c, b, n, h1, h2, h3, cell_set_block _ _ _ _ _ _ _ (by omega) h4, h5.kept (Below.heap_setCell _ _ _ _ (fun e => by have e2 : b = b0 := e; omega))⟩
theorem AmI.mono {q q' : Nat} {W : World} {f : Value} {p : Int → Bool} (h : AmI q W f p) (hq : q' ≤ q) : AmI q' W f p := by
  obtain ⟨c, b, n, h1, h2, h3, h4, h5⟩ := h
  exact ⟨c, b, n, h1, by omega, by omega, h4, h5⟩
theorem AmI.spred {q : Nat} {W : World} {f : Value} {p : Int → Bool} (h : AmI q W f p) : SPred W f I64 p := by
  obtain ⟨c, b, n, h1, h2, h3, h4, h5⟩ := h
  refine ⟨_, _, h1, .inl ⟨_, rfl⟩, fun args w => by kernel_rfl, fun x W hW hx => ?_⟩
  exact amongI1_any c b n _ x hx W (kept hW h4) (h5.kept (hW.block _ h5.lt))
/-- a question that 'among' made: is it in its map? -/
def AmP (q : Nat) (W : World) (f : Value) (p : Int × Bool → Bool) : Prop := ∃ c b n, f = .func (.func 54) #[] #[.pointer (some ⟨c, 0, none⟩)] ∧ q ≤ c ∧ q ≤ b ∧ W.cell? ⟨c, 0, none⟩ = some (.map (some b)) ∧ PMap W b n p
theorem AmP.below {q : Nat} {W W' : World} {f : Value} {p : Int × Bool → Bool} (h : AmP q W f p) (hb : Below W.heap.size W W') : AmP q W' f p := by
  obtain ⟨c, b, n, h1, h2, h3, h4, h5⟩ := h
  exact ⟨c, b, n, h1, h2, h3, kept hb h4, h5.kept (hb.block _ h5.lt)⟩
theorem AmP.set {q : Nat} {W : World} {f : Value} {p : Int × Bool → Bool} (h : AmP q W f p) (b0 i : Nat) (v : Value) (hb : b0 < q) : AmP q (W.setCell ⟨b0, i, none⟩ v) f p := by
  obtain ⟨c, b, n, h1, h2, h3, h4, h5⟩ := h
  exact ⟨c, b, n, h1, h2, h3, cell_set_block _ _ _ _ _ _ _ (by omega) h4, h5.kept (Below.heap_setCell _ _ _ _ (fun e => by have e2 : b = b0 := e; omega))⟩
theorem AmP.mono {q q' : Nat} {W : World} {f : Value} {p : Int × Bool → Bool} (h : AmP q W f p) (hq : q' ≤ q) : AmP q' W f p := by
  obtain ⟨c, b, n, h1, h2, h3, h4, h5⟩ := h
  exact ⟨c, b, n, h1, by omega, by omega, h4, h5⟩
theorem AmP.qpred {q : Nat} {W : World} {f : Value} {p : Int × Bool → Bool} (h : AmP q W f p) : QPred W f p := by
  obtain ⟨c, b, n, h1, h2, h3, h4, h5⟩ := h
  refine ⟨_, _, h1, fun args w => by kernel_rfl, fun x W hW hx => ?_⟩
  exact amongP1_any c b n _ x hx W (kept hW h4) (h5.kept (hW.block _ h5.lt))
set_option maxHeartbeats 4000000 in
set_option maxRecDepth 100000 in
theorem amongI_any (l : List Int) (sv : Value) (w : World) (h : Ints w sv l) (hl : l.length ≤ 1000) :
    Calls Tryz.prog 38 #[sv] w fun e w' => ∃ f, e = .returned f ∧ AmI w.heap.size w' f (fun x => l.contains x) ∧ Below w.heap.size w w' := by
  have HR := hide h
  obtain ⟨a, cp, rfl⟩ := h.slice
  obtain ⟨n, hn⟩ : ∃ n, n = l.length := ⟨_, rfl⟩
  have HN := hide hn
  rw [← hn] at hl HR ⊢
  clear h hn
  obtain ⟨wA, hwA⟩ : ∃ wA, wA = (w.alloc (.map #[] 0)).alloc (.cells #[.map (some w.heap.size)] 110) := ⟨_, rfl⟩
  have HBA : Hid (Below w.heap.size w wA) := by rw [hwA]; exact then_ (newB _ _) (newB _ _)
  have HCA : Hid (wA.cell? ⟨w.heap.size + 1, 0, none⟩ = some (.map (some w.heap.size))) := by
    show _ = _
    rw [hwA]
    have := (RowIs.new (w.alloc (.map #[] 0)) 110 [.map (some w.heap.size)]).cell 0 _ rfl
    rw [World.size_alloc] at this
    exact this
  have HMA : Hid (IMap wA w.heap.size 0 (fun x => (l.take 0).contains x)) := by
    have h := IMap.made w
    rw [hwA]
    exact h.kept (Below.heap_alloc _ _ _ h.lt)
  have HWA := hide hwA
  have hmk := madeI n w
  clear hwA
  go_enter Tryz.func38, Tryz.ntmps38
  go_wp2_with fail
  rw [← HWA.out]
  clear HWA
  go_loopw [11] (fun i wr => ∃ k : Nat, k ≤ n ∧ i = .int .i64 (k : Int) ∧ Hid (wr.cell? ⟨w.heap.size + 1, 0, none⟩ = some (.map (some w.heap.size))) ∧ Hid (IMap wr w.heap.size k (fun x => (l.take k).contains x)) ∧ Hid (Below w.heap.size w wr)) (fun i _ => n - (intOf i).toNat)
  case atStart => exact ⟨0, Nat.zero_le _, rfl, HCA.out, HMA.out, HBA.out⟩
  case round =>
    obtain ⟨k, hk, rfl, HC, HM, HB⟩ := hrel
    have c0 := HC.out
    by_cases hlt : k < n
    · have hkl : k < l.length := by rw [← HN.out]; exact hlt
      obtain ⟨g, o, rfl, cx, hi⟩ := (HR.out.below HB.out).cell k _ (List.getElem?_eq_getElem hkl)
      obtain ⟨W', hrun, hm', hg⟩ := HM.out.put (by omega) l[k] hi
      have HM' : Hid (IMap W' w.heap.size (k + 1) (fun x => (l.take (k + 1)).contains x)) := by
        have e : (fun x => (l.take (k + 1)).contains x) = (fun j => (l.take k).contains j || j == l[k]) := by
          funext x
          exact contains_take l k hkl x
        show IMap _ _ _ _
        rw [e]; exact hm'
      have HB' := hide (below_grown1 HB.out hg (Nat.le_refl _))
      have HC' : Hid (W'.cell? ⟨w.heap.size + 1, 0, none⟩ = some (.map (some w.heap.size))) := hg.cell c0 (by intro e; have e2 : w.heap.size + 1 = w.heap.size := Option.some.inj e; omega)
      have hji : (k : Int) < (n : Int) := by omega
      clear hi hm' hg
      generalize l[k] = x at *
      go_wp2_with fail
      go_roundw
      case rel => exact ⟨k + 1, by omega, by go_num, HC'.out, HM'.out, HB'.out⟩
      case measure => simp [intOf]; omega
    · have hkn : k = n := by omega
      have HS : Hid (AmI w.heap.size wr (.func (.func 53) #[] #[.pointer (some ⟨w.heap.size + 1, 0, none⟩)]) (fun x => l.contains x)) := by
        have hm := HM.out
        rw [List.take_of_length_le (by rw [← HN.out]; omega)] at hm
        exact ⟨_, _, _, rfl, Nat.le_succ _, Nat.le_refl _, HC.out, hm⟩
      clear c0 HC HM
      subst hkn
      go_wp2_with fail
      go_ret
      exact ⟨_, rfl, HS.out, HB.out⟩
set_option maxHeartbeats 4000000 in
set_option maxRecDepth 100000 in
theorem amongP_any (l : List (Int × Bool)) (sv : Value) (w : World) (h : Pts w sv l) (hl : l.length ≤ 1000) :
    Calls Tryz.prog 39 #[sv] w fun e w' => ∃ f, e = .returned f ∧ AmP w.heap.size w' f (fun x => l.contains x) ∧ Below w.heap.size w w' := by
  have HR := hide h
  obtain ⟨a, cp, rfl⟩ := h.slice
  obtain ⟨n, hn⟩ : ∃ n, n = l.length := ⟨_, rfl⟩
  have HN := hide hn
  rw [← hn] at hl HR ⊢
  clear h hn
  obtain ⟨wA, hwA⟩ : ∃ wA, wA = (w.alloc (.map #[] 0)).alloc (.cells #[.map (some w.heap.size)] 113) := ⟨_, rfl⟩
  have HBA : Hid (Below w.heap.size w wA) := by rw [hwA]; exact then_ (newB _ _) (newB _ _)
  have HCA : Hid (wA.cell? ⟨w.heap.size + 1, 0, none⟩ = some (.map (some w.heap.size))) := by
    show _ = _
    rw [hwA]
    have := (RowIs.new (w.alloc (.map #[] 0)) 113 [.map (some w.heap.size)]).cell 0 _ rfl
    rw [World.size_alloc] at this
    exact this
  have HMA : Hid (PMap wA w.heap.size 0 (fun x => (l.take 0).contains x)) := by
    have h := PMap.made w
    rw [hwA]
    exact h.kept (Below.heap_alloc _ _ _ h.lt)
  have HWA := hide hwA
  have hmk := madeP n w
  clear hwA
  go_enter Tryz.func39, Tryz.ntmps39
  go_wp2_with fail
  rw [← HWA.out]
  clear HWA
  go_loopw [11] (fun i wr => ∃ k : Nat, k ≤ n ∧ i = .int .i64 (k : Int) ∧ Hid (wr.cell? ⟨w.heap.size + 1, 0, none⟩ = some (.map (some w.heap.size))) ∧ Hid (PMap wr w.heap.size k (fun x => (l.take k).contains x)) ∧ Hid (Below w.heap.size w wr)) (fun i _ => n - (intOf i).toNat)
  case atStart => exact ⟨0, Nat.zero_le _, rfl, HCA.out, HMA.out, HBA.out⟩
  case round =>
    obtain ⟨k, hk, rfl, HC, HM, HB⟩ := hrel
    by_cases hlt : k < n
    · have hkl : k < l.length := by rw [← HN.out]; exact hlt
      obtain ⟨g, o, rfl, cx, cy, hi⟩ := (HR.out.below HB.out).cell k _ (List.getElem?_eq_getElem hkl)
      obtain ⟨wL, hwL⟩ : ∃ wL, wL = wr.alloc (.cells #[.int .i64 l[k].1, .bool l[k].2] 85) := ⟨_, rfl⟩
      have hbL : Below wr.heap.size wr wL := by rw [hwL]; exact newB _ _
      have c0 := kept hbL HC.out
      have hcl := World.block_lt_of_cell? _ _ HC.out
      obtain ⟨W', hrun, hm', hg⟩ := (HM.out.kept (hbL.block _ HM.out.lt)).put (by omega) l[k] hi
      have HM' : Hid (PMap W' w.heap.size (k + 1) (fun x => (l.take (k + 1)).contains x)) := by
        have e : (fun x => (l.take (k + 1)).contains x) = (fun j => (l.take k).contains j || j == l[k]) := by
          funext x
          exact contains_take l k hkl x
        show PMap _ _ _ _
        rw [e]; exact hm'
      have HB' := hide (below_grown1 (then_ HB.out hbL) hg (Nat.le_refl _))
      have HC' : Hid (W'.cell? ⟨w.heap.size + 1, 0, none⟩ = some (.map (some w.heap.size))) := hg.cell c0 (by intro e; have e2 : w.heap.size + 1 = w.heap.size := Option.some.inj e; omega)
      have hji : (k : Int) < (n : Int) := by omega
      unfold ptV at hrun
      rw [hwL] at hrun c0
      clear hi hm' hg hbL hwL
      generalize l[k] = x at *
      go_wp2_with fail
      go_roundw
      case rel => exact ⟨k + 1, by omega, by go_num, HC'.out, HM'.out, HB'.out⟩
      case measure => simp [intOf]; omega
    · have hkn : k = n := by omega
      have HS : Hid (AmP w.heap.size wr (.func (.func 54) #[] #[.pointer (some ⟨w.heap.size + 1, 0, none⟩)]) (fun x => l.contains x)) := by
        have hm := HM.out
        rw [List.take_of_length_le (by rw [← HN.out]; omega)] at hm
        exact ⟨_, _, _, rfl, Nat.le_succ _, Nat.le_refl _, HC.out, hm⟩
      clear HC HM
      subst hkn
      go_wp2_with fail
      go_ret
      exact ⟨_, rfl, HS.out, HB.out⟩
end Ro
end Go.Proofs.YtflonjbbolmelaaGreatDoor
