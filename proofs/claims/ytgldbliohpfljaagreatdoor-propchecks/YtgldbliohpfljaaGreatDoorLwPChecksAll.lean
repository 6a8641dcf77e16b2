/-
  The document's table of what comes of which, in plain words: it is package machine's. The walk of the document's Check. The walk of the statements' own known: are all names of some expressions a program's? The walks of package prop's Good where there is no machine, or no expression; what Good told, in memory. The walk of PropChecks: whether an expression holds behind each scan, and the least inputs by which it doesn't, is the document's.
-/
import Derived.Test.YtgldbliohpfljaaGreatDoorRfPathXAll
import Derived.Test.YtgldbliohpfljaaGreatDoorRcNextAll
import Derived.Test.YtgldbliohpfljaaGreatDoorRcLeastAll
import Derived.Test.YtgldbliohpfljaaGreatDoorPrGoodAll
import Derived.Test.YtgldbliohpfljaaGreatDoorRlSplitAll
import Derived.Test.YtgldbliohpfljaaGreatDoorPrNamesAll
import Derived.Deep.RegionHeld3
import Derived.Test.YtgldbliohpfljaaGreatDoorPcRowsAll
import Derived.Test.YtgldbliohpfljaaGreatDoorPrSearchAll
namespace Go.Proofs.YtgldbliohpfljaaGreatDoor
section
namespace Rf
open Go.RowKit
theorem nextL_is (p : Ld.Prg) (hck : Ld.check p = none) (s : Nat) : nextL p (2 ^ (Ld.kindL p.names 1).length) s = Mc.nexts p s := by
  unfold nextL Mc.nexts
  exact List.map_congr_left fun i _ => nxt_is p hck s i
theorem nextsL_small (p : Ld.Prg) (hck : Ld.check p = none) (S I : Nat) (hS : Mc.total (Mc.parts p) ≤ 4096) : ∀ b, b ∈ nextsL p S I → ∀ i, i ∈ b → i ≤ 1000000 := fun b hb i hi => by
  obtain ⟨s, _, rfl⟩ := List.mem_map.1 hb
  obtain ⟨j, _, rfl⟩ := List.mem_map.1 hi
  have h := (nxt_small p hck s j hS).1 0 (Nat.zero_le _)
  rw [numAt_zero] at h
  exact h
theorem nextsL_map (p : Ld.Prg) (hck : Ld.check p = none) (S : Nat) : (nextsL p S (2 ^ (Ld.kindL p.names 1).length)).map asI = (List.range S).map fun s => asI (Mc.nexts p s) := by
  unfold nextsL
  rw [List.map_map]
  exact List.map_congr_left fun s _ => by show asI _ = asI _; rw [nextL_is p hck]
end Rf
end
section
namespace Rf
open Go.RowKit
/-- a list of inputs that was found, in memory; nil: none -/
def BestV (W : World) (b : Option (List Nat)) (v : Value) : Prop := match b with
  | none => v = .slice none 0 0
  | some q => q.length ≤ 5000 ∧ ∃ a c, v = .slice (some ⟨a, 0, none⟩) q.length c ∧ q.length ≤ c ∧ ∀ (k x : Nat), q[k]? = some x → x ≤ 64 ∧ W.cell? ⟨a, k, none⟩ = some (.int .i64 (x : Int))
theorem BestV.below {W W' : World} {b : Option (List Nat)} {v : Value} (h : BestV W b v) (hb : Below W.heap.size W W') : BestV W' b v := by
  cases b with
  | none => exact h
  | some q =>
    obtain ⟨h0, a, c, h1, h2, h3⟩ := h
    exact ⟨h0, a, c, h1, h2, fun k x hx => ⟨(h3 k x hx).1, (hb.cell (World.block_lt_of_cell? _ _ (h3 k x hx).2)).trans (h3 k x hx).2⟩⟩
theorem wtC_is (row : Nat → List Bool) (p : Nat × Nat) (i : Nat) : Pr.wtC row p i = if (row p.1).getD i false = true then 0 else 1 := by
  unfold Pr.wtC Pr.waits
  cases (row p.1).getD i false <;> rfl
/-- what the document's Check comes to -/
def CheckD (w : World) (next : Nat → List Nat) (row : Nat → List Bool) (e : Ending) (w' : World) : Prop := Below w.heap.size w w' ∧ ∃ b v, e = .returned v ∧ BestV w' b v ∧ match b with
  | none => Pr.Held next (Pr.wtC row) 0
  | some q => Pr.Broke next (Pr.wtC row) 0 q ∧ Pr.Least next (Pr.wtC row) 0 q
theorem CheckD.of {w w' : World} {next : Nat → List Nat} {row : Nat → List Bool} {S : Nat} {b : Option (List Nat)} {v : Value} (hS : 1 ≤ S) (hn : ∀ f s, f < S → s ∈ next f → s < S) (hb : Below w.heap.size w w') (hv : BestV w' b v) (h : Pc.Best next S row b S 0) : CheckD w next row (.returned v) w' := by
  refine ⟨hb, b, v, rfl, hv, ?_⟩
  cases b with
  | none => exact h.none_ hS hn (wtC_is row)
  | some q => exact h.some_ hS hn (wtC_is row)
set_option maxHeartbeats 16000000 in
set_option maxRecDepth 100000 in
theorem RCheck_any (bx g : Nat) (p : Ld.Prg) (x : Ex) (w : World) (hm : IsRMach w bx p) (hL : RLaid w) (hck : Ld.check p = none) (hq6 : (Ld.kindL p.names 1).length ≤ 6) (hS4 : Mc.total (Mc.parts p) ≤ 4096) (hx : IsRx (fun _ => True) w x g) (hnm : ∀ n, n ∈ x.named true → n.length ≤ maxLen) :
    Calls Tryz.prog 16 #[.pointer (some ⟨bx, 0, none⟩), .pointer (some ⟨g, 0, none⟩)] w (CheckD w (Mc.nexts p) (Pr.goodRow p x (2 ^ (Ld.kindL p.names 1).length))) := by
  have HGO := hide (RGood_any bx g p x w hm hL hck hq6 hS4 hx hnm)
  obtain ⟨nv, rv, nx, us0, q0, k1, _, k3⟩ := id hm
  have hrow := k3.rowsI (nextsL_small p hck _ _ hS4)
  rw [nextsL_map p hck] at hrow
  have hnl := fun s => Mc.nexts_len p s
  have hnx : ∀ f s, f < Mc.total (Mc.parts p) → s ∈ Mc.nexts p f → s < Mc.total (Mc.parts p) := fun f s _ hs => Mc.nexts_lt p hck f s hs
  have hS1 : 1 ≤ Mc.total (Mc.parts p) := Mc.total_pos _ (Mc.parts_ok p)
  have hI64 : 2 ^ (Ld.kindL p.names 1).length ≤ 64 := Nat.le_trans (Nat.pow_le_pow_right (by decide) hq6) (by decide)
  have hI1 : 0 < 2 ^ (Ld.kindL p.names 1).length := Nat.pow_pos (by decide)
  generalize Pr.goodRow p x (2 ^ (Ld.kindL p.names 1).length) = row at *
  generalize Mc.nexts p = next at *
  generalize Mc.total (Mc.parts p) = S at *
  generalize 2 ^ (Ld.kindL p.names 1).length = I at *
  have HPA : Hid (∀ W, Below w.heap.size w W → Calls Tryz.prog 51 #[.pointer (some ⟨bx, 0, none⟩)] W (PathsD W S next)) := fun W hW => RPaths_any bx S I _ _ _ next W (k1.below hW) (hrow.below hW) hnl hnx hS1 (by omega) (by omega)
  have HNL := hide hnl
  have HNX := hide hnx
  have HWF := hide (Rc.walk_far next S hS1 hnx)
  have en0 := eqNilN_none
  have en1 := eqNilN_some
  clear hm hL hck hq6 hx hnm k1 k3 hrow hnl hnx
  go_enter Tryz.func16, Tryz.ntmps16
  go_wp2_with fail
  refine HGO.out.mono ?_
  rintro e w1 ⟨o, rfl, hga, hb1⟩
  obtain ⟨bo, oc, rfl, hoc, hrows⟩ := hga
  have HROW := hide hrows
  have HB1 := hide hb1
  have HPA1 := hide (HPA.out w1 hb1)
  clear hrows hb1 HGO HPA
  go_wp2_with fail
  refine HPA1.out.mono ?_
  rintro e w2 ⟨gq, uq, out, rfl, hoa, hpi, hb2⟩
  have HB2 : Hid (Below w.heap.size w w2) := then_ HB1.out hb2
  have HOA : Hid (∀ W, Below w2.heap.size w2 W → OutAt W gq uq out) := fun W hW => hoa.below hW
  have HPI := hide hpi
  have HRW : Hid (∀ W, Below w2.heap.size w2 W → ∀ s, s < S → ∃ a d, W.cell? ⟨bo, s, none⟩ = some (.slice (some ⟨a, 0, none⟩) I d) ∧ I ≤ d ∧ ∀ i, i < I → W.cell? ⟨a, i, none⟩ = some (.bool ((row s).getD i false))) := fun W hW s hs => by
    have hb := then_ hb2 hW
    obtain ⟨a, d, h1, h2, h3⟩ := HROW.out s hs
    exact ⟨a, d, (hb.cell (World.block_lt_of_cell? _ _ h1)).trans h1, h2, fun i hi => (hb.cell (World.block_lt_of_cell? _ _ (h3 i hi))).trans (h3 i hi)⟩
  clear hoa hpi hb2 HPA1
  go_wp2_with fail
  go_loopw [20, 7] (fun i bv wr => ∃ (s : Nat) (b : Option (List Nat)) (xa : Option Addr) (xn xc : Nat), s ≤ S ∧ i = .int .i64 (s : Int) ∧ bv = .slice xa xn xc ∧ Hid (BestV wr b (.slice xa xn xc)) ∧ Hid (Pc.Best next S row b s 0) ∧ Hid (Below w2.heap.size w2 wr)) (fun i _ _ => S - (intOf i).toNat)
  case atStart => exact ⟨0, none, none, 0, 0, Nat.zero_le _, rfl, rfl, rfl, Pc.Best.start next S row, Below.refl _ _⟩
  case round =>
    obtain ⟨s, b, xa, xn, xc, hs, rfl, rfl, HBV, HBE, HB⟩ := hrel
    obtain ⟨wo, hwo⟩ : ∃ wo, wo = wr := ⟨_, rfl⟩
    subst hwo
    by_cases hlt : s < S
    · have hsi : (s : Int) < (S : Int) := by omega
      by_cases hneg : ((Rc.walk next S).at_ s).far < 0
      · have hus := (HOA.out wo HB.out).no s (by rw [HPI.out.len]; exact hlt) (HPI.out.none_ s hlt (.inl hneg))
        have cO := (HOA.out wo HB.out).row.cell s _ hus
        have HBE2 := hide (HBE.out.far hneg)
        clear hus hneg
        go_wp2_with fail
        go_roundw
        case rel => exact ⟨s + 1, b, _, _, _, by omega, by go_num, rfl, HBV.out, HBE2.out, HB.out⟩
        case measure => simp [intOf]; omega
      · obtain ⟨n, hfn⟩ : ∃ n : Nat, ((Rc.walk next S).at_ s).far = (n : Int) := ⟨((Rc.walk next S).at_ s).far.toNat, by omega⟩
        have hnS : n ≤ S := by have := (HWF.out.low s hlt).2.1; omega
        have HFN := hide hfn
        obtain ⟨p0, hp0⟩ : ∃ p0, p0 = Rc.pathOf (Rc.walk next S) n s := ⟨_, rfl⟩
        have hp0l : p0.length = n := by rw [hp0]; exact Rc.pathOf_len _ _ _
        have hno := HPI.out.near s hlt n hfn hnS
        rw [← hp0] at hno
        obtain ⟨a0, c0, hus, _, hc0, hcells⟩ := (HOA.out wo HB.out).yes s p0 hno
        have cO := (HOA.out wo HB.out).row.cell s _ hus
        rw [hp0l] at cO
        have HCE : Hid (∀ W, Below wo.heap.size wo W → ∀ (k x : Nat), p0[k]? = some x → x ≤ 64 ∧ W.cell? ⟨a0, k, none⟩ = some (.int .i64 (x : Int))) := fun W hW k x hx => ⟨(hcells k x hx).1, (hW.cell (World.block_lt_of_cell? _ _ (hcells k x hx).2)).trans (hcells k x hx).2⟩
        obtain ⟨ar, dr, cR, hdr, hrc⟩ := HRW.out wo HB.out s hlt
        have HRC : Hid (∀ W, Below wo.heap.size wo W → ∀ i, i < I → W.cell? ⟨ar, i, none⟩ = some (.bool ((row s).getD i false))) := fun W hW i hi => (hW.cell (World.block_lt_of_cell? _ _ (hrc i hi))).trans (hrc i hi)
        have HP0 := hide hp0
        have HPL := hide hp0l
        clear hno hus hcells hrc hfn hneg hp0 hp0l
        go_wp2_with fail
        clear cR cO
        go_loopw [32, 7] (fun i bv wr => ∃ (k : Nat) (b : Option (List Nat)) (xa : Option Addr) (xn xc : Nat), k ≤ I ∧ i = .int .i64 (k : Int) ∧ bv = .slice xa xn xc ∧ Hid (BestV wr b (.slice xa xn xc)) ∧ Hid (Pc.Best next S row b s k) ∧ Hid (Below wo.heap.size wo wr)) (fun i _ _ => I - (intOf i).toNat)
        case atStart => exact ⟨0, b, _, _, _, Nat.zero_le _, rfl, rfl, HBV.out, HBE.out, Below.refl _ _⟩
        case round =>
          clear HBV HBE
          obtain ⟨k, b, xa, xn, xc, hk, rfl, rfl, HBV, HBE, HBK⟩ := hrel
          obtain ⟨wq, hwq⟩ : ∃ wq, wq = wr := ⟨_, rfl⟩
          subst hwq
          by_cases hlt2 : k < I
          · have hki : (k : Int) < (I : Int) := by omega
            have cK := HRC.out wq HBK.out k hlt2
            obtain ⟨gd, hgd⟩ : ∃ gd, gd = (row s).getD k false := ⟨_, rfl⟩
            rw [← hgd] at cK
            have HGD := hide hgd
            have hcells := HCE.out wq HBK.out
            have hbA : Below wq.heap.size wq (wq.alloc (.cells #[] 3)) := (Below.refl _ _).alloc (Nat.le_refl _) _
            have hp0l := HPL.out
            obtain ⟨v1, W2, hrun1, hown1, hgr1⟩ := app_ints (W := wq.alloc (.cells #[] 3)) wq.heap.size 36 (.slice (some ⟨wq.heap.size, 0, none⟩) 0 0) [] p0 (own_zero wq wq.heap.size 3 1 (Nat.le_refl _)) a0 c0 (fun k x hx => (hbA.cell (World.block_lt_of_cell? _ _ (hcells k x hx).2)).trans (hcells k x hx).2) (by simp) (by simp) (by omega)
            have hb12 : Below wq.heap.size wq W2 := hbA.grown hgr1 (by simp) (fun j e => by simp only [Value.ownBlock, Option.some.injEq] at e; omega)
            have hz12 := hb12.size
            have hbC : Below W2.heap.size W2 (W2.alloc (.cells #[.int .i64 (k : Int)] 3)) := (Below.refl _ _).alloc (Nat.le_refl _) _
            obtain ⟨v2, W4, hrun2, hown2, hgr2⟩ := app_ints (W := W2.alloc (.cells #[.int .i64 (k : Int)] 3)) wq.heap.size 36 v1 ([] ++ p0) [k] (by have h1 := hown1.alloc (.cells #[.int .i64 (k : Int)] 3); rw [List.length_append]; exact h1) W2.heap.size 1 (fun j x hx => by
              cases j with
              | succ j => simp at hx
              | zero =>
                simp only [List.getElem?_cons_zero, Option.some.injEq] at hx
                subst hx
                rw [Lib.cell_of_heap (heap_alloc_new _ _)]
                rfl) (by simp; omega) (by simp; omega) (by simp)
            have hb14 : Below wq.heap.size wq W4 := (then_ hb12 hbC).grown hgr2 (by simp; omega) (fun j e => (hown1.lt j e).1)
            rw [List.nil_append] at hown2
            obtain ⟨L, hLn⟩ : ∃ L, L = n + 1 := ⟨_, rfl⟩
            have hl4 : (p0 ++ [k]).length = L := by rw [List.length_append, hp0l, hLn]; rfl
            obtain ⟨bb, cb, hv2, hbq, hcb, hcells2⟩ := own_row hown2 (by simp) (by simp)
            rw [show p0.length + [k].length = L by simp [hp0l, hLn]] at hv2 hcb
            subst hv2
            have HP4 : Hid (∀ (j y : Nat), (p0 ++ [k])[j]? = some y → y ≤ 64 ∧ W4.cell? ⟨bb, j, none⟩ = some (.int .i64 (y : Int))) := fun j y hy => by
              refine ⟨?_, hcells2 j y hy⟩
              by_cases hj : j < p0.length
              · rw [List.getElem?_append_left hj] at hy
                exact (hcells j y hy).1
              · rw [List.getElem?_append_right (by omega)] at hy
                have : j - p0.length < 1 := by have := (List.getElem?_eq_some_iff.1 hy).1; simpa using this
                obtain h0 : j - p0.length = 0 := by omega
                rw [h0] at hy
                simp only [List.getElem?_cons_zero, Option.some.injEq] at hy
                omega
            simp only [hp0l] at hrun1
            simp only [List.length_cons, List.length_nil] at hrun2
            have HAPP1 := hide hrun1
            have HAPP2 := hide hrun2
            have HB14 := hide hb14
            have HBQ4 : Hid (Below wo.heap.size wo W4) := then_ HBK.out hb14
            have HBV4 := hide (HBV.out.below hb14)
            obtain ⟨qv, hqv⟩ : ∃ qv, qv = p0 ++ [k] := ⟨_, rfl⟩
            rw [← hqv] at hl4 HP4
            have HBAD : Hid (gd = false → Pc.Bad next S row s k qv) := fun hg => ⟨n, hlt, HFN.out, by rw [HNL.out]; exact hlt2, by rw [← HGD.out]; exact hg, by rw [hqv, HP0.out]⟩
            have hL5 : L ≤ 5000 := by omega
            have HNV : Hid (BestV W4 (some qv) (.slice (some ⟨bb, 0, none⟩) L cb)) := by
              refine ⟨by rw [hl4]; exact hL5, bb, cb, by rw [hl4], by rw [hl4]; exact hcb, HP4.out⟩
            have HQL := hide hl4
            clear hcells hbA hown1 hgr1 hb12 hbC hown2 hgr2 hb14 hcells2 hrun1 hrun2 hl4 hqv hLn hp0l hgd
            cases gd with
            | true =>
              have HBE2 := hide (HBE.out.good HGD.out.symm)
              go_wp2_with (at_builtin; first | (refine Lib.wpList_append_run _ rfl (.tmp 37) (.tmp 38) _ _ rfl _ _ rfl rfl _ _ HAPP1.out ?_) | (refine Lib.wpList_append_run _ rfl (.tmp 39) (.tmp 41) _ _ rfl _ _ rfl rfl _ _ HAPP2.out ?_))
              go_roundw
              case rel => exact ⟨k + 1, b, _, _, _, by omega, by go_num, rfl, HBV4.out, HBE2.out, HBQ4.out⟩
              case measure => simp [intOf]; omega
            | false =>
              have HBD := hide (HBAD.out rfl)
              clear HBAD
              cases b with
              | none =>
                have hv := HBV.out
                simp only [BestV, Value.slice.injEq] at hv
                obtain ⟨rfl, rfl, rfl⟩ := hv
                have HBE2 := hide (HBE.out.take HBD.out (fun x h => by cases h))
                go_wp2_with (at_builtin; first | (refine Lib.wpList_append_run _ rfl (.tmp 37) (.tmp 38) _ _ rfl _ _ rfl rfl _ _ HAPP1.out ?_) | (refine Lib.wpList_append_run _ rfl (.tmp 39) (.tmp 41) _ _ rfl _ _ rfl rfl _ _ HAPP2.out ?_))
                go_roundw
                case rel => exact ⟨k + 1, some qv, _, _, _, by omega, by go_num, rfl, HNV.out, HBE2.out, HBQ4.out⟩
                case measure => simp [intOf]; omega
              | some y =>
                obtain ⟨hy5, ay, cy, hv, hcy, hcly⟩ := HBV4.out
                simp only [Value.slice.injEq] at hv
                obtain ⟨rfl, hxn, rfl⟩ := hv
                have HYL := hide hxn
                rw [← hxn] at hy5 hcy
                by_cases hLX : L < xn
                · have hLi : (L : Int) < (xn : Int) := by omega
                  have HBE2 := hide (HBE.out.take HBD.out (fun x h => by cases h; exact .inl (by rw [HQL.out, ← HYL.out]; exact hLX)))
                  clear hcly hxn
                  go_wp2_with (at_builtin; first | (refine Lib.wpList_append_run _ rfl (.tmp 37) (.tmp 38) _ _ rfl _ _ rfl rfl _ _ HAPP1.out ?_) | (refine Lib.wpList_append_run _ rfl (.tmp 39) (.tmp 41) _ _ rfl _ _ rfl rfl _ _ HAPP2.out ?_))
                  go_roundw
                  case rel => exact ⟨k + 1, some qv, _, _, _, by omega, by go_num, rfl, HNV.out, HBE2.out, HBQ4.out⟩
                  case measure => simp [intOf]; omega
                have hLi : ¬ (L : Int) < (xn : Int) := by omega
                by_cases hLE : L = xn
                · subst hLE
                  have hLb : ((L : Int) == (L : Int)) = true := by simp
                  have hi1 : Ints W4 (.slice (some ⟨bb, 0, none⟩) L cb) (asI qv) := by have h := ints_row2 (c := cb) (by have := HNV.out; obtain ⟨_, a', c', e, h2, _⟩ := this; simp only [Value.slice.injEq] at e; rw [e.2.2]; exact h2) HP4.out; rw [HQL.out] at h; exact h
                  have hi2 : Ints W4 (.slice (some ⟨ay, 0, none⟩) L xc) (asI y) := by have h := ints_row2 (c := xc) (by rw [← HYL.out]; exact hcy) hcly; rw [← HYL.out] at h; exact h
                  have HBF := hide (before_any qv y _ _ W4 hi1 hi2 (by rw [HQL.out, HYL.out]) (by rw [HQL.out]; omega))
                  clear hi1 hi2 hcly hxn
                  go_wp2_with (at_builtin; first | (refine Lib.wpList_append_run _ rfl (.tmp 37) (.tmp 38) _ _ rfl _ _ rfl rfl _ _ HAPP1.out ?_) | (refine Lib.wpList_append_run _ rfl (.tmp 39) (.tmp 41) _ _ rfl _ _ rfl rfl _ _ HAPP2.out ?_))
                  refine HBF.out.mono ?_
                  rintro e W5 ⟨rfl, hb5⟩
                  have HNV5 := hide (HNV.out.below hb5)
                  have HBV5 := hide (HBV4.out.below hb5)
                  have HBQ5 : Hid (Below wo.heap.size wo W5) := then_ HBQ4.out hb5
                  clear hb5 HBF
                  cases hbf : Rc.bef qv y with
                  | true =>
                    have HBE2 := hide (HBE.out.take HBD.out (fun x h => by cases h; exact .inr ⟨by rw [HQL.out, ← HYL.out], hbf⟩))
                    clear hbf
                    go_wp2_with fail
                    go_roundw
                    case rel => exact ⟨k + 1, some qv, _, _, _, by omega, by go_num, rfl, HNV5.out, HBE2.out, HBQ5.out⟩
                    case measure => simp [intOf]; omega
                  | false =>
                    have HBE2 := hide (HBE.out.keep HBD.out (fun h => by
                      rcases h with h | ⟨_, h⟩
                      · rw [HQL.out, ← HYL.out] at h; exact absurd h (Nat.lt_irrefl _)
                      · rw [hbf] at h; cases h))
                    clear hbf
                    go_wp2_with fail
                    go_roundw
                    case rel => exact ⟨k + 1, some y, _, _, _, by omega, by go_num, rfl, HBV5.out, HBE2.out, HBQ5.out⟩
                    case measure => simp [intOf]; omega
                · have hLb : ((L : Int) == (xn : Int)) = false := by simp; omega
                  have HBE2 := hide (HBE.out.keep HBD.out (fun h => by
                    rcases h with h | ⟨h, _⟩
                    · rw [HQL.out, ← HYL.out] at h; exact hLX h
                    · rw [HQL.out, ← HYL.out] at h; exact hLE h))
                  clear hcly hxn
                  go_wp2_with (at_builtin; first | (refine Lib.wpList_append_run _ rfl (.tmp 37) (.tmp 38) _ _ rfl _ _ rfl rfl _ _ HAPP1.out ?_) | (refine Lib.wpList_append_run _ rfl (.tmp 39) (.tmp 41) _ _ rfl _ _ rfl rfl _ _ HAPP2.out ?_))
                  go_roundw
                  case rel => exact ⟨k + 1, some y, _, _, _, by omega, by go_num, rfl, HBV4.out, HBE2.out, HBQ4.out⟩
                  case measure => simp [intOf]; omega
          · obtain rfl : k = I := by omega
            have HBE2 := hide (HBE.out.next (by rw [HNL.out]; exact Nat.le_refl _))
            have HB2' : Hid (Below w2.heap.size w2 wq) := then_ HB.out HBK.out
            have hki : ¬ (k : Int) < (k : Int) := by omega
            go_wp2_with fail
            go_roundw
            case rel => exact ⟨s + 1, b, _, _, _, by omega, by go_num, rfl, HBV.out, HBE2.out, HB2'.out⟩
            case measure => simp [intOf]; omega
    · obtain rfl : s = S := by omega
      have HF := hide (CheckD.of hS1 HNX.out (then_ HB2.out HB.out) HBV.out HBE.out)
      have hsi : ¬ (s : Int) < (s : Int) := by omega
      go_wp2_with fail
      go_ret
      exact HF.out
end Rf
end
section
open Go.RowKit
namespace Rf
set_option maxHeartbeats 8000000 in
set_option maxRecDepth 100000 in
theorem known_any (ns : List Ld.Nme) (nv rv : Value) (xs : List Ex) (gs : List Nat) (b c : Nat) (w : World) (hn : NamesAt w nv ns) (hr : ∃ a n c, rv = .slice a n c) (hL : RLaid w) (hc : ∀ (i g : Nat), gs[i]? = some g → w.cell? ⟨b, i, none⟩ = some (.pointer (some ⟨g, 0, none⟩))) (hx : ∀ (i : Nat) (x : Ex), xs[i]? = some x → ∃ g, gs[i]? = some g ∧ IsRx (fun _ => True) w x g ∧ x.size ≤ 1000000) (hlc : xs.length ≤ c) (hl : xs.length ≤ 10) :
    Calls Tryz.prog 13 #[.agg #[nv, rv], .slice (some ⟨b, 0, none⟩) xs.length c] w fun e w' => e = .returned (.bool (xs.all (Pr.has ns))) ∧ Below w.heap.size w w' := by
  obtain ⟨ra, rn, rc, rfl⟩ := hr
  obtain ⟨na, nc, rfl, _⟩ := hn.slice
  obtain ⟨q, hq⟩ : ∃ q, q = xs.length := ⟨_, rfl⟩
  obtain ⟨n, hnn⟩ : ∃ n, n = ns.length := ⟨_, rfl⟩
  rw [← hnn] at hn ⊢
  rw [← hq] at hlc hl ⊢
  obtain ⟨wA, hwA⟩ : ∃ wA, wA = w.alloc (.cells #[.slice na n nc, .slice ra rn rc] 45) := ⟨_, rfl⟩
  have hbA : Below w.heap.size w wA := by rw [hwA]; exact (Below.refl _ _).alloc (Nat.le_refl _) _
  have hA : wA.heap[w.heap.size]? = some (.cells #[.slice na n nc, .slice ra rn rc] 45 (0, 0)) := by rw [hwA]; exact heap_alloc_new _ _
  have hbt : ∀ {W}, Below wA.heap.size wA W → Below w.heap.size w W := fun h => hbA.trans (h.mono hbA.size)
  have HBT : Hid (∀ W, Below wA.heap.size wA W → Below w.heap.size w W) := fun W h => hbt h
  have HBOX : Hid (∀ W, Below wA.heap.size wA W → W.cell? ⟨w.heap.size, 0, none⟩ = some (.slice na n nc) ∧ W.cell? ⟨w.heap.size, 1, none⟩ = some (.slice ra rn rc)) := fun W hW => by
    have e := (hW.block w.heap.size (Array.getElem?_eq_some_iff.1 hA).1).trans hA
    exact ⟨by rw [Lib.cell_of_heap e]; rfl, by rw [Lib.cell_of_heap e]; rfl⟩
  have HPT : Hid (∀ W, Below wA.heap.size wA W → ∀ (i : Nat) (x : Ex), xs[i]? = some x → ∃ g, W.cell? ⟨b, i, none⟩ = some (.pointer (some ⟨g, 0, none⟩)) ∧ IsRx (fun _ => True) W x g ∧ x.size ≤ 1000000) := fun W hW i x hxi => by
    obtain ⟨g, h1, h2, h3⟩ := hx i x hxi
    have h4 := hc i g h1
    exact ⟨g, ((hbt hW).cell (World.block_lt_of_cell? _ _ h4)).trans h4, IsRx.stay (Stay.below (hbt hW)) (fun _ h => h) x g h2, h3⟩
  have HNU : Hid (∀ W s, Below wA.heap.size wA W → Calls Tryz.prog 23 #[.agg #[.slice na n nc, .slice ra rn rc], .string ⟨s.toArray⟩] W fun e w' => e = .returned (.int .i64 (Ld.number ns s)) ∧ Below W.heap.size W w') := fun W s hW => rNumber_any ns _ _ s W (hn.below (hbt hW)) ⟨_, _, _, rfl⟩
  have HL : Hid (∀ W, Below wA.heap.size wA W → RLaid W) := fun W hW => hL.below (hbt hW)
  have HQ := hide hq
  have HWA := hide hwA
  clear hn hL hc hx hbA hA hbt hwA hq hnn
  go_enter Tryz.func13, Tryz.ntmps13
  go_wp2_with fail
  rw [← HWA.out]
  go_loopw [5] (fun i wr => ∃ k : Nat, k ≤ q ∧ i = .int .i64 (k : Int) ∧ Hid ((xs.take k).all (Pr.has ns) = true) ∧ Hid (Below wA.heap.size wA wr)) (fun i _ => q - (intOf i).toNat)
  case atStart => exact ⟨0, Nat.zero_le _, rfl, rfl, Below.refl _ _⟩
  case round =>
    obtain ⟨k, hk, rfl, HAL, HB⟩ := hrel
    obtain ⟨wo, hwo⟩ : ∃ wo, wo = wr := ⟨_, rfl⟩
    subst hwo
    by_cases hlt : k < q
    · have hki : (k : Int) < (q : Int) := by omega
      have hkx : k < xs.length := by rw [← HQ.out]; exact hlt
      obtain ⟨g, cg, hxg, hsz⟩ := HPT.out wo HB.out k _ (List.getElem?_eq_getElem hkx)
      obtain ⟨ml, hml⟩ := (HL.out wo HB.out).len
      have HNM := hide (RNames_any _ xs[k] g ml wo hxg hsz (World.block_lt_of_cell? _ _ hml) hml)
      have HSU : Hid ((xs.take (k + 1)).all (Pr.has ns) = Pr.has ns xs[k]) := by
        show _ = _
        rw [List.take_succ_eq_append_getElem hkx, List.all_append, HAL.out]
        simp
      have HNO : Hid (Pr.has ns xs[k] = false → xs.all (Pr.has ns) = false) := fun h => by
        rw [List.all_eq_false]
        exact ⟨_, List.getElem_mem hkx, by rw [h]; exact Bool.false_ne_true⟩
      generalize xs[k] = x at *
      clear hml hxg hsz hkx
      go_wp2_with fail
      refine HNM.out.mono ?_
      rintro e w3 ⟨sv, rfl, hss, hb3⟩
      obtain ⟨sa, sc, rfl, hsl, hsc⟩ := hss.at_
      obtain ⟨L, hLL⟩ : ∃ L, L = (ordered (x.named true)).length := ⟨_, rfl⟩
      have HLL := hide hLL
      rw [← hLL] at hsc hsl ⊢
      have HCE := hide hsc
      have HB3 : Hid (Below wA.heap.size wA w3) := HB.out.trans (hb3.mono HB.out.size)
      clear hsc hb3 hss HNM hLL cg
      go_wp2_with fail
      go_loopw [6] (fun i wr => ∃ z : Nat, z ≤ L ∧ i = .int .i64 (z : Int) ∧ Hid (((ordered (x.named true)).take z).all (fun s => decide (0 ≤ Ld.number ns s)) = true) ∧ Hid (Below w3.heap.size w3 wr)) (fun i _ => L - (intOf i).toNat)
      case atStart => exact ⟨0, Nat.zero_le _, rfl, rfl, Below.refl _ _⟩
      case round =>
        obtain ⟨z, hz, rfl, HZL, HZB⟩ := hrel
        obtain ⟨wi, hwi⟩ : ∃ wi, wi = wr := ⟨_, rfl⟩
        subst hwi
        have HBI : Hid (Below wA.heap.size wA wi) := HB3.out.trans (HZB.out.mono HB3.out.size)
        by_cases hzL : z < L
        · have hzi : (z : Int) < (L : Int) := by omega
          have hzl : z < (ordered (x.named true)).length := by rw [← HLL.out]; exact hzL
          obtain ⟨gz, oz, hsa, hcp, cz⟩ := HCE.out z _ (List.getElem?_eq_getElem hzl)
          subst hsa
          have cz2 := (HZB.out.cell (World.block_lt_of_cell? _ _ cz)).trans cz
          have HZS : Hid (((ordered (x.named true)).take (z + 1)).all (fun s => decide (0 ≤ Ld.number ns s)) = decide (0 ≤ Ld.number ns (ordered (x.named true))[z])) := by
            show _ = _
            rw [List.take_succ_eq_append_getElem hzl, List.all_append, HZL.out]
            simp
          have HZN : Hid (Ld.number ns (ordered (x.named true))[z] < 0 → Pr.has ns x = false) := fun h => by
            unfold Pr.has
            rw [List.all_eq_false]
            exact ⟨_, List.getElem_mem hzl, by simp; omega⟩
          have HNU2 : Hid (∀ W, Below wi.heap.size wi W → Calls Tryz.prog 23 #[.agg #[.slice na n nc, .slice ra rn rc], .string ⟨(ordered (x.named true))[z].toArray⟩] W fun e w' => e = .returned (.int .i64 (Ld.number ns (ordered (x.named true))[z])) ∧ Below W.heap.size W w') := fun W hW => HNU.out W _ (HBI.out.trans (hW.mono HBI.out.size))
          generalize (ordered (x.named true))[z] = s at *
          have HKE : Hid (∀ W, Below wi.heap.size wi W → W.cell? ⟨w.heap.size, 0, none⟩ = some (.slice na n nc) ∧ W.cell? ⟨w.heap.size, 1, none⟩ = some (.slice ra rn rc) ∧ W.cell? ⟨gz, oz + z, none⟩ = some (.string ⟨s.toArray⟩)) := fun W hW => by
            have h := HBOX.out W (HBI.out.trans (hW.mono HBI.out.size))
            exact ⟨h.1, h.2, (hW.cell (World.block_lt_of_cell? _ _ cz2)).trans cz2⟩
          obtain ⟨x0, x1, x2⟩ := HKE.out wi (Below.refl _ _)
          have HDR : Hid (Below wi.heap.size wi wi.drew) := ⟨rfl, rfl, rfl, Nat.le_refl _, fun _ _ => rfl⟩
          clear cz hzl
          go_wp2_with fail
          go_region_held3 (fun W => W.cell? ⟨w.heap.size, 0, none⟩ = some (.slice na n nc) ∧ W.cell? ⟨w.heap.size, 1, none⟩ = some (.slice ra rn rc) ∧ W.cell? ⟨gz, oz + z, none⟩ = some (.string ⟨s.toArray⟩)) ((refine HKE.out _ ?_; first | exact HDR.out | exact HB6.out | exact Below.refl _ _)) ((go_at_call 23; (with_reducible refine (HNU2.out _ HDR.out).mono ?_); rintro e w6 ⟨rfl, hb6⟩; have HB6 : Hid (Below wi.heap.size wi w6) := HDR.out.trans hb6; clear hb6))
          obtain ⟨y, hy⟩ : ∃ y, y = Ld.number ns s := ⟨_, rfl⟩
          have HY := hide hy
          rw [← hy] at HZS HZN ⊢
          clear hy
          by_cases hy0 : y < 0
          · have HF : Hid (xs.all (Pr.has ns) = false) := HNO.out (HZN.out hy0)
            have HBF := hide (HBT.out w6 (HBI.out.trans (HB6.out.mono HBI.out.size)))
            go_wp2_with fail
            go_ret
            exact ⟨ret_bool HF.out.symm, HBF.out⟩
          · have HZ2 : Hid (((ordered (x.named true)).take (z + 1)).all (fun s => decide (0 ≤ Ld.number ns s)) = true) := by show _ = _; rw [HZS.out]; simp; omega
            have HBF : Hid (Below w3.heap.size w3 w6) := HZB.out.trans (HB6.out.mono HZB.out.size)
            go_wp2_with fail
            go_roundw
            case rel => exact ⟨z + 1, by omega, by go_num, HZ2.out, HBF.out⟩
            case measure => simp [intOf]; omega
        · obtain rfl : z = L := by omega
          have HH : Hid (Pr.has ns x = true) := by
            have h := HZL.out
            rw [List.take_of_length_le (by rw [← HLL.out]; exact Nat.le_refl _)] at h
            exact h
          have hzi : ¬ (z : Int) < (z : Int) := by omega
          go_wp2_with fail
          go_roundw
          case rel => exact ⟨k + 1, by omega, by go_num, by rw [HSU.out]; exact HH.out, HBI.out⟩
          case measure => simp [intOf]; omega
    · obtain rfl : k = q := by omega
      have HF : Hid (xs.all (Pr.has ns) = true) := by
        have h := HAL.out
        rw [List.take_of_length_le (by rw [← HQ.out]; exact Nat.le_refl _)] at h
        exact h
      have HBF := hide (HBT.out wo HB.out)
      have hki : ¬ (k : Int) < (k : Int) := by omega
      go_wp2_with fail
      go_ret
      exact ⟨ret_bool HF.out.symm, HBF.out⟩
end Rf
end
section
open Go.RowKit
theorem ptrNilP (w : World) : (binOp BinOp.eql 22 (.pointer none) (.pointer none)).run Tryz.prog w = .ok (.bool true) w := by kernel_rfl
set_option maxHeartbeats 2000000 in
set_option maxRecDepth 100000 in
theorem PGood_nilM (v : Value) (w : World) : Calls Tryz.prog 10 #[.pointer none, v] w fun e w' => e = .returned (.tuple #[.slice none 0 0, .iface 40 (.int .i64 7)]) ∧ Below w.heap.size w w' := by
  have pn := ptrNilP
  go_enter Tryz.func10, Tryz.ntmps10
  go_wp2_with fail
  refine bodyPost_ret (results_tmp2 rfl _ _ _) rfl ?_
  exact ⟨rfl, Below.refl _ _⟩
set_option maxHeartbeats 2000000 in
set_option maxRecDepth 100000 in
theorem PGood_nilE (bm : Nat) (w : World) : Calls Tryz.prog 10 #[.pointer (some ⟨bm, 0, none⟩), .nilIface] w fun e w' => e = .returned (.tuple #[.slice none 0 0, .iface 40 (.int .i64 7)]) ∧ Below w.heap.size w w' := by
  have pn := fun w a => ptrNe w a
  go_enter Tryz.func10, Tryz.ntmps10
  go_wp2_with fail
  refine bodyPost_ret (results_tmp2 rfl _ _ _) rfl ?_
  exact ⟨rfl, Below.refl _ _⟩
namespace Rf
theorem GT.goodAt {w W : World} {g S I : Nat} {us : List Nat} {row : Nat → List Bool} (h : GT w g S I us row W) (hus : us.length = S) : GoodAt W (.slice (some ⟨g, 0, none⟩) S S) S I row := by
  refine ⟨g, S, rfl, Nat.le_refl _, fun s hs => ?_⟩
  obtain ⟨b, hb⟩ : ∃ b, us[s]? = some b := ⟨_, List.getElem?_eq_getElem (by omega)⟩
  obtain ⟨hr, _⟩ := h.rows _ b hb
  have hl := h.len s (by omega)
  have r0 := h.top.cell s (.slice (some ⟨b, 0, none⟩) I I) (by rw [List.getElem?_append_left (by simp; omega), List.getElem?_map, hb]; rfl)
  refine ⟨b, I, r0, Nat.le_refl _, fun i hi => ?_⟩
  exact hr.cell i _ (show (row s)[i]? = some ((row s).getD i false) by rw [List.getD_eq_getElem?_getD, List.getElem?_eq_getElem (by omega)]; rfl)
/-- a row of it -/
theorem row_bools {W : World} {a d I : Nat} {l : List Bool} (hl : l.length = I) (hI : I ≤ 1000000) (h : ∀ i, i < I → W.cell? ⟨a, i, none⟩ = some (.bool (l.getD i false))) : Bools W (.slice (some ⟨a, 0, none⟩) I d) l := by
  refine ⟨some ⟨a, 0, none⟩, d, by rw [hl], by rw [hl]; exact hI, fun i b hb => ⟨a, rfl, ?_⟩⟩
  obtain ⟨hi, hb2⟩ := List.getElem?_eq_some_iff.1 hb
  rw [h i (by omega)]
  simp [hi, hb2]
theorem own_rowN {W : World} {q n c g : Nat} {p : List Nat} (h : W.ownsRow q 3 1 (.slice (some ⟨g, 0, none⟩) n c) n (p.map natV)) (hn : 0 < n) : n ≤ c ∧ ∀ (k x : Nat), p[k]? = some x → W.cell? ⟨g, k, none⟩ = some (.int .i64 (x : Int)) := by
  obtain ⟨b, c', e, _, h2, h3⟩ := own_row (p := p) h hn (by have := h.1; simpa using this)
  simp only [Value.slice.injEq, Option.some.injEq, Addr.mk.injEq, and_true, true_and] at e
  obtain ⟨rfl, rfl⟩ := e
  exact ⟨h2, h3⟩
end Rf
end
section
open Go.RowKit
namespace Rf
theorem ptrNe3 (w : World) (a : Addr) : (binOp BinOp.eql 22 (.pointer (some a)) (.pointer none)).run Tryz.prog w = .ok (.bool false) w := by kernel_rfl
theorem named_fits {l : List UInt8} {x : Ex} (h : Ex.parse l = .inr x) (n : List UInt8) (hn : n ∈ x.named true) : n.length ≤ maxLen := fits n (Ex.FitP.names 21 x (Ex.FitW.piece 20 x (Ex.parse_fit l x h)) n hn)
set_option maxHeartbeats 16000000 in
set_option maxRecDepth 100000 in
theorem propChecks_of (hbo : ∀ (s : ByteArray) (w : World), s.size ≤ maxLen → Laid w → PLaid w → Calls Tryz.prog 28 #[.string s] w (Sl.Both s w)) (s t : ByteArray) (w : World) (hs : s.size ≤ maxLen) (ht : t.size ≤ maxLen) (hL : Laid w) (hP : PLaid w) :
    Calls Tryz.prog 3 #[.string s, .string t] w fun e w' => e = .returned (.bool true) ∧ Below w.heap.size w w' := by
  have HMS := hide (machines_of hbo s 60 w hs hL hP)
  have HRD : Hid (∀ W, Below w.heap.size w W → Calls Tryz.prog 9 #[.string t] W (ReadBothP W)) := fun W hW => readP_any t W ht (hP.r.fine.below hW)
  have HL := hide hL
  have HP := hide hP
  clear hL hP
  go_enter Tryz.func3, Tryz.ntmps3
  go_wp2_with fail
  refine HMS.out.mono ?_
  rintro e w1 ⟨hb1, he⟩
  clear HMS
  have HRD1 := hide (HRD.out w1 hb1)
  have HB1 := hide hb1
  clear HRD hb1
  rcases he with rfl | ⟨p, bm, bx, rfl, _, hmach, hrm, hck, hok, hq4, hS60⟩
  · go_wp2_with fail
    refine HRD1.out.mono ?_
    rintro e w2 ⟨hb2, he2⟩
    have HB2 : Hid (Below w.heap.size w w2) := then_ HB1.out hb2
    clear hb2 HRD1
    rcases he2 with rfl | ⟨x, v, g, rfl, _⟩
    · go_wp2_with fail
      go_ret
      exact ⟨rfl, HB2.out⟩
    · go_wp2_with fail
      go_ret
      exact ⟨rfl, HB2.out⟩
  · have HMA := hide hmach
    have HRM := hide hrm
    have HCK := hide hck
    have HOK := hide hok
    clear hmach hrm hck hok
    go_wp2_with fail
    refine HRD1.out.mono ?_
    rintro e w2 ⟨hb2, he2⟩
    have HB12 := hide hb2
    have HB2 : Hid (Below w.heap.size w w2) := then_ HB1.out hb2
    clear hb2 HRD1
    rcases he2 with rfl | ⟨x, v, g, rfl, hxe, hxr, hsz, l0, hl0⟩
    · go_wp2_with fail
      go_ret
      exact ⟨rfl, HB2.out⟩
    · have hmach := HMA.out.below HB12.out
      have hrm := HRM.out.below HB12.out
      have hck := HCK.out
      have hok := HOK.out
      have hI6 := hok.1
      have hrl : RLaid w2 := HP.out.r.below HB2.out
      have hnf := fun n hn => named_fits hl0 n hn
      have pn := fun w a => ptrNe3 w a
      have HWX : Hid (∀ W, Below w2.heap.size w2 W → Below w.heap.size w W) := fun W hW => then_ HB2.out hW
      have HLB : Hid (∀ W (e : Int), Below w2.heap.size w2 W → Calls Tryz.prog 12 #[.iface 40 (.int .i64 e), .int .i64 e] W fun e w' => e = .returned (.bool true) ∧ Below W.heap.size W w') := fun W e hW => Sl.lbare_any e W (HL.out.below (HWX.out W hW)).door
      have HGO := hide (Good_any (fun _ => True) bm p x v w2 hmach hck hok.2 hok.1 hxe hsz)
      have HCH : Hid (∀ W, Below w2.heap.size w2 W → Calls Tryz.prog 11 #[.pointer (some ⟨bm, 0, none⟩), v] W (PChecked W p x)) := fun W hW => PCheck_any (fun _ => True) bm p x v W (hmach.below hW) hck hok.2 hok.1 (IsEx.stay (Stay.below hW) (fun _ h => h) x v hxe) hsz
      obtain ⟨nv3, rv3, nx3, us3, q3, k1, k2, _⟩ := id hrm
      obtain ⟨nv', rv', he', hnn, hrr⟩ := id k2
      simp only [Value.agg.injEq, List.toArray_eq_iff, List.cons.injEq, and_true] at he'
      obtain ⟨rfl, rfl⟩ := he'
      obtain ⟨na, nc, rfl, _⟩ := hnn.slice
      obtain ⟨ra, rc, rfl, _⟩ := hrr.slice
      have HKN : Hid (∀ W, Below w2.heap.size w2 W → Calls Tryz.prog 13 #[.agg #[.slice na p.names.length nc, .slice ra p.rungs.length rc], .slice (some ⟨W.heap.size, 0, none⟩) 1 1] (W.alloc (.cells #[.pointer (some ⟨g, 0, none⟩)] 28)) fun e w' => e = .returned (.bool (Pr.has p.names x)) ∧ Below W.heap.size W w') := fun W hW => by
        have hA : Below w2.heap.size w2 (W.alloc (.cells #[.pointer (some ⟨g, 0, none⟩)] 28)) := then_ hW (below_al _ _)
        have h := known_any p.names _ (.slice ra p.rungs.length rc) [x] [g] W.heap.size 1 _ (hnn.below hA) ⟨_, _, _, rfl⟩ (hrl.below hA) (fun i g' h => by
          cases i with
          | succ i => simp at h
          | zero =>
            simp only [List.getElem?_cons_zero, Option.some.injEq] at h
            subst h
            rw [Lib.cell_of_heap (heap_alloc_new _ _)]
            rfl) (fun i x' h => by
          cases i with
          | succ i => simp at h
          | zero =>
            simp only [List.getElem?_cons_zero, Option.some.injEq] at h
            subst h
            exact ⟨g, rfl, IsRx.stay (Stay.below hA) (fun _ h => h) x g hxr, hsz⟩) (Nat.le_refl _) (by simp)
        refine h.mono ?_
        rintro e w' ⟨rfl, hb⟩
        exact ⟨by simp, then_ (below_al _ _) hb⟩
      have HXC : Hid (∀ W, Below w2.heap.size w2 W → W.cell? ⟨bx, 0, none⟩ = some (.slice na p.names.length nc) ∧ W.cell? ⟨bx, 1, none⟩ = some (.slice ra p.rungs.length rc)) := fun W hW => (k1.below hW).cells.1
      have HRG : Hid (∀ W, Below w2.heap.size w2 W → Calls Tryz.prog 14 #[.pointer (some ⟨bx, 0, none⟩), .pointer (some ⟨g, 0, none⟩)] W fun e w' => ∃ o, e = .returned o ∧ GoodAt w' o (Mc.total (Mc.parts p)) (2 ^ (Ld.kindL p.names 1).length) (Pr.goodRow p x (2 ^ (Ld.kindL p.names 1).length)) ∧ Below W.heap.size W w') := fun W hW => RGood_any bx g p x W (hrm.below hW) (hrl.below hW) hck hok.1 hok.2 (IsRx.stay (Stay.below hW) (fun _ h => h) x g hxr) hnf
      have HRC : Hid (∀ W, Below w2.heap.size w2 W → Calls Tryz.prog 16 #[.pointer (some ⟨bx, 0, none⟩), .pointer (some ⟨g, 0, none⟩)] W (CheckD W (Mc.nexts p) (Pr.goodRow p x (2 ^ (Ld.kindL p.names 1).length)))) := fun W hW => RCheck_any bx g p x W (hrm.below hW) (hrl.below hW) hck hok.1 hok.2 (IsRx.stay (Stay.below hW) (fun _ h => h) x g hxr) hnf
      have HGL : Hid (∀ s, (Pr.goodRow p x (2 ^ (Ld.kindL p.names 1).length) s).length = 2 ^ (Ld.kindL p.names 1).length) := fun s => Pr.goodRow_len p x _ s
      have hI16 : 2 ^ (Ld.kindL p.names 1).length ≤ 16 := Nat.pow_le_pow_right (by decide) hq4
      have HGD : Hid (∀ e w', Gooded w2 p x e w' → (Below w2.heap.size w2 w' ∧ (if Pr.has p.names x then ∃ o, e = .returned (.tuple #[o, .nilIface]) ∧ GoodAt w' o (Mc.total (Mc.parts p)) (2 ^ (Ld.kindL p.names 1).length) (Pr.goodRow p x (2 ^ (Ld.kindL p.names 1).length)) else e = .returned (.tuple #[.slice none 0 0, .iface 40 (.int .i64 7)])))) := fun e w' h => by
        obtain ⟨h1, h2⟩ := h
        refine ⟨h1, ?_⟩
        cases hh : Pr.has p.names x with
        | false => rw [hh] at h2; exact h2
        | true =>
          rw [hh, if_pos rfl] at h2
          rw [if_pos rfl]
          obtain ⟨g', us, rfl, hu, hg⟩ := h2
          exact ⟨_, rfl, GT.goodAt hg hu⟩
      have HCD : Hid (∀ W e w', PChecked W p x e w' → (Below W.heap.size W w' ∧ (if Pr.has p.names x then SaidT W (Mc.nexts p) (Pr.wtC (Pr.goodRow p x (2 ^ (Ld.kindL p.names 1).length))) 0 e w' else e = .returned (.tuple #[.bool false, .slice none 0 0, .iface 40 (.int .i64 7)])))) := fun _ _ _ h => h
      obtain ⟨tu, yu, rfl⟩ := IsEx.iface x v hxe
      have en0 := eqNilN_none
      have en1 := eqNilN_some
      generalize Mc.nexts p = next at *
      generalize Mc.total (Mc.parts p) = S at *
      generalize 2 ^ (Ld.kindL p.names 1).length = I at *
      generalize Pr.goodRow p x I = row at *
      generalize p.names.length = n at *
      generalize p.rungs.length = m at *
      obtain ⟨hh, hhe⟩ : ∃ hh, hh = Pr.has p.names x := ⟨_, rfl⟩
      rw [← hhe] at HKN HGD HCD
      have HGP := hide HGD.out
      have HCP := hide HCD.out
      have HGO2 : Hid (Calls Tryz.prog 10 #[.pointer (some ⟨bm, 0, none⟩), .iface tu yu] w2 fun e w' => Below w2.heap.size w2 w' ∧ (if hh = true then ∃ o, e = .returned (.tuple #[o, .nilIface]) ∧ GoodAt w' o S I row else e = .returned (.tuple #[.slice none 0 0, .iface 40 (.int .i64 7)]))) := HGO.out.mono (fun e w' h => HGD.out e w' h)
      have HCH2 : Hid (∀ W, Below w2.heap.size w2 W → Calls Tryz.prog 11 #[.pointer (some ⟨bm, 0, none⟩), .iface tu yu] W fun e w' => Below W.heap.size W w' ∧ (if hh = true then SaidT W next (Pr.wtC row) 0 e w' else e = .returned (.tuple #[.bool false, .slice none 0 0, .iface 40 (.int .i64 7)]))) := fun W hW => (HCH.out W hW).mono (fun e w' h => HCD.out W e w' h)
      clear hmach hrm hck hok hI6 hrl hnf hxe hxr hsz hl0 k1 k2 hnn hrr hhe HGO HCH HGD HCD HGP HCP HMA HRM HCK HOK
      cases hh with
      | false =>
        simp only [Bool.false_eq_true, if_false] at HGO2 HCH2
        go_wp2_with fail
        refine HGO2.out.mono ?_
        rintro e w3 ⟨hb, rfl⟩
        have HB3 : Hid (Below w2.heap.size w2 w3) := hb
        have HC3 := hide (HCH2.out w3 hb)
        clear hb HGO2
        go_wp2_with fail
        refine HC3.out.mono ?_
        rintro e w4 ⟨hb, rfl⟩
        have HB4 : Hid (Below w2.heap.size w2 w4) := then_ HB3.out hb
        have HN4 := hide (PGood_nilM (.iface tu yu) w4)
        clear hb HC3
        go_wp2_with fail
        refine HN4.out.mono ?_
        rintro e w5 ⟨rfl, hb⟩
        have HB5 : Hid (Below w2.heap.size w2 w5) := then_ HB4.out hb
        have HN5 := hide (PGood_nilE bm w5)
        clear hb HN4
        go_wp2_with fail
        refine HN5.out.mono ?_
        rintro e w6 ⟨rfl, hb⟩
        have HB6 : Hid (Below w2.heap.size w2 w6) := then_ HB5.out hb
        have HA6 := hide (HLB.out w6 7 HB6.out)
        clear hb HN5
        go_wp2_with fail
        refine HA6.out.mono ?_
        rintro e w7 ⟨rfl, hb⟩
        have HB7 : Hid (Below w2.heap.size w2 w7) := then_ HB6.out hb
        have HA7 := hide (HLB.out w7 7 HB7.out)
        clear hb HA6
        go_wp2_with fail
        refine HA7.out.mono ?_
        rintro e w8 ⟨rfl, hb⟩
        have HB8 : Hid (Below w2.heap.size w2 w8) := then_ HB7.out hb
        have HK8 := hide (HKN.out w8 HB8.out)
        obtain ⟨c0, c1⟩ := HXC.out w8 HB8.out
        clear hb HA7
        go_wp2_with fail
        refine HK8.out.mono ?_
        rintro e w9 ⟨rfl, hb⟩
        have HB9 : Hid (Below w2.heap.size w2 w9) := then_ HB8.out hb
        have HA9 := hide (HLB.out w9 7 HB9.out)
        clear hb HK8
        go_wp2_with fail
        refine HA9.out.mono ?_
        rintro e w10 ⟨rfl, hb⟩
        have HB10 : Hid (Below w2.heap.size w2 w10) := then_ HB9.out hb
        have HA10 := hide (HLB.out w10 7 HB10.out)
        clear hb HA9
        go_wp2_with fail
        refine HA10.out.mono ?_
        rintro e w11 ⟨rfl, hb⟩
        have HF := hide (HWX.out w11 (then_ HB10.out hb))
        clear hb HA10
        go_wp2_with fail
        go_ret
        exact ⟨ret_bool (by first | rfl | simp), HF.out⟩
      | true =>
        simp only [if_true] at HGO2 HCH2
        go_wp2_with fail
        refine HGO2.out.mono ?_
        rintro e w3 ⟨hb, o, rfl, hga⟩
        obtain ⟨b1, d1, rfl, hd1, _⟩ := id hga
        have HB3 : Hid (Below w2.heap.size w2 w3) := hb
        have HGA := hide hga
        have HC3 := hide (HCH2.out w3 hb)
        clear hb hga HGO2
        go_wp2_with fail
        refine HC3.out.mono ?_
        rintro e w4 ⟨hb, hsaid⟩
        have HB34 := hide hb
        have HB4 : Hid (Below w2.heap.size w2 w4) := then_ HB3.out hb
        obtain ⟨ib, la, ln, lc, rfl, hsd⟩ : ∃ (ib : Bool) (la : Option Addr) (ln lc : Nat), e = .returned (.tuple #[.bool ib, .slice la ln lc, .nilIface]) ∧ ((ib = true ∧ la = none ∧ ln = 0 ∧ Pr.Held next (Pr.wtC row) 0) ∨ (ib = false ∧ ∃ (l : List Nat) (g : Nat), la = some ⟨g, 0, none⟩ ∧ ln = l.length ∧ Pr.Broke next (Pr.wtC row) 0 l ∧ Pr.Least next (Pr.wtC row) 0 l ∧ 0 < l.length ∧ l.length ≤ lc ∧ ∀ (k x : Nat), l[k]? = some x → w4.cell? ⟨g, k, none⟩ = some (.int .i64 (x : Int)))) := by
          rcases hsaid with ⟨rfl, h1⟩ | ⟨l, g', c', rfl, h1, h2, h3, _⟩
          · exact ⟨true, none, 0, 0, rfl, .inl ⟨rfl, rfl, rfl, h1⟩⟩
          · have h0 : 0 < l.length := by obtain ⟨m', i', rfl, _⟩ := h1; simp
            obtain ⟨h4, h5⟩ := own_rowN h3 h0
            exact ⟨false, _, _, _, rfl, .inr ⟨rfl, l, g', rfl, rfl, h1, h2, h0, h4, h5⟩⟩
        have HSD := hide hsd
        have HN4 := hide (PGood_nilM (.iface tu yu) w4)
        clear hb HC3 hsaid hsd
        go_wp2_with fail
        refine HN4.out.mono ?_
        rintro e w5 ⟨rfl, hb⟩
        have HB45 : Hid (Below w4.heap.size w4 w5) := hb
        have HB5 : Hid (Below w2.heap.size w2 w5) := then_ HB4.out hb
        have HN5 := hide (PGood_nilE bm w5)
        clear hb HN4
        go_wp2_with fail
        refine HN5.out.mono ?_
        rintro e w6 ⟨rfl, hb⟩
        have HB46 : Hid (Below w4.heap.size w4 w6) := then_ HB45.out hb
        have HB6 : Hid (Below w2.heap.size w2 w6) := then_ HB5.out hb
        have HA6 := hide (HLB.out w6 7 HB6.out)
        clear hb HN5
        go_wp2_with fail
        refine HA6.out.mono ?_
        rintro e w7 ⟨rfl, hb⟩
        have HB47 : Hid (Below w4.heap.size w4 w7) := then_ HB46.out hb
        have HB7 : Hid (Below w2.heap.size w2 w7) := then_ HB6.out hb
        have HA7 := hide (HLB.out w7 7 HB7.out)
        clear hb HA6
        go_wp2_with fail
        refine HA7.out.mono ?_
        rintro e w8 ⟨rfl, hb⟩
        have HB48 : Hid (Below w4.heap.size w4 w8) := then_ HB47.out hb
        have HB8 : Hid (Below w2.heap.size w2 w8) := then_ HB7.out hb
        have HK8 := hide (HKN.out w8 HB8.out)
        obtain ⟨c0, c1⟩ := HXC.out w8 HB8.out
        clear hb HA7
        go_wp2_with fail
        refine HK8.out.mono ?_
        rintro e w9 ⟨rfl, hb⟩
        have HB49 : Hid (Below w4.heap.size w4 w9) := then_ HB48.out hb
        have HB9 : Hid (Below w2.heap.size w2 w9) := then_ HB8.out hb
        have HG9 := hide (HRG.out w9 HB9.out)
        clear hb HK8 c0 c1
        go_wp2_with fail
        refine HG9.out.mono ?_
        rintro e w10 ⟨o2, rfl, hg2, hb⟩
        obtain ⟨b2, d2, rfl, hd2, _⟩ := id hg2
        have HB410 : Hid (Below w4.heap.size w4 w10) := then_ HB49.out hb
        have HB10 : Hid (Below w2.heap.size w2 w10) := then_ HB9.out hb
        have HRW : Hid (∀ W, Below w10.heap.size w10 W → GoodAt W (.slice (some ⟨b1, 0, none⟩) S d1) S I row ∧ GoodAt W (.slice (some ⟨b2, 0, none⟩) S d2) S I row) := fun W hW => ⟨HGA.out.below (then_ HB34.out (then_ HB410.out hW)), hg2.below hW⟩
        have hSb : ((S : Int) != (S : Int)) = false := by simp
        clear hb hg2 HG9
        go_wp2_with fail
        clear hSb
        go_loopw [21] (fun i wr => ∃ s : Nat, s ≤ S ∧ i = .int .i64 (s : Int) ∧ Hid (Below w10.heap.size w10 wr)) (fun i _ => S - (intOf i).toNat)
        case atStart => exact ⟨0, Nat.zero_le _, rfl, Below.refl _ _⟩
        case round =>
          obtain ⟨s, hs, rfl, HB⟩ := hrel
          obtain ⟨wo, hwo⟩ : ∃ wo, wo = wr := ⟨_, rfl⟩
          subst hwo
          by_cases hlt : s < S
          · have hsi : (s : Int) < (S : Int) := by omega
            obtain ⟨⟨b1', d1', e1, _, hr1⟩, ⟨b2', d2', e2, _, hr2⟩⟩ := HRW.out wo HB.out
            simp only [Value.slice.injEq, Option.some.injEq, Addr.mk.injEq, and_true, true_and] at e1 e2
            obtain ⟨rfl, rfl⟩ := e1
            obtain ⟨rfl, rfl⟩ := e2
            obtain ⟨a1, y1, q1, _, z1⟩ := hr1 s hlt
            obtain ⟨a2, y2, q2, _, z2⟩ := hr2 s hlt
            have HSB : Hid (∀ W, Below wo.heap.size wo W → Calls Tryz.prog 15 #[.slice (some ⟨a1, 0, none⟩) I y1, .slice (some ⟨a2, 0, none⟩) I y2] W fun e w' => e = .returned (.bool true) ∧ Below W.heap.size W w') := fun W hW =>
              lsameB_any (row s) _ _ W (row_bools (HGL.out s) (by omega) fun i hi => (hW.cell (World.block_lt_of_cell? _ _ (z1 i hi))).trans (z1 i hi)) (row_bools (HGL.out s) (by omega) fun i hi => (hW.cell (World.block_lt_of_cell? _ _ (z2 i hi))).trans (z2 i hi))
            have HDR : Hid (Below wo.heap.size wo wo.drew) := ⟨rfl, rfl, rfl, Nat.le_refl _, fun _ _ => rfl⟩
            have HKE : Hid (∀ W, Below wo.heap.size wo W → W.cell? ⟨b1, s, none⟩ = some (.slice (some ⟨a1, 0, none⟩) I y1) ∧ W.cell? ⟨b2, s, none⟩ = some (.slice (some ⟨a2, 0, none⟩) I y2)) := fun W hW => ⟨(hW.cell (World.block_lt_of_cell? _ _ q1)).trans q1, (hW.cell (World.block_lt_of_cell? _ _ q2)).trans q2⟩
            clear hr1 hr2 z1 z2
            go_wp2_with fail
            go_region_held3 (fun W => W.cell? ⟨b1, s, none⟩ = some (.slice (some ⟨a1, 0, none⟩) I y1) ∧ W.cell? ⟨b2, s, none⟩ = some (.slice (some ⟨a2, 0, none⟩) I y2)) ((refine HKE.out _ ?_; first | exact HDR.out | exact HB11.out | exact Below.refl _ _)) ((go_at_call 15; (with_reducible refine (HSB.out _ HDR.out).mono ?_); rintro e w11 ⟨rfl, hb⟩; have HB11 : Hid (Below wo.heap.size wo w11) := then_ HDR.out hb; clear hb))
            have HBF : Hid (Below w10.heap.size w10 w11) := then_ HB.out HB11.out
            go_wp2_with fail
            go_roundw
            case rel => exact ⟨s + 1, by omega, by go_num, HBF.out⟩
            case measure => simp [intOf]; omega
          · obtain rfl : s = S := by omega
            have hsi : ¬ (s : Int) < (s : Int) := by omega
            have HB11 : Hid (Below w2.heap.size w2 wo) := then_ HB10.out HB.out
            have HB411 : Hid (Below w4.heap.size w4 wo) := then_ HB410.out HB.out
            have HR11 := hide (HRC.out wo HB11.out)
            clear HRW HRG HKN HXC HLB
            go_wp2_with fail
            refine HR11.out.mono ?_
            rintro e w12 ⟨hb, b, v, rfl, hbv, hbr⟩
            have HB412 : Hid (Below w4.heap.size w4 w12) := then_ HB411.out hb
            have HB12' : Hid (Below w2.heap.size w2 w12) := then_ HB11.out hb
            clear hb HR11
            rcases HSD.out with ⟨rfl, rfl, rfl, hheld⟩ | ⟨rfl, l, g', rfl, rfl, hbk, hls, h0, hlc, hcl⟩
            · cases b with
              | none =>
                simp only [BestV] at hbv
                subst hbv
                have HSI := hide (lsameI_any [] (.slice none 0 lc) (.slice none 0 0) w12 (.inl ⟨rfl, none, lc, rfl⟩) (.inl ⟨rfl, none, 0, rfl⟩) (by simp))
                clear hbr hheld
                go_wp2_with fail
                refine HSI.out.mono ?_
                rintro e w13 ⟨rfl, hb⟩
                have HF := hide (HWX.out w13 (then_ HB12'.out hb))
                clear hb HSI
                go_wp2_with fail
                go_ret
                exact ⟨ret_bool (by first | rfl | simp), HF.out⟩
              | some q => exact absurd hheld (hbr.1.not (Nat.le_refl _))
            · cases b with
              | none => exact absurd hbr (hbk.not (Nat.le_refl _))
              | some q =>
                have hlq : l = q := Pr.Least.one hbk hbr.1 hls hbr.2
                subst hlq
                obtain ⟨h5, a, c, rfl, hac, hcells⟩ := hbv
                have hi1 : Ints w12 (.slice (some ⟨g', 0, none⟩) l.length lc) (asI l) := ints_row2 hlc fun k x hx => ⟨(hcells k x hx).1, (HB412.out.cell (World.block_lt_of_cell? _ _ (hcl k x hx))).trans (hcl k x hx)⟩
                have hi2 : Ints w12 (.slice (some ⟨a, 0, none⟩) l.length c) (asI l) := ints_row2 hac hcells
                have HSI := hide (lsameI_any (asI l) _ _ w12 hi1 hi2 (by rw [asI_len]; omega))
                clear hbr hbk hls hcl hcells hi1 hi2
                generalize l.length = L at *
                go_wp2_with fail
                refine HSI.out.mono ?_
                rintro e w13 ⟨rfl, hb⟩
                have HF := hide (HWX.out w13 (then_ HB12'.out hb))
                clear hb HSI
                go_wp2_with fail
                go_ret
                exact ⟨ret_bool (by first | rfl | simp), HF.out⟩
end Rf
end
end Go.Proofs.YtgldbliohpfljaaGreatDoor
