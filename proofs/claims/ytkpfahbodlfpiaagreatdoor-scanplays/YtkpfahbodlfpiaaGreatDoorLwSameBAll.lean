/-
  The same walks where the closures hold two values, and grow memory when they are asked. The walks of package scan's told and its closure. The walk of package scan's step. Slices of bools: how long they are. The walk of the statements' own sameBools.
-/
import Derived.Test.YtkpfahbodlfpiaaGreatDoorEvEvalAll
import Derived.Laws.CopyOwn
import Derived.Laws.CopyRow
import Derived.Laws.IdiomCopy
namespace Go.Proofs.YtkpfahbodlfpiaaGreatDoor
section
open Go.RowKit
namespace E2
/-- a closure that tells of each name whether it is so; it changes nothing -/
def Tells (f : Value) (p : List UInt8 → Bool) (w : World) : Prop :=
  ∃ K c d, f = .func (.func K) #[] #[c, d] ∧ Entered K ∧ ∀ (W : World), Below w.heap.size w W → ∀ nm : List UInt8, Calls Tryz.prog K #[.string ⟨nm.toArray⟩, c, d] W fun e W' => e = .returned (.bool (p nm)) ∧ Below W.heap.size W W'
theorem Tells.below {f : Value} {p : List UInt8 → Bool} {w w' : World} (h : Tells f p w) (hb : Below w.heap.size w w') : Tells f p w' := by
  obtain ⟨K, c, d, h1, h2, h3⟩ := h
  exact ⟨K, c, d, h1, h2, fun W hW => h3 W (hb.trans (hW.mono hb.size))⟩
theorem orNever_any (K : Nat) (c d : Value) (w : World) : Calls Tryz.prog 105 #[.func (.func K) #[] #[c, d]] w fun e w' => e = .returned (.func (.func K) #[] #[c, d]) ∧ w' = w := by
  have hn : ∀ w : World, (binOp .eql 76 (.func (.func K) #[] #[c, d]) .nilFunc).run Tryz.prog w = .ok (.bool false) w := fun _ => by kernel_rfl
  go_enter Tryz.func105, Tryz.ntmps105
  go_wp2
  go_ret
  exact ⟨rfl, rfl⟩
/-- eval, at this expression -/
def EvalOK (x : Ex) : Prop := ∀ (v fi fw : Value) (is was : List UInt8 → Bool) (w : World), IsEx (fun _ => True) w x v → Tells fi is w → Tells fw was w →
  Calls Tryz.prog 104 #[v, fi, fw] w fun e w' => e = .returned (.bool (x.eval is was)) ∧ Below w.heap.size w w'
set_option maxHeartbeats 1000000 in
theorem hasOne_any (xs : List Ex) (hx : ∀ x, x ∈ xs → EvalOK x) (this : Bool) (g cap : Nat) (_hcap : xs.length ≤ cap) (hmx : xs.length ≤ 9223372036854775807) (fi fw : Value) (is was : List UInt8 → Bool) (w : World)
    (hc : ∀ (k : Nat) (x : Ex), xs[k]? = some x → ∃ u, w.cell? ⟨g, k, none⟩ = some u ∧ IsEx (fun _ => True) w x u) (hi : Tells fi is w) (hw : Tells fw was w) :
    Calls Tryz.prog 148 #[.slice (some ⟨g, 0, none⟩) xs.length cap, .bool this, fi, fw] w fun e w' => e = .returned (.bool ((xs.map fun x => x.eval is was).any (· == this))) ∧ Below w.heap.size w w' := by
  have HX := hide hx
  have HC := hide hc
  have HI := hide hi
  have HW := hide hw
  clear hx hc hi hw
  generalize hn : xs.length = n at *
  have HN := hide hn
  clear hn
  go_enter Tryz.func148, Tryz.ntmps148
  go_wp2_with fail
  go_loopw [13] (fun i wr => ∃ k : Nat, k ≤ n ∧ i = .int .i64 (k : Int) ∧ ((xs.take k).map fun x => x.eval is was).any (· == this) = false ∧ Below w.heap.size w wr) (fun i _ => n - (intOf i).toNat)
  case atStart => exact ⟨0, Nat.zero_le _, rfl, by simp, Below.refl _ _⟩
  case round =>
    obtain ⟨j, hj, rfl, hno, hbr⟩ := hrel
    have HNO := hide hno
    have HBR := hide hbr
    clear hno hbr
    by_cases hlt : j < n
    · have hjl : j < xs.length := by rw [HN.out]; exact hlt
      obtain ⟨u, hu, hxu⟩ := HC.out j xs[j] (List.getElem?_eq_getElem hjl)
      have hcell : wr.cell? ⟨g, j, none⟩ = some u := Stay.below (ok := fun _ => True) HBR.out g j u trivial hu
      have HE := hide (HX.out xs[j] (List.getElem_mem hjl) u fi fw is was wr (IsEx.stay (Stay.below HBR.out) (fun g hg => hg) _ u hxu) (HI.out.below HBR.out) (HW.out.below HBR.out))
      have HT : Hid (((xs.take (j + 1)).map fun x => x.eval is was).any (· == this) = (xs[j].eval is was == this)) := by
        show _ = _
        rw [List.take_succ_eq_append_getElem hjl, List.map_append, List.any_append, HNO.out]
        simp
      have HTRUE : Hid ((xs[j].eval is was == this) = true → ((xs.map fun x => x.eval is was).any (· == this)) = true) := fun h => by
        rw [List.any_eq_true]
        exact ⟨xs[j].eval is was, List.mem_map_of_mem (List.getElem_mem hjl), h⟩
      obtain ⟨tu2, yu2, hiu2⟩ := IsEx.iface _ u hxu
      subst hiu2
      clear hu hxu
      generalize xs[j].eval is was = bv at *
      clear hjl
      go_wp2_with fail
      refine HE.out.mono ?_
      rintro e w2 ⟨rfl, hb2⟩
      have HB2 := hide hb2
      clear hb2 HE
      cases hbt : (bv == this) with
      | true =>
        have HF := hide (HTRUE.out hbt)
        go_wp2_with fail
        go_ret
        exact ⟨ret_bool HF.out.symm, HBR.out.trans (HB2.out.mono HBR.out.size)⟩
      | false =>
        rw [hbt] at HT
        go_wp2_with fail
        go_roundw
        case rel => exact ⟨j + 1, by omega, by go_num, HT.out, HBR.out.trans (HB2.out.mono HBR.out.size)⟩
        case measure => simp [intOf]; omega
    · have hjn : j = n := by omega
      have HF : Hid ((xs.map fun x => x.eval is was).any (· == this) = false) := by
        show _ = _
        have := HNO.out
        rwa [List.take_of_length_le (by rw [HN.out]; omega)] at this
      clear hjn
      go_wp2_with fail
      go_ret
      exact ⟨ret_bool HF.out.symm, HBR.out⟩
set_option maxHeartbeats 2000000 in
theorem eval_any (x : Ex) : EvalOK x := by
  induction x using Ex.ind with
  | h k nm l ih =>
    intro v fi fw is was w h hi hw
    have HIH := hide ih
    have HI := hide hi
    have HW := hide hw
    obtain ⟨Ki, ci, di, hfi, hei, hti⟩ := hi
    obtain ⟨Kw, cw, dw, hfw, hew, htw⟩ := hw
    have HTI := hide (hti w (Below.refl _ _))
    have HTW := hide htw
    have hei' : ∀ (args : Array Value) (w : World), (callFunc Ki args).run Tryz.prog w = .ok (.enter Ki args) w := hei
    have hew' : ∀ (args : Array Value) (w : World), (callFunc Kw args).run Tryz.prog w = .ok (.enter Kw args) w := hew
    subst hfi
    subst hfw
    clear hti htw hei hew ih
    match k, h with
    | 0, h =>
      simp only [IsEx] at h
      obtain ⟨_, _, rfl⟩ := h
      have HF : Hid ((⟨0, nm, l⟩ : Ex).eval is was = false) := by show _ = _; simp [Ex.eval]
      go_enter Tryz.func104, Tryz.ntmps104
      go_wp2_with fail
      go_ret
      exact ⟨ret_bool HF.out.symm, Below.refl _ _⟩
    | 1, h =>
      simp only [IsEx] at h
      obtain ⟨_, _, rfl⟩ := h
      have HF : Hid ((⟨1, nm, l⟩ : Ex).eval is was = true) := by show _ = _; simp [Ex.eval]
      go_enter Tryz.func104, Tryz.ntmps104
      go_wp2_with fail
      go_ret
      exact ⟨ret_bool HF.out.symm, Below.refl _ _⟩
    | 2, h =>
      simp only [IsEx] at h
      obtain ⟨_, _, rfl⟩ := h
      have HF : Hid ((⟨2, nm, l⟩ : Ex).eval is was = is nm) := by show _ = _; simp [Ex.eval]
      have HC := hide (HTI.out nm)
      go_enter Tryz.func104, Tryz.ntmps104
      go_wp2_with fail
      refine HC.out.mono ?_
      rintro e w1 ⟨rfl, hb1⟩
      have HB1 := hide hb1
      clear hb1
      go_wp2_with fail
      go_ret
      exact ⟨ret_bool HF.out.symm, HB1.out⟩
    | 3, h =>
      simp only [IsEx] at h
      obtain ⟨_, _, rfl⟩ := h
      have HF : Hid ((⟨3, nm, l⟩ : Ex).eval is was = (is nm && !was nm)) := by show _ = _; simp [Ex.eval]
      have HC := hide (HTI.out nm)
      have HD := hide (fun W hW => HTW.out W hW nm)
      generalize is nm = bi at *
      generalize was nm = bw at *
      cases bi with
      | false =>
        go_enter Tryz.func104, Tryz.ntmps104
        go_wp2_with fail
        refine HC.out.mono ?_
        rintro e w1 ⟨rfl, hb1⟩
        have HB1 := hide hb1
        clear hb1
        go_wp2_with fail
        go_ret
        exact ⟨ret_bool HF.out.symm, HB1.out⟩
      | true =>
        go_enter Tryz.func104, Tryz.ntmps104
        go_wp2_with fail
        refine HC.out.mono ?_
        rintro e w1 ⟨rfl, hb1⟩
        have HB1 := hide hb1
        clear hb1
        go_wp2_with fail
        refine (HD.out w1 HB1.out).mono ?_
        rintro e w2 ⟨rfl, hb2⟩
        have HB2 := hide hb2
        clear hb2
        go_wp2_with fail
        go_ret
        exact ⟨ret_bool (by rw [HF.out]; rfl), HB1.out.trans (HB2.out.mono HB1.out.size)⟩
    | 4, h =>
      simp only [IsEx] at h
      obtain ⟨_, _, rfl⟩ := h
      have HF : Hid ((⟨4, nm, l⟩ : Ex).eval is was = (!is nm && was nm)) := by show _ = _; simp [Ex.eval]
      have HC := hide (HTI.out nm)
      have HD := hide (fun W hW => HTW.out W hW nm)
      generalize is nm = bi at *
      generalize was nm = bw at *
      cases bi with
      | true =>
        go_enter Tryz.func104, Tryz.ntmps104
        go_wp2_with fail
        refine HC.out.mono ?_
        rintro e w1 ⟨rfl, hb1⟩
        have HB1 := hide hb1
        clear hb1
        go_wp2_with fail
        go_ret
        exact ⟨ret_bool HF.out.symm, HB1.out⟩
      | false =>
        go_enter Tryz.func104, Tryz.ntmps104
        go_wp2_with fail
        refine HC.out.mono ?_
        rintro e w1 ⟨rfl, hb1⟩
        have HB1 := hide hb1
        clear hb1
        go_wp2_with fail
        refine (HD.out w1 HB1.out).mono ?_
        rintro e w2 ⟨rfl, hb2⟩
        have HB2 := hide hb2
        clear hb2
        go_wp2_with fail
        go_ret
        exact ⟨ret_bool (by rw [HF.out]; rfl), HB1.out.trans (HB2.out.mono HB1.out.size)⟩
    | 5, h =>
      simp only [IsEx] at h
      obtain ⟨_, h1, u, rfl, h3⟩ := h
      match l, h1, HIH with
      | [y], _, HIH =>
        have hy : IsEx (fun _ => True) w y u := h3 _ rfl
        have hb : Below w.heap.size w (w.alloc (.cells #[u] 222)) := (Below.refl _ w).alloc (Nat.le_refl _) _
        have HF : Hid ((⟨5, nm, [y]⟩ : Ex).eval is was = !(y.eval is was)) := by show _ = _; simp [Ex.eval]
        have HC := hide (HIH.out y (by simp) u _ _ is was _ (IsEx.stay (Stay.below hb) (fun g hg => hg) y u hy) (HI.out.below hb) (HW.out.below hb))
        have HB := hide hb
        obtain ⟨tu, yu, hiu⟩ := IsEx.iface y u hy
        subst hiu
        clear h3 hy hb
        go_enter Tryz.func104, Tryz.ntmps104
        go_wp2_with fail
        refine HC.out.mono ?_
        rintro e w1 ⟨rfl, hb1⟩
        have HB1 := hide hb1
        clear hb1 HC
        go_wp2_with fail
        go_ret
        exact ⟨ret_bool HF.out.symm, HB.out.trans (HB1.out.mono (by simp))⟩
    | 6, h =>
      simp only [IsEx] at h
      obtain ⟨_, _, h3, g, cap, rfl, h4, _, hr⟩ := h
      have HF : Hid ((⟨6, nm, l⟩ : Ex).eval is was = !((l.map fun x => x.eval is was).any (· == false))) := by show _ = _; rw [all_false]; simp [Ex.eval]
      have HC := hide (hasOne_any l HIH.out false g cap h4 h3 _ _ is was w (fun k x hx => hr k _ (by rw [List.getElem?_map, hx]; rfl)) HI.out HW.out)
      clear hr
      generalize (l.map fun x => x.eval is was).any (· == false) = bv at *
      generalize l.length = n at *
      go_enter Tryz.func104, Tryz.ntmps104
      go_wp2_with fail
      refine HC.out.mono ?_
      rintro e w1 ⟨rfl, hb1⟩
      have HB1 := hide hb1
      clear hb1 HC
      go_wp2_with fail
      go_ret
      exact ⟨ret_bool HF.out.symm, HB1.out⟩
    | 7, h =>
      simp only [IsEx] at h
      obtain ⟨_, _, h3, g, cap, rfl, h4, _, hr⟩ := h
      have HF : Hid ((⟨7, nm, l⟩ : Ex).eval is was = (l.map fun x => x.eval is was).any (· == true)) := by show _ = _; rw [any_true]; simp [Ex.eval]
      have HC := hide (hasOne_any l HIH.out true g cap h4 h3 _ _ is was w (fun k x hx => hr k _ (by rw [List.getElem?_map, hx]; rfl)) HI.out HW.out)
      clear hr
      generalize (l.map fun x => x.eval is was).any (· == true) = bv at *
      generalize l.length = n at *
      go_enter Tryz.func104, Tryz.ntmps104
      go_wp2_with fail
      refine HC.out.mono ?_
      rintro e w1 ⟨rfl, hb1⟩
      have HB1 := hide hb1
      clear hb1 HC
      go_wp2_with fail
      go_ret
      exact ⟨ret_bool HF.out.symm, HB1.out⟩
    | n + 8, h => simp only [IsEx] at h
set_option maxHeartbeats 1000000 in
/-- Eval, at every expression: the plain function 'eval' -/
theorem Eval_any (ok : Nat → Prop) (x : Ex) (v fi fw : Value) (is was : List UInt8 → Bool) (w : World) (h : IsEx ok w x v) (hi : Tells fi is w) (hw : Tells fw was w) :
    Calls Tryz.prog 64 #[v, fi, fw] w fun e w' => e = .returned (.bool (x.eval is was)) ∧ Below w.heap.size w w' := by
  have hmf : ∀ (fn : Fn) (first cap : Array Value) (w : World), (Instr.makeFunc fn first cap).run Tryz.prog w = .ok (.func fn first cap) w := fun _ _ _ _ => rfl
  have hb : Below w.heap.size w (w.alloc (.cells #[.bool false] 4)) := (Below.refl _ w).alloc (Nat.le_refl _) _
  have HC := hide (eval_any x v fi fw is was _ (IsEx.stay (Stay.below hb) (fun g _ => trivial) x v h) (hi.below hb) (hw.below hb))
  obtain ⟨tu, yu, hiu⟩ := IsEx.iface x v h
  obtain ⟨Ki, ci, di, hfi, hei, hti⟩ := hi
  obtain ⟨Kw, cw, dw, hfw, hew, htw⟩ := hw
  subst hiu
  subst hfi
  subst hfw
  clear h hb hei hti hew htw
  generalize x.eval is was = bv at *
  go_enter_defers Tryz.func64, Tryz.ntmps64
  go_wp2_with fail
  refine (orNever_any Ki ci di _).mono ?_
  rintro e w0 ⟨rfl, rfl⟩
  go_wp2_with fail
  refine (orNever_any Kw cw dw _).mono ?_
  rintro e w0 ⟨rfl, rfl⟩
  go_wp2_with fail
  refine HC.out.mono ?_
  rintro e w1 ⟨rfl, hb⟩
  have hsz : w.heap.size < w1.heap.size := by have := hb.size; simp at this; omega
  have hc0 : w1.cell? ⟨w.heap.size, 0, none⟩ = some (.bool false) := by rw [hb.cell (by simp)]; simp
  have hf0 : w1.frozen? ⟨w.heap.size, 0, none⟩ = false := by rw [hb.frozen (by simp)]; simp [go_sem]
  have HB : Hid (Below w.heap.size w w1) := ((Below.refl _ w).alloc (Nat.le_refl _) _).trans (hb.mono (by simp))
  clear hb HC
  go_wp2_with fail
  refine leaves_cons (f := 103) (args := #[.pointer (some ⟨w.heap.size, 0, none⟩)]) (by simp) (by simp [go_sem]) ?_
  refine (Eval_idle ⟨w.heap.size, 0, none⟩ _).mono ?_
  rintro e u' w'' ⟨rfl, rfl, rfl⟩
  have hc2 : (w1.setCell ⟨w.heap.size, 0, none⟩ (.bool bv)).cell? ⟨w.heap.size, 0, none⟩ = some (.bool bv) := World.cell?_setCell_same w1 _ _ hc0
  have HX := HB.out.setCell (p := ⟨w.heap.size, 0, none⟩) (Nat.le_refl _) (.bool bv)
  simp [Leaves, settle, results, Tryz.results64, go_sem, hc2]
  exact HX
end E2
end
section
open Go.RowKit
theorem told_any (nv rv lv : Value) (w : World) (hn : ∃ a n c, nv = .slice a n c) (hr : ∃ a n c, rv = .slice a n c) (hl : ∃ a n c, lv = .slice a n c) :
    Calls Tryz.prog 61 #[.agg #[nv, rv], lv] w fun e w' => e = .returned (.func (.func 97) #[] #[.pointer (some ⟨w.heap.size, 0, none⟩), .pointer (some ⟨w.heap.size + 1, 0, none⟩)]) ∧ w' = (w.alloc (.cells #[nv, rv] 26)).alloc (.cells #[lv] 47) := by
  have hmf : ∀ (fn : Fn) (first cap : Array Value) (w : World), (Instr.makeFunc fn first cap).run Tryz.prog w = .ok (.func fn first cap) w := fun _ _ _ _ => rfl
  obtain ⟨a1, n1, c1, rfl⟩ := hn
  obtain ⟨a2, n2, c2, rfl⟩ := hr
  obtain ⟨a3, n3, c3, rfl⟩ := hl
  go_enter Tryz.func61, Tryz.ntmps61
  go_wp2_with fail
  go_ret
  exact ⟨rfl, rfl⟩
set_option maxHeartbeats 2000000 in
set_option maxRecDepth 100000 in
theorem told1_any (ns : List Ld.Nme) (nv rv : Value) (is : List Bool) (gi a b : Nat) (nm : List UInt8) (w : World) (hn : NamesAt w nv ns) (hr : ∃ a n c, rv = .slice a n c) (hlen : is.length = ns.length)
    (h0 : w.cell? ⟨a, 0, none⟩ = some nv) (h1 : w.cell? ⟨a, 1, none⟩ = some rv) (h2 : w.cell? ⟨b, 0, none⟩ = some (.slice (some ⟨gi, 0, none⟩) is.length is.length)) (hi : w.heap[gi]? = some (.cells ⟨is.map boolV⟩ 4 (0, 0))) :
    Calls Tryz.prog 97 #[.string ⟨nm.toArray⟩, .pointer (some ⟨a, 0, none⟩), .pointer (some ⟨b, 0, none⟩)] w fun e w' => e = .returned (.bool (Sc.told ns is nm)) ∧ Below w.heap.size w w' := by
  obtain ⟨ra, rn, rc, rfl⟩ := hr
  have HNU := hide (Number_any ns nv (.slice ra rn rc) nm w hn ⟨_, _, _, rfl⟩)
  obtain ⟨na, nc, rfl, hn1⟩ := hn.slice
  have hlo := Ld.number_lt ns nm
  have hge := Ld.number_ge ns nm
  have HT : Hid (Sc.told ns is nm = (decide (0 ≤ Ld.number ns nm) && is.getD (Ld.number ns nm).toNat false)) := rfl
  have ha : a < w.heap.size := World.block_lt_of_cell? _ _ h0
  have hb : b < w.heap.size := World.block_lt_of_cell? _ _ h2
  have hg : gi < w.heap.size := (Array.getElem?_eq_some_iff.1 hi).1
  have HI := hide hi
  have H2 := hide h2
  generalize Sc.told ns is nm = T at *
  generalize Ld.number ns nm = u at *
  rw [hlen] at H2 h2
  generalize ns.length = m at *
  clear hi hn
  go_enter Tryz.func97, Tryz.ntmps97
  go_wp2_with fail
  refine HNU.out.mono ?_
  rintro e w1 ⟨rfl, hb1⟩
  have HB1 := hide hb1
  have k2 := (hb1.cell (p := ⟨b, 0, none⟩) hb).trans H2.out
  by_cases hu : 0 ≤ u
  · obtain ⟨j, rfl⟩ : ∃ j : Nat, u = (j : Int) := ⟨u.toNat, by omega⟩
    have hj : j < m := by omega
    have k3 : w1.cell? ⟨gi, j, none⟩ = some (.bool (is.getD j false)) := by
      rw [hb1.cell (p := ⟨gi, j, none⟩) hg, Lib.cell_of_heap HI.out]
      simp [boolV, hlen, hj]
    simp only [Int.toNat_natCast] at HT
    generalize is.getD j false = bv at *
    clear hb1 HNU
    go_wp2_with fail
    go_ret
    exact ⟨ret_bool (by rw [HT.out]; simp), HB1.out⟩
  · clear hb1 HNU
    have HD : Hid (decide (0 ≤ u) = false) := by show _ = _; simpa using hu
    go_wp2_with fail
    go_ret
    exact ⟨ret_bool (by rw [HT.out, HD.out]; rfl), HB1.out⟩
/-- the closure that told makes, asked later -/
theorem tells_told (ns : List Ld.Nme) (nv rv : Value) (is : List Bool) (gi a b : Nat) (w : World) (hn : NamesAt w nv ns) (hr : ∃ a n c, rv = .slice a n c) (hlen : is.length = ns.length)
    (h0 : w.cell? ⟨a, 0, none⟩ = some nv) (h1 : w.cell? ⟨a, 1, none⟩ = some rv) (h2 : w.cell? ⟨b, 0, none⟩ = some (.slice (some ⟨gi, 0, none⟩) is.length is.length)) (hi : w.heap[gi]? = some (.cells ⟨is.map boolV⟩ 4 (0, 0))) :
    E2.Tells (.func (.func 97) #[] #[.pointer (some ⟨a, 0, none⟩), .pointer (some ⟨b, 0, none⟩)]) (Sc.told ns is) w :=
  ⟨97, _, _, rfl, fun _ _ => by kernel_rfl, fun W hW nm => told1_any ns nv rv is gi a b nm W (hn.below hW) hr hlen ((hW.cell (p := ⟨a, 0, none⟩) (World.block_lt_of_cell? _ _ h0)).trans h0) ((hW.cell (p := ⟨a, 1, none⟩) (World.block_lt_of_cell? _ _ h1)).trans h1) ((hW.cell (p := ⟨b, 0, none⟩) (World.block_lt_of_cell? _ _ h2)).trans h2) ((hW.block _ (Array.getElem?_eq_some_iff.1 hi).1).trans hi)⟩
end
section
open Go.RowKit
/-- a slice of bools -/
def Bools (w : World) (v : Value) (l : List Bool) : Prop := ∃ a cap, v = .slice a l.length cap ∧ l.length ≤ 1000000 ∧ ∀ (i : Nat) b, l[i]? = some b → ∃ g, a = some ⟨g, 0, none⟩ ∧ w.cell? ⟨g, i, none⟩ = some (.bool b)
theorem Bools.below {w w' : World} {v : Value} {l : List Bool} (h : Bools w v l) (hb : Below w.heap.size w w') : Bools w' v l := by
  obtain ⟨a, cap, h1, h2, h3⟩ := h
  refine ⟨a, cap, h1, h2, fun i b hi => ?_⟩
  obtain ⟨g, h4, h5⟩ := h3 i b hi
  exact ⟨g, h4, (hb.cell (World.block_lt_of_cell? _ _ h5)).trans h5⟩
namespace Sc
/-- inputs are read, the first k of them -/
def readsTo (l : List Nat) (inp is : List Bool) (k : Nat) : List Bool := ((l.zip inp).take k).foldl (fun acc p => acc.set p.1 p.2) is
theorem readsTo_zero (l : List Nat) (inp is : List Bool) : readsTo l inp is 0 = is := rfl
theorem readsTo_all (l : List Nat) (inp is : List Bool) (h : inp.length = l.length) : readsTo l inp is l.length = reads l inp is := by
  unfold readsTo reads
  rw [List.take_of_length_le (by simp [h])]
theorem readsTo_succ (l : List Nat) (inp is : List Bool) (h : inp.length = l.length) (k : Nat) (hk : k < l.length) : readsTo l inp is (k + 1) = (readsTo l inp is k).set l[k] (inp[k]'(by omega)) := by
  unfold readsTo
  rw [List.take_succ_eq_append_getElem (by simp; omega), List.foldl_append]
  simp
theorem readsTo_len (l : List Nat) (inp is : List Bool) : ∀ k, (readsTo l inp is k).length = is.length := by
  have key : ∀ (ps : List (Nat × Bool)) (is : List Bool), (ps.foldl (fun acc p => acc.set p.1 p.2) is).length = is.length := by
    intro ps
    induction ps with
    | nil => intro is; rfl
    | cons a r ih => intro is; rw [List.foldl_cons, ih]; simp
  intro k
  exact key _ _
end Sc
theorem Ld.placesTo_lt (p : Ld.Nme → Bool) (ns : List Ld.Nme) (k i : Nat) (h : i ∈ Ld.placesTo p ns k) : i < k := by
  unfold Ld.placesTo at h
  exact List.mem_range.1 (List.mem_filter.1 h).1
/-- a whole row is copied into another of its length -/
theorem copy_whole (w : World) (dT ty elem : TypeId) (hu : Tryz.prog.underlying dT = some (.slice elem)) (hsz : (Tryz.prog.info? elem).map (·.size) = some 1)
    (g g' n : Nat) (cur cs : List Value) (t t' : TypeId) (hg : w.heap[g]? = some (.cells ⟨cur⟩ t (0, 0))) (hg' : w.heap[g']? = some (.cells ⟨cs⟩ t' (0, 0))) (hc : cur.length = n) (hc' : cs.length = n) (h1 : ∀ v ∈ cs, v.oneCell' = true) :
    ∃ w', (Builtin.copy_ #[dT, dT] ty #[.slice (some ⟨g, 0, none⟩) n n, .slice (some ⟨g', 0, none⟩) n n]).run Tryz.prog w = .ok (goInt n) w' ∧ w'.heap[g]? = some (.cells ⟨cs⟩ t (0, 0)) ∧ (∀ k, k ≠ g → w'.heap[k]? = w.heap[k]?) ∧ w'.heap.size = w.heap.size ∧ w'.os = w.os ∧ w'.tape = w.tape ∧ w'.output = w.output := by
  subst hc'
  by_cases h0 : cs.length = 0
  · obtain rfl : cs = [] := List.eq_nil_of_length_eq_zero h0
    obtain rfl : cur = [] := List.eq_nil_of_length_eq_zero (by simpa using hc)
    exact ⟨w, run_copy_none (P := Tryz.prog) w dT dT ty elem _ _ _ _ _ _ hu hsz (by simp), hg, fun _ _ => rfl, rfl, rfl, rfl, rfl⟩
  · have hr := run_copy_row (P := Tryz.prog) w dT dT ty elem g 0 cs.length cs.length ⟨g', 0, none⟩ cs.length cs.length ⟨cur⟩ t cs hu hsz hg (by simp) (fun j v hj => by
        have e : (⟨g', 0, none⟩ : Addr).add j = ⟨g', j, none⟩ := by
          unfold Addr.add
          split
          · rename_i h; subst h; rfl
          · simp
        rw [e, Lib.cell_of_heap hg' j]
        simpa using hj) (by simp [hc]) h1
    have e : (List.take 0 cur ++ cs ++ List.drop (0 + cs.length) cur).toArray = ⟨cs⟩ := by simp [← hc]
    rw [show (⟨cur⟩ : Array Value).toList = cur from rfl, e] at hr
    exact ⟨_, hr, setRow_heap w g _ _ t _ hg, fun k hk => setRow_other w g k _ hk, by simp [World.setRow], rfl, rfl, rfl⟩
end
section
open Go.RowKit
theorem Bools.len {w : World} {v : Value} {l : List Bool} (h : Bools w v l) : l.length ≤ 1000000 := by obtain ⟨_, _, _, h, _⟩ := h; exact h
theorem Bools.slice {w : World} {v : Value} {l : List Bool} (h : Bools w v l) : ∃ a c, v = .slice a l.length c := by obtain ⟨a, c, h, _⟩ := h; exact ⟨a, c, h⟩
end
section
open Go.RowKit
set_option maxHeartbeats 2000000 in
set_option maxRecDepth 100000 in
theorem lsameB_any (l : List Bool) (u v : Value) (w : World) (hu : Bools w u l) (hv : Bools w v l) :
    Calls Tryz.prog 13 #[u, v] w fun e w' => e = .returned (.bool true) ∧ Below w.heap.size w w' := by
  have HU := hide hu
  have HV := hide hv
  obtain ⟨n, hn⟩ : ∃ n, n = l.length := ⟨_, rfl⟩
  have HN := hide hn
  have hl6 := hu.len
  obtain ⟨ua, uc, rfl⟩ := hu.slice
  obtain ⟨va, vc, rfl⟩ := hv.slice
  rw [← hn] at HU HV hl6 ⊢
  clear hu hv hn
  go_enter Tryz.func13, Tryz.ntmps13
  go_wp2_with fail
  go_loopw [5] (fun i wr => ∃ k : Nat, k ≤ n ∧ i = .int .i64 (k : Int) ∧ Hid (Below w.heap.size w wr)) (fun i _ => n - (intOf i).toNat)
  case atStart => exact ⟨0, Nat.zero_le _, rfl, Below.refl _ _⟩
  case round =>
    obtain ⟨k, hk, rfl, HB⟩ := hrel
    by_cases hlt : k < n
    · have hkl : k < l.length := by rw [← HN.out]; exact hlt
      have hx := List.getElem?_eq_getElem hkl
      obtain ⟨a1, c1, e1, _, b1⟩ := HU.out.below HB.out
      obtain ⟨a2, c2, e2, _, b2⟩ := HV.out.below HB.out
      simp only [Value.slice.injEq] at e1 e2
      obtain ⟨g1, ga1, d1⟩ := b1 k _ hx
      obtain ⟨g2, ga2, d2⟩ := b2 k _ hx
      obtain ⟨e1, _, _⟩ := e1
      obtain ⟨e2, _, _⟩ := e2
      rw [ga1] at e1
      rw [ga2] at e2
      subst e1
      subst e2
      clear b1 b2 ga1 ga2
      generalize l[k] = x at *
      clear hx
      go_wp2_with fail
      go_quiet (fail)
      go_wp2_with fail
      go_roundw
      case rel => exact ⟨k + 1, by omega, by go_num, HB.out.trans ⟨rfl, rfl, rfl, Nat.le_refl _, fun _ _ => rfl⟩⟩
      case measure => simp [intOf]; omega
    · have hkn : k = n := by omega
      subst hkn
      go_wp2_with fail
      go_ret
      exact ⟨rfl, HB.out⟩
end
end Go.Proofs.YtkpfahbodlfpiaaGreatDoor
