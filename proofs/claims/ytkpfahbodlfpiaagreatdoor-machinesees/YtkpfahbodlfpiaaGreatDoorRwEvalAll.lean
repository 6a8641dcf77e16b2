/-
  The walk of the document's Eval where the closures hold two values, tell of some names alone, and grow memory when they are asked. The walk of the document's Eval where the closures hold one value, and tell of some names alone.
-/
import Derived.Test.YtkpfahbodlfpiaaGreatDoorNdNamedAll
import Derived.Test.YtkpfahbodlfpiaaGreatDoorLdRepAll
import Derived.Test.YtkpfahbodlfpiaaGreatDoorNaNamesAll
namespace Go.Proofs.YtkpfahbodlfpiaaGreatDoor
section
open Go.RowKit
namespace R2
/-- how many of the first k are true -/
def cnt (bs : List Bool) (k : Nat) : Nat := ((bs.take k).filter id).length
theorem cnt_succ (bs : List Bool) (k : Nat) (h : k < bs.length) : cnt bs (k + 1) = cnt bs k + (if bs[k] then 1 else 0) := by
  unfold cnt
  rw [List.take_succ_eq_append_getElem h, List.filter_append, List.length_append]
  cases bs[k] <;> rfl
theorem cnt_le (bs : List Bool) (k : Nat) : cnt bs k ≤ k := by
  unfold cnt
  have h1 := List.length_filter_le id (bs.take k)
  rw [List.length_take] at h1
  omega
theorem cnt_all (bs : List Bool) : ((cnt bs bs.length : Int) == (bs.length : Int)) = bs.all id := by
  unfold cnt
  rw [List.take_length]
  induction bs with
  | nil => rfl
  | cons a r ih =>
    have hle := List.length_filter_le id r
    cases a with
    | true =>
      simp only [List.filter_cons, id, if_true, List.length_cons, List.all_cons, Bool.true_and]
      rw [← ih]
      by_cases h : (r.filter id).length = r.length
      · rw [beq_iff_eq.2 (show ((r.filter id).length : Int) = (r.length : Int) by omega), beq_iff_eq.2 (by omega)]
      · rw [beq_eq_false_iff_ne.2 (show ((r.filter id).length : Int) ≠ (r.length : Int) by omega), beq_eq_false_iff_ne.2 (by omega)]
    | false =>
      simp only [List.filter_cons, id, Bool.false_eq_true, if_false, List.length_cons, List.all_cons, Bool.false_and]
      exact beq_eq_false_iff_ne.2 (by omega)
theorem cnt_any (bs : List Bool) : decide ((0 : Int) < (cnt bs bs.length : Int)) = bs.any id := by
  unfold cnt
  rw [List.take_length]
  induction bs with
  | nil => rfl
  | cons a r ih =>
    cases a with
    | true =>
      simp only [List.filter_cons, id, if_true, List.length_cons, List.any_cons, Bool.true_or]
      exact decide_eq_true (by omega)
    | false =>
      simp only [List.filter_cons, id, Bool.false_eq_true, if_false, List.any_cons, Bool.false_or]
      exact ih
/-- a closure that tells of some names whether they are so -/
def Tells (D : List UInt8 → Prop) (f : Value) (p : List UInt8 → Bool) (w : World) : Prop :=
  ∃ K c d, f = .func (.func K) #[] #[c, d] ∧ Entered K ∧ ∀ (W : World), Below w.heap.size w W → ∀ nm : List UInt8, D nm → Calls Tryz.prog K #[.string ⟨nm.toArray⟩, c, d] W fun e W' => e = .returned (.bool (p nm)) ∧ Below W.heap.size W W'
theorem Tells.below {D : List UInt8 → Prop} {f : Value} {p : List UInt8 → Bool} {w w' : World} (h : Tells D f p w) (hb : Below w.heap.size w w') : Tells D f p w' := by
  obtain ⟨K, c, d, h1, h2, h3⟩ := h
  exact ⟨K, c, d, h1, h2, fun W hW => h3 W (hb.trans (hW.mono hb.size))⟩
/-- Eval, at this expression -/
def EvalRK (D : List UInt8 → Prop) (x : Ex) : Prop := ∀ (g : Nat) (fi fw : Value) (is was : List UInt8 → Bool) (w : World), (∀ n, n ∈ x.named true → D n) → IsRx (fun _ => True) w x g → Tells D fi is w → Tells D fw was w →
  Calls Tryz.prog 33 #[.pointer (some ⟨g, 0, none⟩), fi, fw] w fun e w' => e = .returned (.bool (x.eval is was)) ∧ Below w.heap.size w w'
set_option maxHeartbeats 4000000 in
set_option maxRecDepth 100000 in
theorem reval_any (D : List UInt8 → Prop) (x : Ex) : EvalRK D x := by
  induction x using Ex.ind with
  | h k nm l ih =>
    intro g fi fw is was w hD h hi hw
    have HIH := hide ih
    have HI := hide hi
    have HW := hide hw
    obtain ⟨Ki, ci, di, hfi, hei, hti⟩ := hi
    obtain ⟨Kw, cw, dw, hfw, hew, htw⟩ := hw
    have HTI := hide hti
    have HTW := hide htw
    have HSUB : Hid ((k ≠ 2 ∧ k ≠ 3 ∧ k ≠ 4) → ∀ y, y ∈ l → ∀ n, n ∈ y.named true → D n) := fun hk y hy n hn => hD n (by
      rw [Ex.named_of _ _ _ _ hk, List.mem_flatten]
      exact ⟨_, List.mem_map_of_mem hy, hn⟩)
    have HDN : Hid ((k = 2 ∨ k = 3 ∨ k = 4) → D nm) := fun hk => hD nm (by
      rcases hk with rfl | rfl | rfl
      · rw [Ex.named2]; simp
      · rw [Ex.named3]; simp
      · rw [Ex.named4]; simp)
    have hei' : ∀ (args : Array Value) (w : World), (callFunc Ki args).run Tryz.prog w = .ok (.enter Ki args) w := hei
    have hew' : ∀ (args : Array Value) (w : World), (callFunc Kw args).run Tryz.prog w = .ok (.enter Kw args) w := hew
    subst hfi
    subst hfw
    clear hti htw hei hew ih hD
    rw [IsRx.def] at h
    obtain ⟨_, hwf, hln, hk, hn, sv, hsv, hof⟩ := h
    have HKD := hide hk
    clear hk
    match k, hwf, HKD, HSUB, HDN with
    | 0, _, HKD, HSUB, HDN =>
      have HBX : Hid (Below w.heap.size w w) := Below.refl _ _
      have HF : Hid ((⟨0, nm, l⟩ : Ex).eval is was = false) := by show _ = _; simp [Ex.eval]
      have hk := HKD.out
      simp only [kindS] at hk
      clear hof
      go_enter Tryz.func33, Tryz.ntmps33
      go_wp2_with fail
      go_ret
      exact ⟨ret_bool HF.out.symm, HBX.out⟩
    | 1, _, HKD, HSUB, HDN =>
      have HBX : Hid (Below w.heap.size w w) := Below.refl _ _
      have HF : Hid ((⟨1, nm, l⟩ : Ex).eval is was = true) := by show _ = _; simp [Ex.eval]
      have hk := HKD.out
      simp only [kindS] at hk
      clear hof
      go_enter Tryz.func33, Tryz.ntmps33
      go_wp2_with fail
      go_ret
      exact ⟨ret_bool HF.out.symm, HBX.out⟩
    | 2, _, HKD, HSUB, HDN =>
      have HF : Hid ((⟨2, nm, l⟩ : Ex).eval is was = is nm) := by show _ = _; simp [Ex.eval]
      have HC := hide (fun W hW => HTI.out W hW nm (HDN.out (by simp)))
      have hk := HKD.out
      simp only [kindS] at hk
      clear hof
      go_enter Tryz.func33, Tryz.ntmps33
      go_wp2_with fail
      refine (HC.out w (Below.refl _ _)).mono ?_
      rintro e w1 ⟨rfl, hb1⟩
      have HBX := hide hb1
      clear hb1
      go_wp2_with fail
      go_ret
      exact ⟨ret_bool HF.out.symm, HBX.out⟩
    | 3, _, HKD, HSUB, HDN =>
      have HF : Hid ((⟨3, nm, l⟩ : Ex).eval is was = (is nm && !was nm)) := by show _ = _; simp [Ex.eval]
      have HC := hide (fun W hW => HTI.out W hW nm (HDN.out (by simp)))
      have HD := hide (fun W hW => HTW.out W hW nm (HDN.out (by simp)))
      generalize is nm = bi at *
      generalize was nm = bw at *
      have hk := HKD.out
      simp only [kindS] at hk
      clear hof
      cases bi with
      | false =>
        go_enter Tryz.func33, Tryz.ntmps33
        go_wp2_with fail
        refine (HC.out w (Below.refl _ _)).mono ?_
        rintro e w1 ⟨rfl, hb1⟩
        have HBX := hide hb1
        clear hb1
        go_wp2_with fail
        go_ret
        exact ⟨ret_bool HF.out.symm, HBX.out⟩
      | true =>
        go_enter Tryz.func33, Tryz.ntmps33
        go_wp2_with fail
        refine (HC.out w (Below.refl _ _)).mono ?_
        rintro e w1 ⟨rfl, hb1⟩
        have HB1 := hide hb1
        have hkA := (hb1.cell (World.block_lt_of_cell? _ _ hk)).trans hk
        have hnA := (hb1.cell (World.block_lt_of_cell? _ _ hn)).trans hn
        clear hb1
        go_wp2_with fail
        refine (HD.out w1 HB1.out).mono ?_
        rintro e w2 ⟨rfl, hb2⟩
        have HBX := hide (HB1.out.trans (hb2.mono HB1.out.size))
        clear hb2
        go_wp2_with fail
        go_ret
        exact ⟨ret_bool (by rw [HF.out]; rfl), HBX.out⟩
    | 4, _, HKD, HSUB, HDN =>
      have HF : Hid ((⟨4, nm, l⟩ : Ex).eval is was = (!is nm && was nm)) := by show _ = _; simp [Ex.eval]
      have HC := hide (fun W hW => HTI.out W hW nm (HDN.out (by simp)))
      have HD := hide (fun W hW => HTW.out W hW nm (HDN.out (by simp)))
      generalize is nm = bi at *
      generalize was nm = bw at *
      have hk := HKD.out
      simp only [kindS] at hk
      clear hof
      cases bw with
      | false =>
        go_enter Tryz.func33, Tryz.ntmps33
        go_wp2_with fail
        refine (HD.out w (Below.refl _ _)).mono ?_
        rintro e w1 ⟨rfl, hb1⟩
        have HBX := hide hb1
        clear hb1
        go_wp2_with fail
        go_ret
        exact ⟨ret_bool (by rw [HF.out]; cases bi <;> rfl), HBX.out⟩
      | true =>
        go_enter Tryz.func33, Tryz.ntmps33
        go_wp2_with fail
        refine (HD.out w (Below.refl _ _)).mono ?_
        rintro e w1 ⟨rfl, hb1⟩
        have HB1 := hide hb1
        have hkA := (hb1.cell (World.block_lt_of_cell? _ _ hk)).trans hk
        have hnA := (hb1.cell (World.block_lt_of_cell? _ _ hn)).trans hn
        clear hb1
        go_wp2_with fail
        refine (HC.out w1 HB1.out).mono ?_
        rintro e w2 ⟨rfl, hb2⟩
        have HBX := hide (HB1.out.trans (hb2.mono HB1.out.size))
        clear hb2
        go_wp2_with fail
        go_ret
        exact ⟨ret_bool (by rw [HF.out]; cases bi <;> rfl), HBX.out⟩
    | 5, hwf, HKD, HSUB, HDN =>
      have hl1 : l.length = 1 := by
        rcases hwf with h | h | h | h <;> omega
      have hk := HKD.out
      simp only [kindS] at hk
      match l, hl1, hof, HIH with
      | [y], _, hof, HIH =>
        rcases hof with ⟨h0, _⟩ | ⟨_, b, cap, rfl, hcap, _, hrow⟩
        · simp at h0
        · obtain ⟨gy, hcell, hy⟩ := hrow 0 _ rfl
          have HF : Hid ((⟨5, nm, [y]⟩ : Ex).eval is was = !(y.eval is was)) := by show _ = _; simp [Ex.eval]
          have HC := hide (HIH.out y (by simp) gy _ _ is was w (HSUB.out ⟨by decide, by decide, by decide⟩ y (by simp)) hy HI.out HW.out)
          clear hrow hy
          simp only [List.length_singleton] at hsv hcap
          generalize y.eval is was = bv at *
          go_enter Tryz.func33, Tryz.ntmps33
          go_wp2_with fail
          refine HC.out.mono ?_
          rintro e w1 ⟨rfl, hb1⟩
          have HBX := hide hb1
          clear hb1
          go_wp2_with fail
          go_ret
          exact ⟨ret_bool HF.out.symm, HBX.out⟩
    | 6, hwf, HKD, HSUB, HDN =>
      have hk := HKD.out
      simp only [kindS] at hk
      have h2 : 2 ≤ l.length := by rcases hwf with h | h | h | h <;> omega
      rcases hof with ⟨h0, _⟩ | ⟨_, b, cap, rfl, hcap, _, hrow⟩
      · omega
      · have HROW := hide hrow
        obtain ⟨bs, hbs⟩ : ∃ bs, bs = l.map fun x => x.eval is was := ⟨_, rfl⟩
        have HF : Hid ((⟨6, nm, l⟩ : Ex).eval is was = bs.all id) := by show _ = _; rw [hbs]; simp [Ex.eval]
        have HBS := hide hbs
        obtain ⟨n, hn'⟩ : ∃ n, n = l.length := ⟨_, rfl⟩
        have HN := hide hn'
        have HBN : Hid (bs.length = n) := by show _ = _; rw [hbs, hn']; simp
        rw [← hn'] at hcap h2 hsv hln
        clear hn' hrow hwf hbs
        go_enter Tryz.func33, Tryz.ntmps33
        go_wp2_with fail
        go_loopw [78, 7] (fun i acc wr => ∃ k : Nat, k ≤ n ∧ i = .int .i64 (k : Int) ∧ acc = .int .i64 (cnt bs k : Int) ∧ Hid (Below w.heap.size w wr)) (fun i _ _ => n - (intOf i).toNat)
        case atStart => exact ⟨0, Nat.zero_le _, rfl, rfl, Below.refl _ _⟩
        case round =>
          obtain ⟨j, hj, rfl, rfl, HBR⟩ := hrel
          have hkR := (HBR.out.cell (World.block_lt_of_cell? _ _ hk)).trans hk
          have hsvR := (HBR.out.cell (World.block_lt_of_cell? _ _ hsv)).trans hsv
          by_cases hlt : j < n
          · have hjl : j < l.length := by rw [← HN.out]; exact hlt
            have hjb : j < bs.length := by rw [HBN.out]; exact hlt
            obtain ⟨gy, hcell0, hxu0⟩ := HROW.out j (IsRx (fun _ => True) w l[j]) (by rw [List.getElem?_map, List.getElem?_eq_getElem hjl]; rfl)
            have hcell := (HBR.out.cell (World.block_lt_of_cell? _ _ hcell0)).trans hcell0
            have hxu : IsRx (fun _ => True) wr l[j] gy := IsRx.later hxu0 HBR.out
            clear hcell0 hxu0
            have HC := hide (HIH.out l[j] (List.getElem_mem hjl) gy _ _ is was wr (HSUB.out ⟨by decide, by decide, by decide⟩ l[j] (List.getElem_mem hjl)) hxu (HI.out.below HBR.out) (HW.out.below HBR.out))
            have hev : bs[j] = l[j].eval is was := by simp [HBS.out]
            have HS := hide (cnt_succ bs j hjb)
            have hcl := cnt_le bs j
            rw [← hev] at HC
            clear hxu hev
            generalize bs[j] = bj at *
            generalize hA : cnt bs j = A at *
            generalize hA2 : cnt bs (j + 1) = A2 at *
            have HA2 := hide hA2
            clear hA hA2 hjl hjb
            cases bj with
            | true =>
              go_wp2_with fail
              refine HC.out.mono ?_
              rintro e w2 ⟨rfl, hb2⟩
              have HB2 := hide (HBR.out.trans (hb2.mono HBR.out.size))
              clear hb2
              go_wp2_with fail
              go_roundw
              case rel => exact ⟨j + 1, by omega, by go_num, by rw [HA2.out, HS.out]; simp, HB2.out⟩
              case measure => simp [intOf]; omega
            | false =>
              go_wp2_with fail
              refine HC.out.mono ?_
              rintro e w2 ⟨rfl, hb2⟩
              have HB2 := hide (HBR.out.trans (hb2.mono HBR.out.size))
              clear hb2
              go_wp2_with fail
              go_roundw
              case rel => exact ⟨j + 1, by omega, by go_num, by rw [HA2.out, HS.out]; simp, HB2.out⟩
              case measure => simp [intOf]; omega
          · have hjn : j = n := by omega
            subst hjn
            have hcl := cnt_le bs j
            have HC1 : Hid (((cnt bs j : Int) == (j : Int)) = bs.all id) := by show _ = _; have := cnt_all bs; rw [HBN.out] at this; exact this
            generalize cnt bs j = A at *
            go_wp2_with fail
            go_ret
            exact ⟨ret_bool (by rw [HF.out]; exact HC1.out), HBR.out⟩
    | 7, hwf, HKD, HSUB, HDN =>
      have hk := HKD.out
      simp only [kindS] at hk
      have h2 : 2 ≤ l.length := by rcases hwf with h | h | h | h <;> omega
      rcases hof with ⟨h0, _⟩ | ⟨_, b, cap, rfl, hcap, _, hrow⟩
      · omega
      · have HROW := hide hrow
        obtain ⟨bs, hbs⟩ : ∃ bs, bs = l.map fun x => x.eval is was := ⟨_, rfl⟩
        have HF : Hid ((⟨7, nm, l⟩ : Ex).eval is was = bs.any id) := by show _ = _; rw [hbs]; simp [Ex.eval]
        have HBS := hide hbs
        obtain ⟨n, hn'⟩ : ∃ n, n = l.length := ⟨_, rfl⟩
        have HN := hide hn'
        have HBN : Hid (bs.length = n) := by show _ = _; rw [hbs, hn']; simp
        rw [← hn'] at hcap h2 hsv hln
        clear hn' hrow hwf hbs
        go_enter Tryz.func33, Tryz.ntmps33
        go_wp2_with fail
        go_loopw [78, 7] (fun i acc wr => ∃ k : Nat, k ≤ n ∧ i = .int .i64 (k : Int) ∧ acc = .int .i64 (cnt bs k : Int) ∧ Hid (Below w.heap.size w wr)) (fun i _ _ => n - (intOf i).toNat)
        case atStart => exact ⟨0, Nat.zero_le _, rfl, rfl, Below.refl _ _⟩
        case round =>
          obtain ⟨j, hj, rfl, rfl, HBR⟩ := hrel
          have hkR := (HBR.out.cell (World.block_lt_of_cell? _ _ hk)).trans hk
          have hsvR := (HBR.out.cell (World.block_lt_of_cell? _ _ hsv)).trans hsv
          by_cases hlt : j < n
          · have hjl : j < l.length := by rw [← HN.out]; exact hlt
            have hjb : j < bs.length := by rw [HBN.out]; exact hlt
            obtain ⟨gy, hcell0, hxu0⟩ := HROW.out j (IsRx (fun _ => True) w l[j]) (by rw [List.getElem?_map, List.getElem?_eq_getElem hjl]; rfl)
            have hcell := (HBR.out.cell (World.block_lt_of_cell? _ _ hcell0)).trans hcell0
            have hxu : IsRx (fun _ => True) wr l[j] gy := IsRx.later hxu0 HBR.out
            clear hcell0 hxu0
            have HC := hide (HIH.out l[j] (List.getElem_mem hjl) gy _ _ is was wr (HSUB.out ⟨by decide, by decide, by decide⟩ l[j] (List.getElem_mem hjl)) hxu (HI.out.below HBR.out) (HW.out.below HBR.out))
            have hev : bs[j] = l[j].eval is was := by simp [HBS.out]
            have HS := hide (cnt_succ bs j hjb)
            have hcl := cnt_le bs j
            rw [← hev] at HC
            clear hxu hev
            generalize bs[j] = bj at *
            generalize hA : cnt bs j = A at *
            generalize hA2 : cnt bs (j + 1) = A2 at *
            have HA2 := hide hA2
            clear hA hA2 hjl hjb
            cases bj with
            | true =>
              go_wp2_with fail
              refine HC.out.mono ?_
              rintro e w2 ⟨rfl, hb2⟩
              have HB2 := hide (HBR.out.trans (hb2.mono HBR.out.size))
              clear hb2
              go_wp2_with fail
              go_roundw
              case rel => exact ⟨j + 1, by omega, by go_num, by rw [HA2.out, HS.out]; simp, HB2.out⟩
              case measure => simp [intOf]; omega
            | false =>
              go_wp2_with fail
              refine HC.out.mono ?_
              rintro e w2 ⟨rfl, hb2⟩
              have HB2 := hide (HBR.out.trans (hb2.mono HBR.out.size))
              clear hb2
              go_wp2_with fail
              go_roundw
              case rel => exact ⟨j + 1, by omega, by go_num, by rw [HA2.out, HS.out]; simp, HB2.out⟩
              case measure => simp [intOf]; omega
          · have hjn : j = n := by omega
            subst hjn
            have hcl := cnt_le bs j
            have HC1 : Hid (decide ((0 : Int) < (cnt bs j : Int)) = bs.any id) := by show _ = _; have := cnt_any bs; rw [HBN.out] at this; exact this
            generalize cnt bs j = A at *
            cases hba : bs.any id with
            | true =>
              have h0 : (0 : Int) < (A : Int) := by have := HC1.out; rw [hba] at this; exact of_decide_eq_true this
              go_wp2_with fail
              go_ret
              exact ⟨ret_bool (by rw [HF.out, hba]), HBR.out⟩
            | false =>
              have h0 : ¬ (0 : Int) < (A : Int) := by have := HC1.out; rw [hba] at this; exact of_decide_eq_false this
              have h1 : ((0 : Int) == (j : Int)) = false := beq_eq_false_iff_ne.2 (by omega)
              go_wp2_with fail
              go_ret
              exact ⟨ret_bool (by rw [HF.out, hba]), HBR.out⟩
    | n + 8, hwf, _, _, _ => rcases hwf with h | h | h | h <;> omega
end R2
end
section
open Go.RowKit
namespace R3
open R2 (cnt cnt_succ cnt_le cnt_all cnt_any)
/-- a closure that tells of some names whether they are so -/
def Tells (D : List UInt8 → Prop) (f : Value) (p : List UInt8 → Bool) (w : World) : Prop :=
  ∃ K c, f = .func (.func K) #[] #[c] ∧ Entered K ∧ ∀ (W : World), Below w.heap.size w W → ∀ nm : List UInt8, D nm → Calls Tryz.prog K #[.string ⟨nm.toArray⟩, c] W fun e W' => e = .returned (.bool (p nm)) ∧ Below W.heap.size W W'
theorem Tells.below {D : List UInt8 → Prop} {f : Value} {p : List UInt8 → Bool} {w w' : World} (h : Tells D f p w) (hb : Below w.heap.size w w') : Tells D f p w' := by
  obtain ⟨K, c, h1, h2, h3⟩ := h
  exact ⟨K, c, h1, h2, fun W hW => h3 W (hb.trans (hW.mono hb.size))⟩
/-- Eval, at this expression -/
def EvalRK (D : List UInt8 → Prop) (x : Ex) : Prop := ∀ (g : Nat) (fi fw : Value) (is was : List UInt8 → Bool) (w : World), (∀ n, n ∈ x.named true → D n) → IsRx (fun _ => True) w x g → Tells D fi is w → Tells D fw was w →
  Calls Tryz.prog 33 #[.pointer (some ⟨g, 0, none⟩), fi, fw] w fun e w' => e = .returned (.bool (x.eval is was)) ∧ Below w.heap.size w w'
set_option maxHeartbeats 4000000 in
set_option maxRecDepth 100000 in
theorem reval_any (D : List UInt8 → Prop) (x : Ex) : EvalRK D x := by
  induction x using Ex.ind with
  | h k nm l ih =>
    intro g fi fw is was w hD h hi hw
    have HIH := hide ih
    have HI := hide hi
    have HW := hide hw
    obtain ⟨Ki, ci, hfi, hei, hti⟩ := hi
    obtain ⟨Kw, cw, hfw, hew, htw⟩ := hw
    have HTI := hide hti
    have HTW := hide htw
    have HSUB : Hid ((k ≠ 2 ∧ k ≠ 3 ∧ k ≠ 4) → ∀ y, y ∈ l → ∀ n, n ∈ y.named true → D n) := fun hk y hy n hn => hD n (by
      rw [Ex.named_of _ _ _ _ hk, List.mem_flatten]
      exact ⟨_, List.mem_map_of_mem hy, hn⟩)
    have HDN : Hid ((k = 2 ∨ k = 3 ∨ k = 4) → D nm) := fun hk => hD nm (by
      rcases hk with rfl | rfl | rfl
      · rw [Ex.named2]; simp
      · rw [Ex.named3]; simp
      · rw [Ex.named4]; simp)
    have hei' : ∀ (args : Array Value) (w : World), (callFunc Ki args).run Tryz.prog w = .ok (.enter Ki args) w := hei
    have hew' : ∀ (args : Array Value) (w : World), (callFunc Kw args).run Tryz.prog w = .ok (.enter Kw args) w := hew
    subst hfi
    subst hfw
    clear hti htw hei hew ih hD
    rw [IsRx.def] at h
    obtain ⟨_, hwf, hln, hk, hn, sv, hsv, hof⟩ := h
    have HKD := hide hk
    clear hk
    match k, hwf, HKD, HSUB, HDN with
    | 0, _, HKD, HSUB, HDN =>
      have HBX : Hid (Below w.heap.size w w) := Below.refl _ _
      have HF : Hid ((⟨0, nm, l⟩ : Ex).eval is was = false) := by show _ = _; simp [Ex.eval]
      have hk := HKD.out
      simp only [kindS] at hk
      clear hof
      go_enter Tryz.func33, Tryz.ntmps33
      go_wp2_with fail
      go_ret
      exact ⟨ret_bool HF.out.symm, HBX.out⟩
    | 1, _, HKD, HSUB, HDN =>
      have HBX : Hid (Below w.heap.size w w) := Below.refl _ _
      have HF : Hid ((⟨1, nm, l⟩ : Ex).eval is was = true) := by show _ = _; simp [Ex.eval]
      have hk := HKD.out
      simp only [kindS] at hk
      clear hof
      go_enter Tryz.func33, Tryz.ntmps33
      go_wp2_with fail
      go_ret
      exact ⟨ret_bool HF.out.symm, HBX.out⟩
    | 2, _, HKD, HSUB, HDN =>
      have HF : Hid ((⟨2, nm, l⟩ : Ex).eval is was = is nm) := by show _ = _; simp [Ex.eval]
      have HC := hide (fun W hW => HTI.out W hW nm (HDN.out (by simp)))
      have hk := HKD.out
      simp only [kindS] at hk
      clear hof
      go_enter Tryz.func33, Tryz.ntmps33
      go_wp2_with fail
      refine (HC.out w (Below.refl _ _)).mono ?_
      rintro e w1 ⟨rfl, hb1⟩
      have HBX := hide hb1
      clear hb1
      go_wp2_with fail
      go_ret
      exact ⟨ret_bool HF.out.symm, HBX.out⟩
    | 3, _, HKD, HSUB, HDN =>
      have HF : Hid ((⟨3, nm, l⟩ : Ex).eval is was = (is nm && !was nm)) := by show _ = _; simp [Ex.eval]
      have HC := hide (fun W hW => HTI.out W hW nm (HDN.out (by simp)))
      have HD := hide (fun W hW => HTW.out W hW nm (HDN.out (by simp)))
      generalize is nm = bi at *
      generalize was nm = bw at *
      have hk := HKD.out
      simp only [kindS] at hk
      clear hof
      cases bi with
      | false =>
        go_enter Tryz.func33, Tryz.ntmps33
        go_wp2_with fail
        refine (HC.out w (Below.refl _ _)).mono ?_
        rintro e w1 ⟨rfl, hb1⟩
        have HBX := hide hb1
        clear hb1
        go_wp2_with fail
        go_ret
        exact ⟨ret_bool HF.out.symm, HBX.out⟩
      | true =>
        go_enter Tryz.func33, Tryz.ntmps33
        go_wp2_with fail
        refine (HC.out w (Below.refl _ _)).mono ?_
        rintro e w1 ⟨rfl, hb1⟩
        have HB1 := hide hb1
        have hkA := (hb1.cell (World.block_lt_of_cell? _ _ hk)).trans hk
        have hnA := (hb1.cell (World.block_lt_of_cell? _ _ hn)).trans hn
        clear hb1
        go_wp2_with fail
        refine (HD.out w1 HB1.out).mono ?_
        rintro e w2 ⟨rfl, hb2⟩
        have HBX := hide (HB1.out.trans (hb2.mono HB1.out.size))
        clear hb2
        go_wp2_with fail
        go_ret
        exact ⟨ret_bool (by rw [HF.out]; rfl), HBX.out⟩
    | 4, _, HKD, HSUB, HDN =>
      have HF : Hid ((⟨4, nm, l⟩ : Ex).eval is was = (!is nm && was nm)) := by show _ = _; simp [Ex.eval]
      have HC := hide (fun W hW => HTI.out W hW nm (HDN.out (by simp)))
      have HD := hide (fun W hW => HTW.out W hW nm (HDN.out (by simp)))
      generalize is nm = bi at *
      generalize was nm = bw at *
      have hk := HKD.out
      simp only [kindS] at hk
      clear hof
      cases bw with
      | false =>
        go_enter Tryz.func33, Tryz.ntmps33
        go_wp2_with fail
        refine (HD.out w (Below.refl _ _)).mono ?_
        rintro e w1 ⟨rfl, hb1⟩
        have HBX := hide hb1
        clear hb1
        go_wp2_with fail
        go_ret
        exact ⟨ret_bool (by rw [HF.out]; cases bi <;> rfl), HBX.out⟩
      | true =>
        go_enter Tryz.func33, Tryz.ntmps33
        go_wp2_with fail
        refine (HD.out w (Below.refl _ _)).mono ?_
        rintro e w1 ⟨rfl, hb1⟩
        have HB1 := hide hb1
        have hkA := (hb1.cell (World.block_lt_of_cell? _ _ hk)).trans hk
        have hnA := (hb1.cell (World.block_lt_of_cell? _ _ hn)).trans hn
        clear hb1
        go_wp2_with fail
        refine (HC.out w1 HB1.out).mono ?_
        rintro e w2 ⟨rfl, hb2⟩
        have HBX := hide (HB1.out.trans (hb2.mono HB1.out.size))
        clear hb2
        go_wp2_with fail
        go_ret
        exact ⟨ret_bool (by rw [HF.out]; cases bi <;> rfl), HBX.out⟩
    | 5, hwf, HKD, HSUB, HDN =>
      have hl1 : l.length = 1 := by
        rcases hwf with h | h | h | h <;> omega
      have hk := HKD.out
      simp only [kindS] at hk
      match l, hl1, hof, HIH with
      | [y], _, hof, HIH =>
        rcases hof with ⟨h0, _⟩ | ⟨_, b, cap, rfl, hcap, _, hrow⟩
        · simp at h0
        · obtain ⟨gy, hcell, hy⟩ := hrow 0 _ rfl
          have HF : Hid ((⟨5, nm, [y]⟩ : Ex).eval is was = !(y.eval is was)) := by show _ = _; simp [Ex.eval]
          have HC := hide (HIH.out y (by simp) gy _ _ is was w (HSUB.out ⟨by decide, by decide, by decide⟩ y (by simp)) hy HI.out HW.out)
          clear hrow hy
          simp only [List.length_singleton] at hsv hcap
          generalize y.eval is was = bv at *
          go_enter Tryz.func33, Tryz.ntmps33
          go_wp2_with fail
          refine HC.out.mono ?_
          rintro e w1 ⟨rfl, hb1⟩
          have HBX := hide hb1
          clear hb1
          go_wp2_with fail
          go_ret
          exact ⟨ret_bool HF.out.symm, HBX.out⟩
    | 6, hwf, HKD, HSUB, HDN =>
      have hk := HKD.out
      simp only [kindS] at hk
      have h2 : 2 ≤ l.length := by rcases hwf with h | h | h | h <;> omega
      rcases hof with ⟨h0, _⟩ | ⟨_, b, cap, rfl, hcap, _, hrow⟩
      · omega
      · have HROW := hide hrow
        obtain ⟨bs, hbs⟩ : ∃ bs, bs = l.map fun x => x.eval is was := ⟨_, rfl⟩
        have HF : Hid ((⟨6, nm, l⟩ : Ex).eval is was = bs.all id) := by show _ = _; rw [hbs]; simp [Ex.eval]
        have HBS := hide hbs
        obtain ⟨n, hn'⟩ : ∃ n, n = l.length := ⟨_, rfl⟩
        have HN := hide hn'
        have HBN : Hid (bs.length = n) := by show _ = _; rw [hbs, hn']; simp
        rw [← hn'] at hcap h2 hsv hln
        clear hn' hrow hwf hbs
        go_enter Tryz.func33, Tryz.ntmps33
        go_wp2_with fail
        go_loopw [78, 7] (fun i acc wr => ∃ k : Nat, k ≤ n ∧ i = .int .i64 (k : Int) ∧ acc = .int .i64 (cnt bs k : Int) ∧ Hid (Below w.heap.size w wr)) (fun i _ _ => n - (intOf i).toNat)
        case atStart => exact ⟨0, Nat.zero_le _, rfl, rfl, Below.refl _ _⟩
        case round =>
          obtain ⟨j, hj, rfl, rfl, HBR⟩ := hrel
          have hkR := (HBR.out.cell (World.block_lt_of_cell? _ _ hk)).trans hk
          have hsvR := (HBR.out.cell (World.block_lt_of_cell? _ _ hsv)).trans hsv
          by_cases hlt : j < n
          · have hjl : j < l.length := by rw [← HN.out]; exact hlt
            have hjb : j < bs.length := by rw [HBN.out]; exact hlt
            obtain ⟨gy, hcell0, hxu0⟩ := HROW.out j (IsRx (fun _ => True) w l[j]) (by rw [List.getElem?_map, List.getElem?_eq_getElem hjl]; rfl)
            have hcell := (HBR.out.cell (World.block_lt_of_cell? _ _ hcell0)).trans hcell0
            have hxu : IsRx (fun _ => True) wr l[j] gy := IsRx.later hxu0 HBR.out
            clear hcell0 hxu0
            have HC := hide (HIH.out l[j] (List.getElem_mem hjl) gy _ _ is was wr (HSUB.out ⟨by decide, by decide, by decide⟩ l[j] (List.getElem_mem hjl)) hxu (HI.out.below HBR.out) (HW.out.below HBR.out))
            have hev : bs[j] = l[j].eval is was := by simp [HBS.out]
            have HS := hide (cnt_succ bs j hjb)
            have hcl := cnt_le bs j
            rw [← hev] at HC
            clear hxu hev
            generalize bs[j] = bj at *
            generalize hA : cnt bs j = A at *
            generalize hA2 : cnt bs (j + 1) = A2 at *
            have HA2 := hide hA2
            clear hA hA2 hjl hjb
            cases bj with
            | true =>
              go_wp2_with fail
              refine HC.out.mono ?_
              rintro e w2 ⟨rfl, hb2⟩
              have HB2 := hide (HBR.out.trans (hb2.mono HBR.out.size))
              clear hb2
              go_wp2_with fail
              go_roundw
              case rel => exact ⟨j + 1, by omega, by go_num, by rw [HA2.out, HS.out]; simp, HB2.out⟩
              case measure => simp [intOf]; omega
            | false =>
              go_wp2_with fail
              refine HC.out.mono ?_
              rintro e w2 ⟨rfl, hb2⟩
              have HB2 := hide (HBR.out.trans (hb2.mono HBR.out.size))
              clear hb2
              go_wp2_with fail
              go_roundw
              case rel => exact ⟨j + 1, by omega, by go_num, by rw [HA2.out, HS.out]; simp, HB2.out⟩
              case measure => simp [intOf]; omega
          · have hjn : j = n := by omega
            subst hjn
            have hcl := cnt_le bs j
            have HC1 : Hid (((cnt bs j : Int) == (j : Int)) = bs.all id) := by show _ = _; have := cnt_all bs; rw [HBN.out] at this; exact this
            generalize cnt bs j = A at *
            go_wp2_with fail
            go_ret
            exact ⟨ret_bool (by rw [HF.out]; exact HC1.out), HBR.out⟩
    | 7, hwf, HKD, HSUB, HDN =>
      have hk := HKD.out
      simp only [kindS] at hk
      have h2 : 2 ≤ l.length := by rcases hwf with h | h | h | h <;> omega
      rcases hof with ⟨h0, _⟩ | ⟨_, b, cap, rfl, hcap, _, hrow⟩
      · omega
      · have HROW := hide hrow
        obtain ⟨bs, hbs⟩ : ∃ bs, bs = l.map fun x => x.eval is was := ⟨_, rfl⟩
        have HF : Hid ((⟨7, nm, l⟩ : Ex).eval is was = bs.any id) := by show _ = _; rw [hbs]; simp [Ex.eval]
        have HBS := hide hbs
        obtain ⟨n, hn'⟩ : ∃ n, n = l.length := ⟨_, rfl⟩
        have HN := hide hn'
        have HBN : Hid (bs.length = n) := by show _ = _; rw [hbs, hn']; simp
        rw [← hn'] at hcap h2 hsv hln
        clear hn' hrow hwf hbs
        go_enter Tryz.func33, Tryz.ntmps33
        go_wp2_with fail
        go_loopw [78, 7] (fun i acc wr => ∃ k : Nat, k ≤ n ∧ i = .int .i64 (k : Int) ∧ acc = .int .i64 (cnt bs k : Int) ∧ Hid (Below w.heap.size w wr)) (fun i _ _ => n - (intOf i).toNat)
        case atStart => exact ⟨0, Nat.zero_le _, rfl, rfl, Below.refl _ _⟩
        case round =>
          obtain ⟨j, hj, rfl, rfl, HBR⟩ := hrel
          have hkR := (HBR.out.cell (World.block_lt_of_cell? _ _ hk)).trans hk
          have hsvR := (HBR.out.cell (World.block_lt_of_cell? _ _ hsv)).trans hsv
          by_cases hlt : j < n
          · have hjl : j < l.length := by rw [← HN.out]; exact hlt
            have hjb : j < bs.length := by rw [HBN.out]; exact hlt
            obtain ⟨gy, hcell0, hxu0⟩ := HROW.out j (IsRx (fun _ => True) w l[j]) (by rw [List.getElem?_map, List.getElem?_eq_getElem hjl]; rfl)
            have hcell := (HBR.out.cell (World.block_lt_of_cell? _ _ hcell0)).trans hcell0
            have hxu : IsRx (fun _ => True) wr l[j] gy := IsRx.later hxu0 HBR.out
            clear hcell0 hxu0
            have HC := hide (HIH.out l[j] (List.getElem_mem hjl) gy _ _ is was wr (HSUB.out ⟨by decide, by decide, by decide⟩ l[j] (List.getElem_mem hjl)) hxu (HI.out.below HBR.out) (HW.out.below HBR.out))
            have hev : bs[j] = l[j].eval is was := by simp [HBS.out]
            have HS := hide (cnt_succ bs j hjb)
            have hcl := cnt_le bs j
            rw [← hev] at HC
            clear hxu hev
            generalize bs[j] = bj at *
            generalize hA : cnt bs j = A at *
            generalize hA2 : cnt bs (j + 1) = A2 at *
            have HA2 := hide hA2
            clear hA hA2 hjl hjb
            cases bj with
            | true =>
              go_wp2_with fail
              refine HC.out.mono ?_
              rintro e w2 ⟨rfl, hb2⟩
              have HB2 := hide (HBR.out.trans (hb2.mono HBR.out.size))
              clear hb2
              go_wp2_with fail
              go_roundw
              case rel => exact ⟨j + 1, by omega, by go_num, by rw [HA2.out, HS.out]; simp, HB2.out⟩
              case measure => simp [intOf]; omega
            | false =>
              go_wp2_with fail
              refine HC.out.mono ?_
              rintro e w2 ⟨rfl, hb2⟩
              have HB2 := hide (HBR.out.trans (hb2.mono HBR.out.size))
              clear hb2
              go_wp2_with fail
              go_roundw
              case rel => exact ⟨j + 1, by omega, by go_num, by rw [HA2.out, HS.out]; simp, HB2.out⟩
              case measure => simp [intOf]; omega
          · have hjn : j = n := by omega
            subst hjn
            have hcl := cnt_le bs j
            have HC1 : Hid (decide ((0 : Int) < (cnt bs j : Int)) = bs.any id) := by show _ = _; have := cnt_any bs; rw [HBN.out] at this; exact this
            generalize cnt bs j = A at *
            cases hba : bs.any id with
            | true =>
              have h0 : (0 : Int) < (A : Int) := by have := HC1.out; rw [hba] at this; exact of_decide_eq_true this
              go_wp2_with fail
              go_ret
              exact ⟨ret_bool (by rw [HF.out, hba]), HBR.out⟩
            | false =>
              have h0 : ¬ (0 : Int) < (A : Int) := by have := HC1.out; rw [hba] at this; exact of_decide_eq_false this
              have h1 : ((0 : Int) == (j : Int)) = false := beq_eq_false_iff_ne.2 (by omega)
              go_wp2_with fail
              go_ret
              exact ⟨ret_bool (by rw [HF.out, hba]), HBR.out⟩
    | n + 8, hwf, _, _, _ => rcases hwf with h | h | h | h <;> omega
end R3
end
end Go.Proofs.YtkpfahbodlfpiaaGreatDoor
