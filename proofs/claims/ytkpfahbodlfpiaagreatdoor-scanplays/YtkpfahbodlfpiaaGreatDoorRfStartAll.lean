/-
  The walk of the document's Eval where the closures hold one value, and tell of some names alone. The document's Start, and the closures by which its Step asks what names are, and were; what stands while two maps turn.
-/
import Derived.Test.YtkpfahbodlfpiaaGreatDoorRvEvalAll
import Derived.Test.YtkpfahbodlfpiaaGreatDoorNaEachAll
namespace Go.Proofs.YtkpfahbodlfpiaaGreatDoor
section
open Go.RowKit
namespace R3
open R2 (cnt cnt_succ cnt_le cnt_all cnt_any)
/-- a closure that tells of some names whether they are so -/
def Tells (D : List UInt8 → Prop) (f : Value) (p : List UInt8 → Bool) (w : World) : Prop :=
  ∃ K c, f = .func (.func K) #[] #[c] ∧ Entered K ∧ ∀ (W : World), Below w.heap.size w W → ∀ nm : List UInt8, D nm → Calls Tryz.prog K #[.string ⟨nm.toArray⟩, c] W fun e W' => e = .returned (.bool (p nm)) ∧ Below W.heap.size W W'
theorem Tells.below {D : List UInt8 → Prop} {f : Value} {p : List UInt8 → Bool} {w w' : World} (h : Tells D f p w) (hb : Below w.heap.size w w') : Tells D f p w' := by
  obtain ⟨K, c, h1, h2, h3⟩ := h
  exact ⟨K, c, h1, h2, fun W hW => h3 W (hb.trans (hW.mono hb.size))⟩
/-- Eval, at this expression -/
def EvalRK (D : List UInt8 → Prop) (x : Ex) : Prop := ∀ (g : Nat) (fi fw : Value) (is was : List UInt8 → Bool) (w : World), (∀ n, n ∈ x.named true → D n) → IsRx (fun _ => True) w x g → Tells D fi is w → Tells D fw was w →
  Calls Tryz.prog 33 #[.pointer (some ⟨g, 0, none⟩), fi, fw] w fun e w' => e = .returned (.bool (x.eval is was)) ∧ Below w.heap.size w w'
set_option maxHeartbeats 4000000 in
set_option maxRecDepth 100000 in
theorem reval_any (D : List UInt8 → Prop) (x : Ex) : EvalRK D x := by
  induction x using Ex.ind with
  | h k nm l ih =>
    intro g fi fw is was w hD h hi hw
    have HIH := hide ih
    have HI := hide hi
    have HW := hide hw
    obtain ⟨Ki, ci, hfi, hei, hti⟩ := hi
    obtain ⟨Kw, cw, hfw, hew, htw⟩ := hw
    have HTI := hide hti
    have HTW := hide htw
    have HSUB : Hid ((k ≠ 2 ∧ k ≠ 3 ∧ k ≠ 4) → ∀ y, y ∈ l → ∀ n, n ∈ y.named true → D n) := fun hk y hy n hn => hD n (by
      rw [Ex.named_of _ _ _ _ hk, List.mem_flatten]
      exact ⟨_, List.mem_map_of_mem hy, hn⟩)
    have HDN : Hid ((k = 2 ∨ k = 3 ∨ k = 4) → D nm) := fun hk => hD nm (by
      rcases hk with rfl | rfl | rfl
      · rw [Ex.named2]; simp
      · rw [Ex.named3]; simp
      · rw [Ex.named4]; simp)
    have hei' : ∀ (args : Array Value) (w : World), (callFunc Ki args).run Tryz.prog w = .ok (.enter Ki args) w := hei
    have hew' : ∀ (args : Array Value) (w : World), (callFunc Kw args).run Tryz.prog w = .ok (.enter Kw args) w := hew
    subst hfi
    subst hfw
    clear hti htw hei hew ih hD
    rw [IsRx.def] at h
    obtain ⟨_, hwf, hln, hk, hn, sv, hsv, hof⟩ := h
    have HKD := hide hk
    clear hk
    match k, hwf, HKD, HSUB, HDN with
    | 0, _, HKD, HSUB, HDN =>
      have HBX : Hid (Below w.heap.size w w) := Below.refl _ _
      have HF : Hid ((⟨0, nm, l⟩ : Ex).eval is was = false) := by show _ = _; simp [Ex.eval]
      have hk := HKD.out
      simp only [kindS] at hk
      clear hof
      go_enter Tryz.func33, Tryz.ntmps33
      go_wp2_with fail
      go_ret
      exact ⟨ret_bool HF.out.symm, HBX.out⟩
    | 1, _, HKD, HSUB, HDN =>
      have HBX : Hid (Below w.heap.size w w) := Below.refl _ _
      have HF : Hid ((⟨1, nm, l⟩ : Ex).eval is was = true) := by show _ = _; simp [Ex.eval]
      have hk := HKD.out
      simp only [kindS] at hk
      clear hof
      go_enter Tryz.func33, Tryz.ntmps33
      go_wp2_with fail
      go_ret
      exact ⟨ret_bool HF.out.symm, HBX.out⟩
    | 2, _, HKD, HSUB, HDN =>
      have HF : Hid ((⟨2, nm, l⟩ : Ex).eval is was = is nm) := by show _ = _; simp [Ex.eval]
      have HC := hide (fun W hW => HTI.out W hW nm (HDN.out (by simp)))
      have hk := HKD.out
      simp only [kindS] at hk
      clear hof
      go_enter Tryz.func33, Tryz.ntmps33
      go_wp2_with fail
      refine (HC.out w (Below.refl _ _)).mono ?_
      rintro e w1 ⟨rfl, hb1⟩
      have HBX := hide hb1
      clear hb1
      go_wp2_with fail
      go_ret
      exact ⟨ret_bool HF.out.symm, HBX.out⟩
    | 3, _, HKD, HSUB, HDN =>
      have HF : Hid ((⟨3, nm, l⟩ : Ex).eval is was = (is nm && !was nm)) := by show _ = _; simp [Ex.eval]
      have HC := hide (fun W hW => HTI.out W hW nm (HDN.out (by simp)))
      have HD := hide (fun W hW => HTW.out W hW nm (HDN.out (by simp)))
      generalize is nm = bi at *
      generalize was nm = bw at *
      have hk := HKD.out
      simp only [kindS] at hk
      clear hof
      cases bi with
      | false =>
        go_enter Tryz.func33, Tryz.ntmps33
        go_wp2_with fail
        refine (HC.out w (Below.refl _ _)).mono ?_
        rintro e w1 ⟨rfl, hb1⟩
        have HBX := hide hb1
        clear hb1
        go_wp2_with fail
        go_ret
        exact ⟨ret_bool HF.out.symm, HBX.out⟩
      | true =>
        go_enter Tryz.func33, Tryz.ntmps33
        go_wp2_with fail
        refine (HC.out w (Below.refl _ _)).mono ?_
        rintro e w1 ⟨rfl, hb1⟩
        have HB1 := hide hb1
        have hkA := (hb1.cell (World.block_lt_of_cell? _ _ hk)).trans hk
        have hnA := (hb1.cell (World.block_lt_of_cell? _ _ hn)).trans hn
        clear hb1
        go_wp2_with fail
        refine (HD.out w1 HB1.out).mono ?_
        rintro e w2 ⟨rfl, hb2⟩
        have HBX := hide (HB1.out.trans (hb2.mono HB1.out.size))
        clear hb2
        go_wp2_with fail
        go_ret
        exact ⟨ret_bool (by rw [HF.out]; rfl), HBX.out⟩
    | 4, _, HKD, HSUB, HDN =>
      have HF : Hid ((⟨4, nm, l⟩ : Ex).eval is was = (!is nm && was nm)) := by show _ = _; simp [Ex.eval]
      have HC := hide (fun W hW => HTI.out W hW nm (HDN.out (by simp)))
      have HD := hide (fun W hW => HTW.out W hW nm (HDN.out (by simp)))
      generalize is nm = bi at *
      generalize was nm = bw at *
      have hk := HKD.out
      simp only [kindS] at hk
      clear hof
      cases bw with
      | false =>
        go_enter Tryz.func33, Tryz.ntmps33
        go_wp2_with fail
        refine (HD.out w (Below.refl _ _)).mono ?_
        rintro e w1 ⟨rfl, hb1⟩
        have HBX := hide hb1
        clear hb1
        go_wp2_with fail
        go_ret
        exact ⟨ret_bool (by rw [HF.out]; cases bi <;> rfl), HBX.out⟩
      | true =>
        go_enter Tryz.func33, Tryz.ntmps33
        go_wp2_with fail
        refine (HD.out w (Below.refl _ _)).mono ?_
        rintro e w1 ⟨rfl, hb1⟩
        have HB1 := hide hb1
        have hkA := (hb1.cell (World.block_lt_of_cell? _ _ hk)).trans hk
        have hnA := (hb1.cell (World.block_lt_of_cell? _ _ hn)).trans hn
        clear hb1
        go_wp2_with fail
        refine (HC.out w1 HB1.out).mono ?_
        rintro e w2 ⟨rfl, hb2⟩
        have HBX := hide (HB1.out.trans (hb2.mono HB1.out.size))
        clear hb2
        go_wp2_with fail
        go_ret
        exact ⟨ret_bool (by rw [HF.out]; cases bi <;> rfl), HBX.out⟩
    | 5, hwf, HKD, HSUB, HDN =>
      have hl1 : l.length = 1 := by
        rcases hwf with h | h | h | h <;> omega
      have hk := HKD.out
      simp only [kindS] at hk
      match l, hl1, hof, HIH with
      | [y], _, hof, HIH =>
        rcases hof with ⟨h0, _⟩ | ⟨_, b, cap, rfl, hcap, _, hrow⟩
        · simp at h0
        · obtain ⟨gy, hcell, hy⟩ := hrow 0 _ rfl
          have HF : Hid ((⟨5, nm, [y]⟩ : Ex).eval is was = !(y.eval is was)) := by show _ = _; simp [Ex.eval]
          have HC := hide (HIH.out y (by simp) gy _ _ is was w (HSUB.out ⟨by decide, by decide, by decide⟩ y (by simp)) hy HI.out HW.out)
          clear hrow hy
          simp only [List.length_singleton] at hsv hcap
          generalize y.eval is was = bv at *
          go_enter Tryz.func33, Tryz.ntmps33
          go_wp2_with fail
          refine HC.out.mono ?_
          rintro e w1 ⟨rfl, hb1⟩
          have HBX := hide hb1
          clear hb1
          go_wp2_with fail
          go_ret
          exact ⟨ret_bool HF.out.symm, HBX.out⟩
    | 6, hwf, HKD, HSUB, HDN =>
      have hk := HKD.out
      simp only [kindS] at hk
      have h2 : 2 ≤ l.length := by rcases hwf with h | h | h | h <;> omega
      rcases hof with ⟨h0, _⟩ | ⟨_, b, cap, rfl, hcap, _, hrow⟩
      · omega
      · have HROW := hide hrow
        obtain ⟨bs, hbs⟩ : ∃ bs, bs = l.map fun x => x.eval is was := ⟨_, rfl⟩
        have HF : Hid ((⟨6, nm, l⟩ : Ex).eval is was = bs.all id) := by show _ = _; rw [hbs]; simp [Ex.eval]
        have HBS := hide hbs
        obtain ⟨n, hn'⟩ : ∃ n, n = l.length := ⟨_, rfl⟩
        have HN := hide hn'
        have HBN : Hid (bs.length = n) := by show _ = _; rw [hbs, hn']; simp
        rw [← hn'] at hcap h2 hsv hln
        clear hn' hrow hwf hbs
        go_enter Tryz.func33, Tryz.ntmps33
        go_wp2_with fail
        go_loopw [78, 7] (fun i acc wr => ∃ k : Nat, k ≤ n ∧ i = .int .i64 (k : Int) ∧ acc = .int .i64 (cnt bs k : Int) ∧ Hid (Below w.heap.size w wr)) (fun i _ _ => n - (intOf i).toNat)
        case atStart => exact ⟨0, Nat.zero_le _, rfl, rfl, Below.refl _ _⟩
        case round =>
          obtain ⟨j, hj, rfl, rfl, HBR⟩ := hrel
          have hkR := (HBR.out.cell (World.block_lt_of_cell? _ _ hk)).trans hk
          have hsvR := (HBR.out.cell (World.block_lt_of_cell? _ _ hsv)).trans hsv
          by_cases hlt : j < n
          · have hjl : j < l.length := by rw [← HN.out]; exact hlt
            have hjb : j < bs.length := by rw [HBN.out]; exact hlt
            obtain ⟨gy, hcell0, hxu0⟩ := HROW.out j (IsRx (fun _ => True) w l[j]) (by rw [List.getElem?_map, List.getElem?_eq_getElem hjl]; rfl)
            have hcell := (HBR.out.cell (World.block_lt_of_cell? _ _ hcell0)).trans hcell0
            have hxu : IsRx (fun _ => True) wr l[j] gy := IsRx.later hxu0 HBR.out
            clear hcell0 hxu0
            have HC := hide (HIH.out l[j] (List.getElem_mem hjl) gy _ _ is was wr (HSUB.out ⟨by decide, by decide, by decide⟩ l[j] (List.getElem_mem hjl)) hxu (HI.out.below HBR.out) (HW.out.below HBR.out))
            have hev : bs[j] = l[j].eval is was := by simp [HBS.out]
            have HS := hide (cnt_succ bs j hjb)
            have hcl := cnt_le bs j
            rw [← hev] at HC
            clear hxu hev
            generalize bs[j] = bj at *
            generalize hA : cnt bs j = A at *
            generalize hA2 : cnt bs (j + 1) = A2 at *
            have HA2 := hide hA2
            clear hA hA2 hjl hjb
            cases bj with
            | true =>
              go_wp2_with fail
              refine HC.out.mono ?_
              rintro e w2 ⟨rfl, hb2⟩
              have HB2 := hide (HBR.out.trans (hb2.mono HBR.out.size))
              clear hb2
              go_wp2_with fail
              go_roundw
              case rel => exact ⟨j + 1, by omega, by go_num, by rw [HA2.out, HS.out]; simp, HB2.out⟩
              case measure => simp [intOf]; omega
            | false =>
              go_wp2_with fail
              refine HC.out.mono ?_
              rintro e w2 ⟨rfl, hb2⟩
              have HB2 := hide (HBR.out.trans (hb2.mono HBR.out.size))
              clear hb2
              go_wp2_with fail
              go_roundw
              case rel => exact ⟨j + 1, by omega, by go_num, by rw [HA2.out, HS.out]; simp, HB2.out⟩
              case measure => simp [intOf]; omega
          · have hjn : j = n := by omega
            subst hjn
            have hcl := cnt_le bs j
            have HC1 : Hid (((cnt bs j : Int) == (j : Int)) = bs.all id) := by show _ = _; have := cnt_all bs; rw [HBN.out] at this; exact this
            generalize cnt bs j = A at *
            go_wp2_with fail
            go_ret
            exact ⟨ret_bool (by rw [HF.out]; exact HC1.out), HBR.out⟩
    | 7, hwf, HKD, HSUB, HDN =>
      have hk := HKD.out
      simp only [kindS] at hk
      have h2 : 2 ≤ l.length := by rcases hwf with h | h | h | h <;> omega
      rcases hof with ⟨h0, _⟩ | ⟨_, b, cap, rfl, hcap, _, hrow⟩
      · omega
      · have HROW := hide hrow
        obtain ⟨bs, hbs⟩ : ∃ bs, bs = l.map fun x => x.eval is was := ⟨_, rfl⟩
        have HF : Hid ((⟨7, nm, l⟩ : Ex).eval is was = bs.any id) := by show _ = _; rw [hbs]; simp [Ex.eval]
        have HBS := hide hbs
        obtain ⟨n, hn'⟩ : ∃ n, n = l.length := ⟨_, rfl⟩
        have HN := hide hn'
        have HBN : Hid (bs.length = n) := by show _ = _; rw [hbs, hn']; simp
        rw [← hn'] at hcap h2 hsv hln
        clear hn' hrow hwf hbs
        go_enter Tryz.func33, Tryz.ntmps33
        go_wp2_with fail
        go_loopw [78, 7] (fun i acc wr => ∃ k : Nat, k ≤ n ∧ i = .int .i64 (k : Int) ∧ acc = .int .i64 (cnt bs k : Int) ∧ Hid (Below w.heap.size w wr)) (fun i _ _ => n - (intOf i).toNat)
        case atStart => exact ⟨0, Nat.zero_le _, rfl, rfl, Below.refl _ _⟩
        case round =>
          obtain ⟨j, hj, rfl, rfl, HBR⟩ := hrel
          have hkR := (HBR.out.cell (World.block_lt_of_cell? _ _ hk)).trans hk
          have hsvR := (HBR.out.cell (World.block_lt_of_cell? _ _ hsv)).trans hsv
          by_cases hlt : j < n
          · have hjl : j < l.length := by rw [← HN.out]; exact hlt
            have hjb : j < bs.length := by rw [HBN.out]; exact hlt
            obtain ⟨gy, hcell0, hxu0⟩ := HROW.out j (IsRx (fun _ => True) w l[j]) (by rw [List.getElem?_map, List.getElem?_eq_getElem hjl]; rfl)
            have hcell := (HBR.out.cell (World.block_lt_of_cell? _ _ hcell0)).trans hcell0
            have hxu : IsRx (fun _ => True) wr l[j] gy := IsRx.later hxu0 HBR.out
            clear hcell0 hxu0
            have HC := hide (HIH.out l[j] (List.getElem_mem hjl) gy _ _ is was wr (HSUB.out ⟨by decide, by decide, by decide⟩ l[j] (List.getElem_mem hjl)) hxu (HI.out.below HBR.out) (HW.out.below HBR.out))
            have hev : bs[j] = l[j].eval is was := by simp [HBS.out]
            have HS := hide (cnt_succ bs j hjb)
            have hcl := cnt_le bs j
            rw [← hev] at HC
            clear hxu hev
            generalize bs[j] = bj at *
            generalize hA : cnt bs j = A at *
            generalize hA2 : cnt bs (j + 1) = A2 at *
            have HA2 := hide hA2
            clear hA hA2 hjl hjb
            cases bj with
            | true =>
              go_wp2_with fail
              refine HC.out.mono ?_
              rintro e w2 ⟨rfl, hb2⟩
              have HB2 := hide (HBR.out.trans (hb2.mono HBR.out.size))
              clear hb2
              go_wp2_with fail
              go_roundw
              case rel => exact ⟨j + 1, by omega, by go_num, by rw [HA2.out, HS.out]; simp, HB2.out⟩
              case measure => simp [intOf]; omega
            | false =>
              go_wp2_with fail
              refine HC.out.mono ?_
              rintro e w2 ⟨rfl, hb2⟩
              have HB2 := hide (HBR.out.trans (hb2.mono HBR.out.size))
              clear hb2
              go_wp2_with fail
              go_roundw
              case rel => exact ⟨j + 1, by omega, by go_num, by rw [HA2.out, HS.out]; simp, HB2.out⟩
              case measure => simp [intOf]; omega
          · have hjn : j = n := by omega
            subst hjn
            have hcl := cnt_le bs j
            have HC1 : Hid (decide ((0 : Int) < (cnt bs j : Int)) = bs.any id) := by show _ = _; have := cnt_any bs; rw [HBN.out] at this; exact this
            generalize cnt bs j = A at *
            cases hba : bs.any id with
            | true =>
              have h0 : (0 : Int) < (A : Int) := by have := HC1.out; rw [hba] at this; exact of_decide_eq_true this
              go_wp2_with fail
              go_ret
              exact ⟨ret_bool (by rw [HF.out, hba]), HBR.out⟩
            | false =>
              have h0 : ¬ (0 : Int) < (A : Int) := by have := HC1.out; rw [hba] at this; exact of_decide_eq_false this
              have h1 : ((0 : Int) == (j : Int)) = false := beq_eq_false_iff_ne.2 (by omega)
              go_wp2_with fail
              go_ret
              exact ⟨ret_bool (by rw [HF.out, hba]), HBR.out⟩
    | n + 8, hwf, _, _, _ => rcases hwf with h | h | h | h <;> omega
end R3
end
section
namespace Rf
open Go.RowKit Go.Maps
theorem then_ {a b c : World} (h : Below a.heap.size a b) (k : Below b.heap.size b c) : Below a.heap.size a c := h.trans (k.mono h.size)
/-- a state of the document's: its two maps -/
def StIs (W : World) (v : Value) (n : Nat) (st : St) : Prop := ∃ b1 b2, v = .agg #[.map (some b1), .map (some b2)] ∧ BM W b1 n st.is ∧ IM W b2 n st.ct ∧ ∀ s, -9223372036854775808 ≤ st.ct s ∧ st.ct s ≤ 9223372036854775807
theorem StIs.below {W W' : World} {v : Value} {n : Nat} {st : St} (h : StIs W v n st) (hb : Below W.heap.size W W') : StIs W' v n st := by
  obtain ⟨b1, b2, h1, h2, h3, h4⟩ := h
  exact ⟨b1, b2, h1, h2.below hb, h3.below hb, h4⟩
theorem StIs.more {W : World} {v : Value} {n n' : Nat} {st : St} (h : StIs W v n st) (hn : n ≤ n') : StIs W v n' st := by
  obtain ⟨b1, b2, h1, h2, h3, h4⟩ := h
  exact ⟨b1, b2, h1, h2.more hn, h3.more hn, h4⟩
theorem om_below {W W' : World} {ty : TypeId} {pe : Value → Option (DataW Unit × List MemPlace)} {b n : Nat} {D : DataW Unit} (h : W.ownsMap Tryz.prog ty pe b n D) (hb : Below W.heap.size W W') : W'.ownsMap Tryz.prog ty pe b n D := by
  have hl := h.lt
  obtain ⟨es, clock, h1, h2⟩ := h
  exact ⟨es, clock, (hb.block b hl).trans h1, h2⟩
theorem om_block {W W' : World} {ty : TypeId} {pe : Value → Option (DataW Unit × List MemPlace)} {b n : Nat} {D : DataW Unit} (h : W.ownsMap Tryz.prog ty pe b n D) (hb : W'.heap[b]? = W.heap[b]?) : W'.ownsMap Tryz.prog ty pe b n D := by
  obtain ⟨es, clock, h1, h2⟩ := h
  exact ⟨es, clock, hb.trans h1, h2⟩
/-- a map is no row of cells -/
theorem BM.obj {W : World} {b n : Nat} {f : List UInt8 → Bool} (h : BM W b n f) : ∃ es clock, W.heap[b]? = some (.map es clock) := by
  obtain ⟨D, ⟨es, clock, h1, _⟩, _⟩ := h
  exact ⟨es, clock, h1⟩
theorem IM.obj {W : World} {b n : Nat} {f : List UInt8 → Int} (h : IM W b n f) : ∃ es clock, W.heap[b]? = some (.map es clock) := by
  obtain ⟨D, ⟨es, clock, h1, _⟩, _⟩ := h
  exact ⟨es, clock, h1⟩
/-- two blocks may turn: all else stands -/
structure Fr (a b : Nat) (W W' : World) : Prop where
  os : W'.os = W.os
  tape : W'.tape = W.tape
  output : W'.output = W.output
  size : W.heap.size ≤ W'.heap.size
  block : ∀ k, k < W.heap.size → k ≠ a → k ≠ b → W'.heap[k]? = W.heap[k]?
theorem Fr.refl (a b : Nat) (W : World) : Fr a b W W := ⟨rfl, rfl, rfl, Nat.le_refl _, fun _ _ _ _ => rfl⟩
theorem Fr.trans {a b : Nat} {A B C : World} (h : Fr a b A B) (k : Fr a b B C) : Fr a b A C :=
  ⟨k.os.trans h.os, k.tape.trans h.tape, k.output.trans h.output, Nat.le_trans h.size k.size, fun i hi h1 h2 => (k.block i (Nat.lt_of_lt_of_le hi h.size) h1 h2).trans (h.block i hi h1 h2)⟩
theorem Fr.of_below {a b : Nat} {A B : World} (h : Below A.heap.size A B) : Fr a b A B := ⟨h.os, h.tape, h.output, h.size, fun i hi _ _ => h.block i hi⟩
theorem Fr.turned1 {a b : Nat} {A B : World} (h : A.mapTurned B a) : Fr a b A B := by
  obtain ⟨h1, h2, h3, h4, h5⟩ := turned_two h
  exact ⟨h1, h2, h3, by rw [h4]; exact Nat.le_refl _, fun i _ h6 _ => h5 i h6⟩
theorem Fr.turned2 {a b : Nat} {A B : World} (h : A.mapTurned B b) : Fr a b A B := by
  obtain ⟨h1, h2, h3, h4, h5⟩ := turned_two h
  exact ⟨h1, h2, h3, by rw [h4]; exact Nat.le_refl _, fun i _ _ h6 => h5 i h6⟩
theorem Fr.below {a b q : Nat} {A B : World} (h : Fr a b A B) (hq : q ≤ A.heap.size) (ha : q ≤ a) (hb : q ≤ b) : Below q A B := ⟨h.os, h.tape, h.output, h.size, fun i hi => h.block i (by omega) (by omega) (by omega)⟩
theorem map_nocell {W : World} {b : Nat} {es : Array MapEntry} {clock : Nat} (h : W.heap[b]? = some (.map es clock)) (i : Nat) (v : Value) : W.cell? ⟨b, i, none⟩ ≠ some v := by
  simp [World.cell?, h]
/-- cells stand -/
theorem Fr.cell {a b : Nat} {A B : World} (h : Fr a b A B) {e1 e2 : Array MapEntry} {c1 c2 : Nat} (ha : A.heap[a]? = some (.map e1 c1)) (hb : A.heap[b]? = some (.map e2 c2)) {g i : Nat} {v : Value} (hc : A.cell? ⟨g, i, none⟩ = some v) : B.cell? ⟨g, i, none⟩ = some v := by
  have n1 : g ≠ a := fun e => by subst e; exact map_nocell ha i v hc
  have n2 : g ≠ b := fun e => by subst e; exact map_nocell hb i v hc
  rw [World.cell?_of_block (h.block g (World.block_lt_of_cell? _ _ hc) n1 n2)]
  exact hc
theorem Fr.bm {a b c n : Nat} {A B : World} {f : List UInt8 → Bool} (h : Fr a b A B) (hm : BM A c n f) (h1 : c ≠ a) (h2 : c ≠ b) : BM B c n f := hm.kept (h.block c hm.lt h1 h2)
theorem Fr.im {a b c n : Nat} {A B : World} {f : List UInt8 → Int} (h : Fr a b A B) (hm : IM A c n f) (h1 : c ≠ a) (h2 : c ≠ b) : IM B c n f := hm.kept (h.block c hm.lt h1 h2)
set_option maxHeartbeats 2000000 in
set_option maxRecDepth 100000 in
theorem Start_any (w : World) : Calls Tryz.prog 10 #[] w fun e w' => Below w.heap.size w w' ∧ ∃ b1 b2, e = .returned (.agg #[.map (some b1), .map (some b2)]) ∧ w.heap.size ≤ b1 ∧ w.heap.size ≤ b2 ∧ b1 ≠ b2 ∧ w'.ownsMap Tryz.prog 9 (plainElem Tryz.prog 4) b1 0 (.map [] : DataW Unit) ∧ w'.ownsMap Tryz.prog 9 (plainElem Tryz.prog 3) b2 0 (.map [] : DataW Unit) := by
  have hmm := @run_makeMap Tryz.prog
  go_enter Tryz.func10, Tryz.ntmps10
  go_wp2_with fail
  obtain ⟨wA, hwA⟩ : ∃ wA, wA = w.alloc (.cells #[.map (some (w.heap.size + 1)), .map (some (w.heap.size + 1 + 1))] 44) := ⟨_, rfl⟩
  obtain ⟨wB, hwB⟩ : ∃ wB, wB = wA.alloc (.map #[] 0) := ⟨_, rfl⟩
  obtain ⟨wC, hwC⟩ : ∃ wC, wC = wB.alloc (.map #[] 0) := ⟨_, rfl⟩
  have zA : wA.heap.size = w.heap.size + 1 := by rw [hwA]; simp
  have zB : wB.heap.size = w.heap.size + 1 + 1 := by rw [hwB]; simp [zA]
  have bA : Below w.heap.size w wA := by rw [hwA]; exact (Below.refl _ _).alloc (Nat.le_refl _) _
  have bB : Below wA.heap.size wA wB := by rw [hwB]; exact (Below.refl _ _).alloc (Nat.le_refl _) _
  have bC : Below wB.heap.size wB wC := by rw [hwC]; exact (Below.refl _ _).alloc (Nat.le_refl _) _
  have hb : Below w.heap.size w wC := then_ bA (then_ bB bC)
  have h0 : wC.heap[w.heap.size]? = some (.cells #[.map (some (w.heap.size + 1)), .map (some (w.heap.size + 1 + 1))] 44 (0, 0)) := by
    rw [(then_ bB bC).block _ (by omega), hwA]; exact heap_alloc_new _ _
  have z0 : wC.cell? ⟨w.heap.size, 0, none⟩ = some (.map (some (w.heap.size + 1))) := by rw [Lib.cell_of_heap h0]; rfl
  have z1 : wC.cell? ⟨w.heap.size, 1, none⟩ = some (.map (some (w.heap.size + 1 + 1))) := by rw [Lib.cell_of_heap h0]; rfl
  have m1 : wC.ownsMap Tryz.prog 9 (plainElem Tryz.prog 4) (w.heap.size + 1) 0 (.map [] : DataW Unit) := by
    rw [hwC]
    refine World.ownsMap.alloc ?_ _
    have h := World.ownsMap_made (H := Unit) wA Tryz.prog 9 (plainElem Tryz.prog 4)
    rw [zA, ← hwB] at h
    exact h
  have m2 : wC.ownsMap Tryz.prog 9 (plainElem Tryz.prog 3) (w.heap.size + 1 + 1) 0 (.map [] : DataW Unit) := by
    have h := World.ownsMap_made (H := Unit) wB Tryz.prog 9 (plainElem Tryz.prog 3)
    rw [zB, ← hwC] at h
    exact h
  rw [← hwA, ← hwB, ← hwC]
  refine bodyPost_ret_by (v := .agg #[.map (some (w.heap.size + 1)), .map (some (w.heap.size + 1 + 1))]) ?_ rfl ⟨hb, _, _, rfl, by omega, by omega, by omega, m1, m2⟩
  simp [results, Tryz.results10, go_sem, z0, z1]
/-- what names are, or were: the closure over a state's box -/
theorem ask_any (K : Nat) (hK : K = 34 ∨ K = 35) (g b1 n : Nat) (f : List UInt8 → Bool) (w : World) (hc : w.cell? ⟨g, 0, none⟩ = some (.map (some b1))) (hm : BM w b1 n f) (nm : List UInt8) (hn : nm.length ≤ maxLen) :
    Calls Tryz.prog K #[.string ⟨nm.toArray⟩, .pointer (some ⟨g, 0, none⟩)] w fun e w' => e = .returned (.bool (f nm)) ∧ Below w.heap.size w w' := by
  have hl := hm.look nm hn
  clear hm
  generalize f nm = y at *
  rcases hK with rfl | rfl
  · go_enter Tryz.func34, Tryz.ntmps34
    go_wp2_with fail
    go_ret
    exact ⟨rfl, Below.refl _ _⟩
  · go_enter Tryz.func35, Tryz.ntmps35
    go_wp2_with fail
    go_ret
    exact ⟨rfl, Below.refl _ _⟩
end Rf
end
end Go.Proofs.YtkpfahbodlfpiaaGreatDoor
