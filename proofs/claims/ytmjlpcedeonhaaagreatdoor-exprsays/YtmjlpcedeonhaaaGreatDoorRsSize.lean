/-
  The walks of the document's Size and Eval.
-/
import Derived.Test.YtmjlpcedeonhaaaGreatDoorRpPiece
import Derived.Test.YtmjlpcedeonhaaaGreatDoorEvSize
import Derived.Test.YtmjlpcedeonhaaaGreatDoorEvEval
namespace Go.Proofs.YtmjlpcedeonhaaaGreatDoor
open Go.RowKit
theorem IsRx.later {ok : Nat → Prop} {w w' : World} {x : Ex} {g : Nat} (h : IsRx ok w x g) (hb : Below w.heap.size w w') : IsRx (fun _ => True) w' x g := IsRx.stay (Stay.below hb) (fun _ _ => trivial) x g h
/-- Size, at this expression -/
def SizeRK (x : Ex) : Prop := ∀ (g : Nat) (w : World), IsRx (fun _ => True) w x g → x.size ≤ 1000000 → Calls Tryz.prog 16 #[.pointer (some ⟨g, 0, none⟩)] w fun e w' => e = .returned (.int .i64 (x.size : Int)) ∧ w' = w
set_option maxHeartbeats 1000000 in
set_option maxRecDepth 100000 in
theorem rsize_any (x : Ex) : SizeRK x := by
  induction x using Ex.ind with
  | h k nm l ih =>
    intro g w h hsz
    have HIH := hide ih
    rw [IsRx.def] at h
    obtain ⟨_, _, _, _, _, sv, hsv, hof⟩ := h
    rw [Ex.size_eq, ← Ex.sizes_all] at *
    have HSZ := hide hsz
    clear ih
    rcases hof with ⟨h0, rfl⟩ | ⟨hpos, b, cap, rfl, hcap, _, hrow⟩
    · have hl : l = [] := List.length_eq_zero_iff.1 h0
      subst hl
      go_enter Tryz.func16, Tryz.ntmps16
      go_wp2_with fail
      go_loopw [11, 3] (fun i acc wr => i = .int .i64 0 ∧ acc = .int .i64 1 ∧ wr = w) (fun _ _ _ => 0)
      case atStart => exact ⟨rfl, rfl, rfl⟩
      case round =>
        obtain ⟨rfl, rfl, rfl⟩ := hrel
        go_wp2_with fail
        go_ret
        exact ⟨ret_int (by simp [Ex.sizes]), rfl⟩
    · have HROW := hide hrow
      obtain ⟨n, hn⟩ : ∃ n, n = l.length := ⟨_, rfl⟩
      have HN := hide hn
      have hln : l.length ≤ 1000000 := by assumption
      rw [← hn] at hcap hpos HSZ hsv hln
      rw [← hn]
      clear hn hrow hsz
      go_enter Tryz.func16, Tryz.ntmps16
      go_wp2_with fail
      go_loopw [11, 3] (fun i acc wr => ∃ k : Nat, k ≤ n ∧ i = .int .i64 (k : Int) ∧ acc = .int .i64 ((1 + Ex.sizes l k : Nat) : Int) ∧ wr = w) (fun i _ _ => n - (intOf i).toNat)
      case atStart => exact ⟨0, Nat.zero_le _, rfl, by simp [Ex.sizes], rfl⟩
      case round =>
        obtain ⟨j, hj, rfl, rfl, rfl⟩ := hrel
        by_cases hlt : j < n
        · have hjl : j < l.length := by rw [← HN.out]; exact hlt
          obtain ⟨gy, hcell, hxu⟩ := HROW.out j (IsRx (fun _ => True) wr l[j]) (by rw [List.getElem?_map, List.getElem?_eq_getElem hjl]; rfl)
          have HXU := hide hxu
          have HI := hide (HIH.out l[j] (List.getElem_mem hjl))
          have HS := hide (Ex.sizes_succ l j hjl)
          have hle := Ex.sizes_le l (l.length - (j + 1)) (j + 1) (by omega)
          rw [HS.out, ← HN.out] at hle
          have hsz := HSZ.out
          clear hxu
          generalize l[j] = x at *
          generalize hA : Ex.sizes l j = A at *
          generalize hA2 : Ex.sizes l (j + 1) = A2 at *
          generalize Ex.sizes l n = AN at *
          have HA2 := hide hA2
          clear hA hA2 hjl
          go_wp2_with fail
          refine (HI.out _ wr HXU.out (by omega)).mono ?_
          rintro e w2 ⟨rfl, rfl⟩
          go_wp2_with fail
          go_roundw
          case rel => exact ⟨j + 1, by omega, by go_num, by rw [HA2.out, HS.out]; go_num, trivial⟩
          case measure => simp [intOf]; omega
        · have hjn : j = n := by omega
          subst hjn
          go_wp2_with fail
          go_ret
          exact ⟨ret_int rfl, rfl⟩
/-- how many of the first k are true -/
def cnt (bs : List Bool) (k : Nat) : Nat := ((bs.take k).filter id).length
theorem cnt_succ (bs : List Bool) (k : Nat) (h : k < bs.length) : cnt bs (k + 1) = cnt bs k + (if bs[k] then 1 else 0) := by
  unfold cnt
  rw [List.take_succ_eq_append_getElem h, List.filter_append, List.length_append]
  cases bs[k] <;> rfl
theorem cnt_le (bs : List Bool) (k : Nat) : cnt bs k ≤ k := by
  unfold cnt
  have h1 := List.length_filter_le id (bs.take k)
  rw [List.length_take] at h1
  omega
theorem cnt_all (bs : List Bool) : ((cnt bs bs.length : Int) == (bs.length : Int)) = bs.all id := by
  unfold cnt
  rw [List.take_length]
  induction bs with
  | nil => rfl
  | cons a r ih =>
    have hle := List.length_filter_le id r
    cases a with
    | true =>
      simp only [List.filter_cons, id, if_true, List.length_cons, List.all_cons, Bool.true_and]
      rw [← ih]
      by_cases h : (r.filter id).length = r.length
      · rw [beq_iff_eq.2 (show ((r.filter id).length : Int) = (r.length : Int) by omega), beq_iff_eq.2 (by omega)]
      · rw [beq_eq_false_iff_ne.2 (show ((r.filter id).length : Int) ≠ (r.length : Int) by omega), beq_eq_false_iff_ne.2 (by omega)]
    | false =>
      simp only [List.filter_cons, id, Bool.false_eq_true, if_false, List.length_cons, List.all_cons, Bool.false_and]
      exact beq_eq_false_iff_ne.2 (by omega)
theorem cnt_any (bs : List Bool) : decide ((0 : Int) < (cnt bs bs.length : Int)) = bs.any id := by
  unfold cnt
  rw [List.take_length]
  induction bs with
  | nil => rfl
  | cons a r ih =>
    cases a with
    | true =>
      simp only [List.filter_cons, id, if_true, List.length_cons, List.any_cons, Bool.true_or]
      exact decide_eq_true (by omega)
    | false =>
      simp only [List.filter_cons, id, Bool.false_eq_true, if_false, List.any_cons, Bool.false_or]
      exact ih
/-- Eval, at this expression -/
def EvalRK (x : Ex) : Prop := ∀ (g : Nat) (fi fw : Value) (is was : List UInt8 → Bool) (w : World), IsRx (fun _ => True) w x g → Tells fi is w → Tells fw was w →
  Calls Tryz.prog 9 #[.pointer (some ⟨g, 0, none⟩), fi, fw] w fun e w' => e = .returned (.bool (x.eval is was)) ∧ w' = w
set_option maxHeartbeats 4000000 in
set_option maxRecDepth 100000 in
theorem reval_any (x : Ex) : EvalRK x := by
  induction x using Ex.ind with
  | h k nm l ih =>
    intro g fi fw is was w h hi hw
    have HIH := hide ih
    have HI := hide hi
    have HW := hide hw
    obtain ⟨Ki, ci, hfi, hei, hti⟩ := hi
    obtain ⟨Kw, cw, hfw, hew, htw⟩ := hw
    have HTI := hide (hti w (Below.refl _ _))
    have HTW := hide (htw w (Below.refl _ _))
    have hei' : ∀ (args : Array Value) (w : World), (callFunc Ki args).run Tryz.prog w = .ok (.enter Ki args) w := hei
    have hew' : ∀ (args : Array Value) (w : World), (callFunc Kw args).run Tryz.prog w = .ok (.enter Kw args) w := hew
    subst hfi
    subst hfw
    clear hti htw hei hew ih
    rw [IsRx.def] at h
    obtain ⟨_, hwf, hln, hk, hn, sv, hsv, hof⟩ := h
    have HKD := hide hk
    clear hk
    match k, hwf, HKD with
    | 0, _, HKD =>
      have HF : Hid ((⟨0, nm, l⟩ : Ex).eval is was = false) := by show _ = _; simp [Ex.eval]
      have hk := HKD.out
      simp only [kindS] at hk
      clear hof
      go_enter Tryz.func9, Tryz.ntmps9
      go_wp2_with fail
      go_ret
      exact ⟨ret_bool HF.out.symm, rfl⟩
    | 1, _, HKD =>
      have HF : Hid ((⟨1, nm, l⟩ : Ex).eval is was = true) := by show _ = _; simp [Ex.eval]
      have hk := HKD.out
      simp only [kindS] at hk
      clear hof
      go_enter Tryz.func9, Tryz.ntmps9
      go_wp2_with fail
      go_ret
      exact ⟨ret_bool HF.out.symm, rfl⟩
    | 2, _, HKD =>
      have HF : Hid ((⟨2, nm, l⟩ : Ex).eval is was = is nm) := by show _ = _; simp [Ex.eval]
      have HC := hide (HTI.out nm)
      have hk := HKD.out
      simp only [kindS] at hk
      clear hof
      go_enter Tryz.func9, Tryz.ntmps9
      go_wp2_with fail
      refine HC.out.mono ?_
      rintro e w1 ⟨rfl, rfl⟩
      go_wp2_with fail
      go_ret
      exact ⟨ret_bool HF.out.symm, rfl⟩
    | 3, _, HKD =>
      have HF : Hid ((⟨3, nm, l⟩ : Ex).eval is was = (is nm && !was nm)) := by show _ = _; simp [Ex.eval]
      have HC := hide (HTI.out nm)
      have HD := hide (HTW.out nm)
      generalize is nm = bi at *
      generalize was nm = bw at *
      have hk := HKD.out
      simp only [kindS] at hk
      clear hof
      cases bi with
      | false =>
        go_enter Tryz.func9, Tryz.ntmps9
        go_wp2_with fail
        refine HC.out.mono ?_
        rintro e w1 ⟨rfl, rfl⟩
        go_wp2_with fail
        go_ret
        exact ⟨ret_bool HF.out.symm, rfl⟩
      | true =>
        go_enter Tryz.func9, Tryz.ntmps9
        go_wp2_with fail
        refine HC.out.mono ?_
        rintro e w1 ⟨rfl, rfl⟩
        go_wp2_with fail
        refine HD.out.mono ?_
        rintro e w2 ⟨rfl, rfl⟩
        go_wp2_with fail
        go_ret
        exact ⟨ret_bool (by rw [HF.out]; rfl), rfl⟩
    | 4, _, HKD =>
      have HF : Hid ((⟨4, nm, l⟩ : Ex).eval is was = (!is nm && was nm)) := by show _ = _; simp [Ex.eval]
      have HC := hide (HTI.out nm)
      have HD := hide (HTW.out nm)
      generalize is nm = bi at *
      generalize was nm = bw at *
      have hk := HKD.out
      simp only [kindS] at hk
      clear hof
      cases bw with
      | false =>
        go_enter Tryz.func9, Tryz.ntmps9
        go_wp2_with fail
        refine HD.out.mono ?_
        rintro e w1 ⟨rfl, rfl⟩
        go_wp2_with fail
        go_ret
        exact ⟨ret_bool (by rw [HF.out]; cases bi <;> rfl), rfl⟩
      | true =>
        go_enter Tryz.func9, Tryz.ntmps9
        go_wp2_with fail
        refine HD.out.mono ?_
        rintro e w1 ⟨rfl, rfl⟩
        go_wp2_with fail
        refine HC.out.mono ?_
        rintro e w2 ⟨rfl, rfl⟩
        go_wp2_with fail
        go_ret
        exact ⟨ret_bool (by rw [HF.out]; cases bi <;> rfl), rfl⟩
    | 5, hwf, HKD =>
      have hl1 : l.length = 1 := by
        rcases hwf with h | h | h | h <;> omega
      have hk := HKD.out
      simp only [kindS] at hk
      match l, hl1, hof, HIH with
      | [y], _, hof, HIH =>
        rcases hof with ⟨h0, _⟩ | ⟨_, b, cap, rfl, hcap, _, hrow⟩
        · simp at h0
        · obtain ⟨gy, hcell, hy⟩ := hrow 0 _ rfl
          have HF : Hid ((⟨5, nm, [y]⟩ : Ex).eval is was = !(y.eval is was)) := by show _ = _; simp [Ex.eval]
          have HC := hide (HIH.out y (by simp) gy _ _ is was w hy HI.out HW.out)
          clear hrow hy
          simp only [List.length_singleton] at hsv hcap
          generalize y.eval is was = bv at *
          go_enter Tryz.func9, Tryz.ntmps9
          go_wp2_with fail
          refine HC.out.mono ?_
          rintro e w1 ⟨rfl, rfl⟩
          go_wp2_with fail
          go_ret
          exact ⟨ret_bool HF.out.symm, rfl⟩
    | 6, hwf, HKD =>
      have hk := HKD.out
      simp only [kindS] at hk
      have h2 : 2 ≤ l.length := by rcases hwf with h | h | h | h <;> omega
      rcases hof with ⟨h0, _⟩ | ⟨_, b, cap, rfl, hcap, _, hrow⟩
      · omega
      · have HROW := hide hrow
        obtain ⟨bs, hbs⟩ : ∃ bs, bs = l.map fun x => x.eval is was := ⟨_, rfl⟩
        have HF : Hid ((⟨6, nm, l⟩ : Ex).eval is was = bs.all id) := by show _ = _; rw [hbs]; simp [Ex.eval]
        have HBS := hide hbs
        obtain ⟨n, hn'⟩ : ∃ n, n = l.length := ⟨_, rfl⟩
        have HN := hide hn'
        have HBN : Hid (bs.length = n) := by show _ = _; rw [hbs, hn']; simp
        rw [← hn'] at hcap h2 hsv hln
        clear hn' hrow hwf hbs
        go_enter Tryz.func9, Tryz.ntmps9
        go_wp2_with fail
        go_loopw [78, 7] (fun i acc wr => ∃ k : Nat, k ≤ n ∧ i = .int .i64 (k : Int) ∧ acc = .int .i64 (cnt bs k : Int) ∧ wr = w) (fun i _ _ => n - (intOf i).toNat)
        case atStart => exact ⟨0, Nat.zero_le _, rfl, rfl, rfl⟩
        case round =>
          obtain ⟨j, hj, rfl, rfl, rfl⟩ := hrel
          by_cases hlt : j < n
          · have hjl : j < l.length := by rw [← HN.out]; exact hlt
            have hjb : j < bs.length := by rw [HBN.out]; exact hlt
            obtain ⟨gy, hcell, hxu⟩ := HROW.out j (IsRx (fun _ => True) wr l[j]) (by rw [List.getElem?_map, List.getElem?_eq_getElem hjl]; rfl)
            have HC := hide (HIH.out l[j] (List.getElem_mem hjl) gy _ _ is was wr hxu HI.out HW.out)
            have hev : bs[j] = l[j].eval is was := by simp [HBS.out]
            have HS := hide (cnt_succ bs j hjb)
            have hcl := cnt_le bs j
            rw [← hev] at HC
            clear hxu hev
            generalize bs[j] = bj at *
            generalize hA : cnt bs j = A at *
            generalize hA2 : cnt bs (j + 1) = A2 at *
            have HA2 := hide hA2
            clear hA hA2 hjl hjb
            cases bj with
            | true =>
              go_wp2_with fail
              refine HC.out.mono ?_
              rintro e w2 ⟨rfl, rfl⟩
              go_wp2_with fail
              go_roundw
              case rel => exact ⟨j + 1, by omega, by go_num, by rw [HA2.out, HS.out]; simp, trivial⟩
              case measure => simp [intOf]; omega
            | false =>
              go_wp2_with fail
              refine HC.out.mono ?_
              rintro e w2 ⟨rfl, rfl⟩
              go_wp2_with fail
              go_roundw
              case rel => exact ⟨j + 1, by omega, by go_num, by rw [HA2.out, HS.out]; simp, trivial⟩
              case measure => simp [intOf]; omega
          · have hjn : j = n := by omega
            subst hjn
            have hcl := cnt_le bs j
            have HC1 : Hid (((cnt bs j : Int) == (j : Int)) = bs.all id) := by show _ = _; have := cnt_all bs; rw [HBN.out] at this; exact this
            generalize cnt bs j = A at *
            go_wp2_with fail
            go_ret
            exact ⟨ret_bool (by rw [HF.out]; exact HC1.out), rfl⟩
    | 7, hwf, HKD =>
      have hk := HKD.out
      simp only [kindS] at hk
      have h2 : 2 ≤ l.length := by rcases hwf with h | h | h | h <;> omega
      rcases hof with ⟨h0, _⟩ | ⟨_, b, cap, rfl, hcap, _, hrow⟩
      · omega
      · have HROW := hide hrow
        obtain ⟨bs, hbs⟩ : ∃ bs, bs = l.map fun x => x.eval is was := ⟨_, rfl⟩
        have HF : Hid ((⟨7, nm, l⟩ : Ex).eval is was = bs.any id) := by show _ = _; rw [hbs]; simp [Ex.eval]
        have HBS := hide hbs
        obtain ⟨n, hn'⟩ : ∃ n, n = l.length := ⟨_, rfl⟩
        have HN := hide hn'
        have HBN : Hid (bs.length = n) := by show _ = _; rw [hbs, hn']; simp
        rw [← hn'] at hcap h2 hsv hln
        clear hn' hrow hwf hbs
        go_enter Tryz.func9, Tryz.ntmps9
        go_wp2_with fail
        go_loopw [78, 7] (fun i acc wr => ∃ k : Nat, k ≤ n ∧ i = .int .i64 (k : Int) ∧ acc = .int .i64 (cnt bs k : Int) ∧ wr = w) (fun i _ _ => n - (intOf i).toNat)
        case atStart => exact ⟨0, Nat.zero_le _, rfl, rfl, rfl⟩
        case round =>
          obtain ⟨j, hj, rfl, rfl, rfl⟩ := hrel
          by_cases hlt : j < n
          · have hjl : j < l.length := by rw [← HN.out]; exact hlt
            have hjb : j < bs.length := by rw [HBN.out]; exact hlt
            obtain ⟨gy, hcell, hxu⟩ := HROW.out j (IsRx (fun _ => True) wr l[j]) (by rw [List.getElem?_map, List.getElem?_eq_getElem hjl]; rfl)
            have HC := hide (HIH.out l[j] (List.getElem_mem hjl) gy _ _ is was wr hxu HI.out HW.out)
            have hev : bs[j] = l[j].eval is was := by simp [HBS.out]
            have HS := hide (cnt_succ bs j hjb)
            have hcl := cnt_le bs j
            rw [← hev] at HC
            clear hxu hev
            generalize bs[j] = bj at *
            generalize hA : cnt bs j = A at *
            generalize hA2 : cnt bs (j + 1) = A2 at *
            have HA2 := hide hA2
            clear hA hA2 hjl hjb
            cases bj with
            | true =>
              go_wp2_with fail
              refine HC.out.mono ?_
              rintro e w2 ⟨rfl, rfl⟩
              go_wp2_with fail
              go_roundw
              case rel => exact ⟨j + 1, by omega, by go_num, by rw [HA2.out, HS.out]; simp, trivial⟩
              case measure => simp [intOf]; omega
            | false =>
              go_wp2_with fail
              refine HC.out.mono ?_
              rintro e w2 ⟨rfl, rfl⟩
              go_wp2_with fail
              go_roundw
              case rel => exact ⟨j + 1, by omega, by go_num, by rw [HA2.out, HS.out]; simp, trivial⟩
              case measure => simp [intOf]; omega
          · have hjn : j = n := by omega
            subst hjn
            have hcl := cnt_le bs j
            have HC1 : Hid (decide ((0 : Int) < (cnt bs j : Int)) = bs.any id) := by show _ = _; have := cnt_any bs; rw [HBN.out] at this; exact this
            generalize cnt bs j = A at *
            cases hba : bs.any id with
            | true =>
              have h0 : (0 : Int) < (A : Int) := by have := HC1.out; rw [hba] at this; exact of_decide_eq_true this
              go_wp2_with fail
              go_ret
              exact ⟨ret_bool (by rw [HF.out, hba]), rfl⟩
            | false =>
              have h0 : ¬ (0 : Int) < (A : Int) := by have := HC1.out; rw [hba] at this; exact of_decide_eq_false this
              have h1 : ((0 : Int) == (j : Int)) = false := beq_eq_false_iff_ne.2 (by omega)
              go_wp2_with fail
              go_ret
              exact ⟨ret_bool (by rw [HF.out, hba]), rfl⟩
    | n + 8, hwf, _ => rcases hwf with h | h | h | h <;> omega
end Go.Proofs.YtmjlpcedeonhaaaGreatDoor
