/-
  The walks of package ladder's wrongName, wrongRung and Check. The walk of package ladder's Check. The walks of package ladder's numbers and Kind: the places of names of a kind.
-/
import Derived.Test.YtgdmohombcgjbaaGreatDoorLdNumberAll
import Derived.Maps.AppendAt
import Derived.Deep.AppendLies
namespace Go.Proofs.YtgdmohombcgjbaaGreatDoor
section
open Go.RowKit
theorem ret_int' {a b : Int} (h : a = b) : Ending.returned (.int .i64 a) = .returned (.int .i64 b) := by rw [h]
theorem Name_list (nm : List UInt8) (h : nm.length ≤ maxLen) (w : World) : Calls Tryz.prog 75 #[.string ⟨nm.toArray⟩] w fun e w' => e = .returned (.bool (Nm.name nm)) ∧ w' = w :=
  Name_any ⟨nm.toArray⟩ w (by show nm.toArray.size ≤ maxLen; simpa using h)
set_option maxHeartbeats 2000000 in
set_option maxRecDepth 100000 in
theorem wrongName_any (ns : List Ld.Nme) (nv rv : Value) (i : Nat) (y : Ld.Nme) (w : World) (hn : NamesAt w nv ns) (hr : ∃ a n c, rv = .slice a n c) (hi : ns[i]? = some y) :
    Calls Tryz.prog 46 #[.agg #[nv, rv], .int .i64 (i : Int)] w fun e w' => e = .returned (.int .i64 (Ld.wrongN ns i y : Nat)) ∧ Below w.heap.size w w' := by
  obtain ⟨ra, rn, rc, rfl⟩ := hr
  have HNA := hide hn
  rcases hn with ⟨rfl, _⟩ | ⟨g, cap, rfl, hcap, hlen, hcell⟩
  · simp at hi
  have hil : i < ns.length := by
    by_cases h : i < ns.length
    · exact h
    · rw [List.getElem?_eq_none (by omega)] at hi; cases hi
  obtain ⟨nm, kd, ct⟩ := y
  obtain ⟨e1, e2, e3, e4, e5, e6⟩ := hcell i _ hi
  have hg : g < w.heap.size := World.block_lt_of_cell? _ _ e1
  have HW : Hid (Ld.wrongN ns i ⟨nm, kd, ct⟩ = if Nm.name nm = false then 5 else if kd < 1 ∨ 4 < kd then 1 else if Ld.mayCount kd ct = false then 2 else if Ld.number ns nm < (i : Int) then 9 else 0) := rfl
  have HNUM : Hid (∀ (w : World) (nv : Value), NamesAt w nv ns → Calls Tryz.prog 77 #[.agg #[nv, .slice ra rn rc], .string ⟨nm.toArray⟩] w fun e w' => e = .returned (.int .i64 (Ld.number ns nm)) ∧ Below w.heap.size w w') := fun w nv h => Number_any ns nv _ nm w h ⟨_, _, _, rfl⟩
  have HNAME := hide (Name_list nm e4)
  simp only at e1 e2 e3
  generalize Ld.wrongN ns i ⟨nm, kd, ct⟩ = wr at *
  generalize Ld.number ns nm = num at *
  generalize hnn : ns.length = nn at *
  clear hcell hi e4 e5 e6 hnn
  cases hnm : Nm.name nm with
  | false =>
    have HF : Hid (wr = 5) := by show _ = _; rw [HW.out, if_pos hnm]
    rw [hnm] at HNAME
    clear HW hnm HNUM
    go_enter Tryz.func46, Tryz.ntmps46
    go_wp2_with (go_at_call 75; refine (HNAME.out _).mono ?_; rintro e w' ⟨rfl, rfl⟩)
    go_ret
    exact ⟨by rw [HF.out]; rfl, ((Below.refl _ _).alloc (Nat.le_refl _) _).alloc (by simp) _⟩
  | true =>
    rw [hnm] at HNAME
    have HBB : Hid (Below w.heap.size w ((w.alloc (.cells #[.slice (some ⟨g, 0, none⟩) nn cap, .slice ra rn rc] 28)).alloc (.cells #[.string ⟨nm.toArray⟩, .int .i64 kd, .int .i64 ct] 98))) := ((Below.refl _ _).alloc (Nat.le_refl _) _).alloc (by simp) _
    by_cases hk1 : kd < 1
    · have HF : Hid (wr = 1) := by show _ = _; rw [HW.out, if_neg (by simp [hnm]), if_pos (.inl hk1)]
      clear HW hnm HNUM
      go_enter Tryz.func46, Tryz.ntmps46
      go_wp2_with (go_at_call 75; refine (HNAME.out _).mono ?_; rintro e w' ⟨rfl, rfl⟩)
      go_ret
      exact ⟨by rw [HF.out]; rfl, HBB.out⟩
    by_cases hk2 : 4 < kd
    · have HF : Hid (wr = 1) := by show _ = _; rw [HW.out, if_neg (by simp [hnm]), if_pos (.inr hk2)]
      clear HW hnm HNUM
      go_enter Tryz.func46, Tryz.ntmps46
      go_wp2_with (go_at_call 75; refine (HNAME.out _).mono ?_; rintro e w' ⟨rfl, rfl⟩)
      go_ret
      exact ⟨by rw [HF.out]; rfl, HBB.out⟩
    cases hmc : Ld.mayCount kd ct with
    | false =>
      have HF : Hid (wr = 2) := by show _ = _; rw [HW.out, if_neg (by simp [hnm]), if_neg (by omega), if_pos hmc]
      clear HW hnm HNUM
      go_enter Tryz.func46, Tryz.ntmps46
      go_wp2_with (first | (go_at_call 75; refine (HNAME.out _).mono ?_; rintro e w' ⟨rfl, rfl⟩) | (go_at_call 76; refine (mayCount_any _ _ _).mono ?_; rintro e w' ⟨rfl, rfl⟩; rw [hmc]))
      go_ret
      exact ⟨by rw [HF.out]; rfl, HBB.out⟩
    | true =>
      have HF : Hid (wr = if num < (i : Int) then 9 else 0) := by show _ = _; rw [HW.out, if_neg (by simp [hnm]), if_neg (by omega), if_neg (by simp [hmc])]
      clear HW hnm
      have HC := hide (HNUM.out _ _ (HNA.out.below HBB.out))
      clear HNUM
      go_enter Tryz.func46, Tryz.ntmps46
      go_wp2_with (first | (go_at_call 75; refine (HNAME.out _).mono ?_; rintro e w' ⟨rfl, rfl⟩) | (go_at_call 76; refine (mayCount_any _ _ _).mono ?_; rintro e w' ⟨rfl, rfl⟩; rw [hmc]))
      refine HC.out.mono ?_
      rintro e w3 ⟨rfl, hb3⟩
      have HB3 := hide (HBB.out.trans (hb3.mono HBB.out.size))
      clear hb3 HC
      by_cases hlt : num < (i : Int)
      · go_wp2_with fail
        go_ret
        exact ⟨by rw [HF.out, if_pos hlt]; rfl, HB3.out⟩
      · go_wp2_with fail
        go_ret
        exact ⟨by rw [HF.out, if_neg (by omega)]; rfl, HB3.out⟩
set_option maxHeartbeats 4000000 in
set_option maxRecDepth 100000 in
theorem wrongRung_any (ns : List Ld.Nme) (nv rv v : Value) (r : Ld.Rng) (w : World) (hn : NamesAt w nv ns) (hr : ∃ a n c, rv = .slice a n c) (hc : CondAt w r.cond v) (hl : r.name.length ≤ maxLen) :
    Calls Tryz.prog 47 #[.agg #[nv, rv], .agg #[.int .i64 r.kind, .string ⟨r.name.toArray⟩, v]] w fun e w' => e = .returned (.int .i64 (Ld.wrongR ns r : Nat)) ∧ Below w.heap.size w w' := by
  obtain ⟨ra, rn, rc, rfl⟩ := hr
  have HNA := hide hn
  obtain ⟨na, nc, rfl, _⟩ := hn.slice
  obtain ⟨kd, nm, cond⟩ := r
  simp only at hc hl
  have HNUM := hide (fun (w : World) (s : List UInt8) (h : NamesAt w (.slice na ns.length nc) ns) => Number_any ns _ (.slice ra rn rc) s w h ⟨_, _, _, rfl⟩)
  clear hn
  obtain ⟨n, hnn⟩ : ∃ n, n = ns.length := ⟨_, rfl⟩
  have HN := hide hnn
  rw [← hnn] at HNUM HNA
  rw [← hnn]
  clear hnn
  have HCA := hide hc
  have hv : v = .nilIface ∨ ∃ tu yu, v = .iface tu yu := by
    cases cond with
    | none => exact .inl hc
    | some x => obtain ⟨tu, yu, h⟩ := IsEx.iface x v hc.1; exact .inr ⟨tu, yu, h⟩
  clear hc
  by_cases hk1 : kd < 1
  · have HF : Hid (Ld.wrongR ns ⟨kd, nm, cond⟩ = 1) := by show _ = _; rw [Ld.wrongR, if_pos (.inl hk1)]
    clear HNUM HNA HCA
    rcases hv with rfl | ⟨tu, yu, rfl⟩
    all_goals
      go_enter Tryz.func47, Tryz.ntmps47
      go_wp2_with fail
      go_ret
      exact ⟨by rw [HF.out]; rfl, ((Below.refl _ _).alloc (Nat.le_refl _) _).alloc (by simp) _⟩
  by_cases hk2 : 6 < kd
  · have HF : Hid (Ld.wrongR ns ⟨kd, nm, cond⟩ = 1) := by show _ = _; rw [Ld.wrongR, if_pos (.inr hk2)]
    clear HNUM HNA HCA
    rcases hv with rfl | ⟨tu, yu, rfl⟩
    all_goals
      go_enter Tryz.func47, Tryz.ntmps47
      go_wp2_with fail
      go_ret
      exact ⟨by rw [HF.out]; rfl, ((Below.refl _ _).alloc (Nat.le_refl _) _).alloc (by simp) _⟩
  cases cond with
  | none =>
    obtain rfl : v = .nilIface := HCA.out
    have HF : Hid (Ld.wrongR ns ⟨kd, nm, none⟩ = 1) := by show _ = _; rw [Ld.wrongR, if_neg (by show ¬ (kd < 1 ∨ 6 < kd); omega)]
    clear HNUM HNA HCA hv
    go_enter Tryz.func47, Tryz.ntmps47
    go_wp2_with fail
    go_ret
    exact ⟨by rw [HF.out]; rfl, ((Below.refl _ _).alloc (Nat.le_refl _) _).alloc (by simp) _⟩
  | some x =>
    obtain ⟨hx, hxs, _⟩ := HCA.out
    obtain ⟨tu, yu, rfl⟩ := IsEx.iface x v hx
    have HF : Hid (Ld.wrongR ns ⟨kd, nm, some x⟩ = if Ld.number ns nm < 0 then 7 else if Ld.kindAt ns (Ld.number ns nm) ≠ Ld.kindOf kd then 1 else if Ld.known ns x then 0 else 7) := by show _ = _; rw [Ld.wrongR, if_neg (by show ¬ (kd < 1 ∨ 6 < kd); omega)]
    obtain ⟨wA, hwA⟩ : ∃ wA, wA = (w.alloc (.cells #[.slice na n nc, .slice ra rn rc] 28)).alloc (.cells #[.int .i64 kd, .string ⟨nm.toArray⟩, .iface tu yu] 48) := ⟨_, rfl⟩
    have hbA : Below w.heap.size w wA := by rw [hwA]; exact ((Below.refl _ _).alloc (Nat.le_refl _) _).alloc (by simp) _
    have hsA : wA.heap.size = w.heap.size + 1 + 1 := by rw [hwA]; simp
    have HBX : Hid (∀ W, Below wA.heap.size wA W → (W.cell? ⟨w.heap.size, 0, none⟩ = some (.slice na n nc) ∧ W.cell? ⟨w.heap.size, 1, none⟩ = some (.slice ra rn rc)) ∧ W.cell? ⟨w.heap.size + 1, 0, none⟩ = some (.int .i64 kd) ∧ W.cell? ⟨w.heap.size + 1, 1, none⟩ = some (.string ⟨nm.toArray⟩) ∧ W.cell? ⟨w.heap.size + 1, 2, none⟩ = some (.iface tu yu)) := by
      intro W hW
      have q1 : w.heap.size < wA.heap.size := by omega
      have q2 : w.heap.size + 1 < wA.heap.size := by omega
      rw [hW.cell (p := ⟨w.heap.size, 0, none⟩) q1, hW.cell (p := ⟨w.heap.size, 1, none⟩) q1, hW.cell (p := ⟨w.heap.size + 1, 0, none⟩) q2, hW.cell (p := ⟨w.heap.size + 1, 1, none⟩) q2, hW.cell (p := ⟨w.heap.size + 1, 2, none⟩) q2, hwA]
      simp [go_sem]
    have HBA := hide hbA
    have HSA := hide hsA
    have HWA := hide hwA
    have HX := hide hx
    have HC := hide (HNUM.out wA nm (HNA.out.below hbA))
    have hg1 := Ld.number_ge ns nm
    have hg2 := Ld.number_lt ns nm
    rw [← HN.out] at hg2
    clear hbA hsA hwA hv hx HCA
    obtain ⟨num, hnum⟩ : ∃ num, num = Ld.number ns nm := ⟨_, rfl⟩
    rw [← hnum] at HF HC hg1 hg2
    rw [HWA.out] at HC
    have HNM := hide hnum
    clear hnum
    go_enter Tryz.func47, Tryz.ntmps47
    go_wp2_with fail
    refine HC.out.mono ?_
    rintro e w3 ⟨rfl, hb3⟩
    rw [← HWA.out] at hb3
    have HB3 := hide hb3
    have HB3w := hide (HBA.out.trans (hb3.mono HBA.out.size))
    obtain ⟨⟨p0, p1⟩, q0, q1, q2⟩ := HBX.out w3 hb3
    clear hb3 HC
    by_cases hlt : num < 0
    · have HE : Hid (Ld.wrongR ns ⟨kd, nm, some x⟩ = 7) := by show _ = _; rw [HF.out, if_pos hlt]
      go_wp2_with fail
      go_ret
      exact ⟨by rw [HE.out]; rfl, HB3w.out⟩
    · obtain ⟨k, rfl⟩ : ∃ k : Nat, num = (k : Int) := ⟨num.toNat, by omega⟩
      have hkn : k < n := by omega
      obtain ⟨y, hy⟩ : ∃ y, ns[k]? = some y := ⟨ns[k]'(by rw [← HN.out]; exact hkn), List.getElem?_eq_getElem _⟩
      have HE : Hid (Ld.wrongR ns ⟨kd, nm, some x⟩ = if y.kind ≠ Ld.kindOf kd then 1 else if Ld.known ns x then 0 else 7) := by
        show _ = _
        rw [HF.out, if_neg hlt]
        have : Ld.kindAt ns (k : Int) = y.kind := by rw [Ld.kindAt]; simp [hy]
        rw [this]
      obtain ⟨g, rfl, hca, hyk⟩ : ∃ g, na = some ⟨g, 0, none⟩ ∧ n ≤ nc ∧ w3.cell? ⟨g, k * 3 + 1, none⟩ = some (.int .i64 y.kind) := by
        rcases HNA.out.below HB3w.out with ⟨h0, _⟩ | ⟨g, cap, h1, h2, h3, h4⟩
        · rw [h0] at hy; simp at hy
        · simp only [Value.slice.injEq] at h1
          exact ⟨g, h1.1, by rw [h1.2.2, h1.2.1]; exact h2, (h4 k y hy).2.1⟩
      clear hy HF
      generalize y.kind = yk at *
      generalize hK : Ld.kindOf kd = kk at *
      by_cases hkk : yk = kk
      · have HE2 : Hid (Ld.wrongR ns ⟨kd, nm, some x⟩ = if Ld.known ns x then 0 else 7) := by show _ = _; rw [HE.out, if_neg (by simpa using hkk)]
        have hkb : (yk != kk) = false := by simp [hkk]
        clear HE hkk
        go_wp2_with fail
        go_quiet (first | (go_at_call 78; refine Calls.quiet_of_same (kindOf_any _ _)))
        have HB4 : Hid (Below wA.heap.size wA (w3.drewN nq)) := ⟨HB3.out.os, HB3.out.tape, HB3.out.output, HB3.out.size, HB3.out.block⟩
        have HB4w := hide (HBA.out.trans (HB4.out.mono HBA.out.size))
        have HNC := hide (Names_any _ x _ (w3.drewN nq) (HX.out.aft HB4w.out) hxs)
        go_wp2_with fail
        refine HNC.out.mono ?_
        rintro e w5 ⟨sv, rfl, hsv, hb5⟩
        have HB5 := hide (HB4.out.trans (hb5.mono HB4.out.size))
        have HSV := hide hsv
        have HKN : Hid (Ld.known ns x = (ordered (x.named true)).all fun s => decide (0 ≤ Ld.number ns s)) := by
          show _ = _
          unfold Ld.known
          rw [Bool.eq_iff_iff, List.all_eq_true, List.all_eq_true]
          exact ⟨fun h s hs => h s ((mem_ordered _ _).1 hs), fun h s hs => h s ((mem_ordered _ _).2 hs)⟩
        generalize ordered (x.named true) = os at *
        have hab : ∀ (l : List (List UInt8)) (k : Nat), l[k]? = none ∨ ∃ s, l[k]? = some s := fun l k => by cases l[k]? with | none => exact .inl rfl | some s => exact .inr ⟨s, rfl⟩
        clear HNC hb5 hab
        rcases hsv with ⟨h0, a, cap, rfl⟩ | ⟨gs, o, cap, rfl, hcap, hlen5, hcell5⟩
        · have hos : os = [] := by simpa using h0
          subst hos
          have HE3 : Hid (Ld.wrongR ns ⟨kd, nm, some x⟩ = 0) := by show _ = _; rw [HE2.out, HKN.out]; rfl
          clear h0 HSV
          go_wp2_with fail
          go_loopw [41] (fun i wr => i = .int .i64 0 ∧ wr = w5) (fun _ _ => 0)
          case atStart => exact ⟨rfl, rfl⟩
          case round =>
            obtain ⟨rfl, rfl⟩ := hrel
            go_wp2_with fail
            go_ret
            exact ⟨by rw [HE3.out]; rfl, HBA.out.trans (HB5.out.mono HBA.out.size)⟩
        · rw [List.length_map] at hcap hlen5
          have elen : (os.map toBA).length = os.length := by simp
          rw [elen]
          obtain ⟨m, hm⟩ : ∃ m, m = os.length := ⟨_, rfl⟩
          have HM := hide hm
          have HC5 := hide hcell5
          rw [← hm] at hcap hlen5
          rw [← hm]
          clear hm hcell5 HSV elen
          go_wp2_with fail
          go_loopw [41] (fun i wr => ∃ j : Nat, j ≤ m ∧ i = .int .i64 (j : Int) ∧ Hid ((os.take j).all (fun s => decide (0 ≤ Ld.number ns s)) = true) ∧ Hid (Below w5.heap.size w5 wr)) (fun i _ => m - (intOf i).toNat)
          case atStart => exact ⟨0, Nat.zero_le _, rfl, rfl, Below.refl _ _⟩
          case round =>
            obtain ⟨j, hj, rfl, HALL, HBr⟩ := hrel
            have HBA5 := hide (HB5.out.trans (HBr.out.mono HB5.out.size))
            have HW5 := hide (HBA.out.trans (HBA5.out.mono HBA.out.size))
            by_cases hlt : j < m
            · have hjl : j < os.length := by rw [← HM.out]; exact hlt
              have hcj := HC5.out j (toBA os[j]) (by rw [List.getElem?_map, List.getElem?_eq_getElem hjl]; rfl)
              have hcr := (HBr.out.cell (World.block_lt_of_cell? _ _ hcj)).trans hcj
              unfold toBA at hcr
              obtain ⟨⟨p0, p1⟩, _⟩ := HBX.out wr HBA5.out
              have HCJ := hide (HNUM.out wr os[j] (HNA.out.below HW5.out))
              have HNX : Hid ((os.take (j + 1)).all (fun s => decide (0 ≤ Ld.number ns s)) = decide (0 ≤ Ld.number ns os[j])) := by
                show _ = _
                rw [List.take_succ_eq_append_getElem hjl, List.all_append, HALL.out]; simp
              have HBAD : Hid (¬ 0 ≤ Ld.number ns os[j] → Ld.known ns x = false) := fun h => by
                rw [HKN.out, List.all_eq_false]
                exact ⟨os[j], List.getElem_mem hjl, by simpa using h⟩
              clear hcj
              generalize os[j] = s at *
              generalize Ld.number ns s = nu at *
              go_wp2_with fail
              refine HCJ.out.mono ?_
              rintro e w6 ⟨rfl, hb6⟩
              have HB6 := hide (HBr.out.trans (hb6.mono HBr.out.size))
              clear hb6 HCJ
              by_cases hnu : nu < 0
              · have HE3 : Hid (Ld.wrongR ns ⟨kd, nm, some x⟩ = 7) := by show _ = _; rw [HE2.out, HBAD.out (by omega)]; rfl
                go_wp2_with fail
                go_ret
                exact ⟨by rw [HE3.out]; rfl, HBA.out.trans ((HB5.out.trans (HB6.out.mono HB5.out.size)).mono HBA.out.size)⟩
              · have HA2 : Hid ((os.take (j + 1)).all (fun s => decide (0 ≤ Ld.number ns s)) = true) := by show _ = _; rw [HNX.out]; simp; omega
                go_wp2_with fail
                go_roundw
                case rel => exact ⟨j + 1, by omega, by go_num, HA2.out, HB6.out⟩
                case measure => simp [intOf]; omega
            · have hjm : j = m := by omega
              subst hjm
              have HE3 : Hid (Ld.wrongR ns ⟨kd, nm, some x⟩ = 0) := by
                show _ = _
                have := HALL.out
                rw [List.take_of_length_le (by rw [HM.out]; exact Nat.le_refl _)] at this
                rw [HE2.out, HKN.out, this]; rfl
              go_wp2_with fail
              go_ret
              exact ⟨by rw [HE3.out]; rfl, HW5.out⟩
      · have HE2 : Hid (Ld.wrongR ns ⟨kd, nm, some x⟩ = 1) := by show _ = _; rw [HE.out, if_pos hkk]
        have hkb : (yk != kk) = true := by simpa using hkk
        clear HE hkk
        go_wp2_with fail
        go_quiet (first | (go_at_call 78; refine Calls.quiet_of_same (kindOf_any _ _)))
        go_wp2_with fail
        go_ret
        exact ⟨by rw [HE2.out]; rfl, ⟨HB3w.out.os, HB3w.out.tape, HB3w.out.output, HB3w.out.size, HB3w.out.block⟩⟩
end
section
open Go.RowKit
/-- what is answered where something is wrong, or nothing -/
def ErrIs (w : World) (er : Value) : Option (Nat × Option Nat) → Prop
  | none => er = .nilIface
  | some (e, none) => er = .iface 66 (.int .i64 (e : Int))
  | some (e, some p) => ∃ a, er = .iface 88 (.pointer (some ⟨a, 0, none⟩)) ∧ w.cell? ⟨a, 0, none⟩ = some (.int .i64 (e : Int)) ∧ w.cell? ⟨a, 1, none⟩ = some (.int .i64 (p : Int))
theorem ErrIs.below {w w' : World} {er : Value} {r : Option (Nat × Option Nat)} (h : ErrIs w er r) (hb : Below w.heap.size w w') : ErrIs w' er r := by
  match r, h with
  | none, h => exact h
  | some (e, none), h => exact h
  | some (e, some p), ⟨a, h1, h2, h3⟩ => exact ⟨a, h1, (hb.cell (World.block_lt_of_cell? _ _ h2)).trans h2, (hb.cell (World.block_lt_of_cell? _ _ h3)).trans h3⟩
namespace Ld
theorem check_many (p : Prg) (h : 12 < p.names.length ∨ 40 < p.rungs.length) : check p = some (4, none) := by rw [check, if_pos h]
theorem check_name (p : Prg) (h : ¬ (12 < p.names.length ∨ 40 < p.rungs.length)) (k : Nat) (hb : bad (nameAt p.names) k = none) (hk : k < p.names.length) (hw : nameAt p.names k ≠ 0) : check p = some (nameAt p.names k, some k) := by
  rw [check, if_neg h, bad_hit _ k _ hb hw hk]
theorem check_rung (p : Prg) (h : ¬ (12 < p.names.length ∨ 40 < p.rungs.length)) (hn : bad (nameAt p.names) p.names.length = none) (k : Nat) (hb : bad (rungAt p) k = none) (hk : k < p.rungs.length) (hw : rungAt p k ≠ 0) : check p = some (rungAt p k, some (p.names.length + k)) := by
  rw [check, if_neg h, hn, bad_hit _ k _ hb hw hk]
theorem check_none (p : Prg) (h : ¬ (12 < p.names.length ∨ 40 < p.rungs.length)) (hn : bad (nameAt p.names) p.names.length = none) (hr : bad (rungAt p) p.rungs.length = none) : check p = none := by
  rw [check, if_neg h, hn, hr]
end Ld
set_option maxHeartbeats 4000000 in
set_option maxRecDepth 100000 in
theorem Check_any (p : Ld.Prg) (v : Value) (w : World) (h : IsPrg w p v) :
    Calls Tryz.prog 21 #[v] w fun e w' => ∃ er, e = .returned er ∧ ErrIs w' er (Ld.check p) ∧ Below w.heap.size w w' := by
  obtain ⟨nv, rv, rfl, hn, hr⟩ := h
  have HNA := hide hn
  have HRA := hide hr
  obtain ⟨na, nc, rfl, hn1⟩ := hn.slice
  obtain ⟨ra, rc, rfl, hr1⟩ := hr.slice
  have HW1 := hide (fun (w : World) (i : Nat) (y : Ld.Nme) (h : NamesAt w (.slice na p.names.length nc) p.names) (hi : p.names[i]? = some y) => wrongName_any p.names _ (.slice ra p.rungs.length rc) i y w h ⟨_, _, _, rfl⟩ hi)
  have HW2 := hide (fun (w : World) (v : Value) (r : Ld.Rng) (h : NamesAt w (.slice na p.names.length nc) p.names) (hc : CondAt w r.cond v) (hl : r.name.length ≤ maxLen) => wrongRung_any p.names _ (.slice ra p.rungs.length rc) v r w h ⟨_, _, _, rfl⟩ hc hl)
  have HMANY := hide (Ld.check_many p)
  have HNM := hide (Ld.check_name p)
  have HRG := hide (Ld.check_rung p)
  have HNO := hide (Ld.check_none p)
  clear hn hr
  obtain ⟨n, hnn⟩ : ∃ n, n = p.names.length := ⟨_, rfl⟩
  obtain ⟨m, hmm⟩ : ∃ m, m = p.rungs.length := ⟨_, rfl⟩
  have HN := hide hnn
  have HM := hide hmm
  rw [← hnn] at HW1 HW2 HNA HMANY HNM HRG HNO hn1
  rw [← hmm] at HW1 HW2 HRA HMANY HNM HRG HNO hr1
  rw [← hnn, ← hmm]
  clear hnn hmm
  by_cases h12 : 12 < n
  · have HF := hide (HMANY.out (.inl h12))
    clear HNM HRG HNO HMANY HW1 HW2 HNA HRA
    go_enter Tryz.func21, Tryz.ntmps21
    go_wp2_with fail
    go_ret
    exact ⟨_, rfl, by rw [HF.out]; rfl, (Below.refl _ _).alloc (Nat.le_refl _) _⟩
  by_cases h40 : 40 < m
  · have HF := hide (HMANY.out (.inr h40))
    clear HNM HRG HNO HMANY HW1 HW2 HNA HRA
    go_enter Tryz.func21, Tryz.ntmps21
    go_wp2_with fail
    go_ret
    exact ⟨_, rfl, by rw [HF.out]; rfl, (Below.refl _ _).alloc (Nat.le_refl _) _⟩
  have hnot : ¬ (12 < n ∨ 40 < m) := by omega
  obtain ⟨wA, hwA⟩ : ∃ wA, wA = w.alloc (.cells #[.slice na n nc, .slice ra m rc] 28) := ⟨_, rfl⟩
  have hbA : Below w.heap.size w wA := by rw [hwA]; exact (Below.refl _ _).alloc (Nat.le_refl _) _
  have HBX : Hid (∀ W, Below wA.heap.size wA W → W.cell? ⟨w.heap.size, 0, none⟩ = some (.slice na n nc) ∧ W.cell? ⟨w.heap.size, 1, none⟩ = some (.slice ra m rc)) := by
    intro W hW
    have q1 : w.heap.size < wA.heap.size := by rw [hwA]; simp
    rw [hW.cell (p := ⟨w.heap.size, 0, none⟩) q1, hW.cell (p := ⟨w.heap.size, 1, none⟩) q1, hwA]
    simp [go_sem]
  have HBA := hide hbA
  have HWA := hide hwA
  have HNOT := hide hnot
  clear hbA hwA HMANY hnot
  go_enter Tryz.func21, Tryz.ntmps21
  go_wp2_with fail
  rw [← HWA.out]
  go_loopw [22] (fun i wr => ∃ k : Nat, k ≤ n ∧ i = .int .i64 (k : Int) ∧ Hid (Ld.bad (Ld.nameAt p.names) k = none) ∧ Hid (Below wA.heap.size wA wr)) (fun i _ => n - (intOf i).toNat)
  case atStart => exact ⟨0, Nat.zero_le _, rfl, rfl, Below.refl _ _⟩
  case round =>
    obtain ⟨k, hk, rfl, HBAD, HBr⟩ := hrel
    have HBw := hide (HBA.out.trans (HBr.out.mono HBA.out.size))
    obtain ⟨p0, p1⟩ := HBX.out wr HBr.out
    by_cases hlt : k < n
    · have hkl : k < p.names.length := by rw [← HN.out]; exact hlt
      have HC := hide (HW1.out wr k p.names[k] (HNA.out.below HBw.out) (List.getElem?_eq_getElem hkl))
      rw [← Ld.nameAt_at p.names k hkl] at HC
      have HHIT := hide (HNM.out HNOT.out k HBAD.out hlt)
      have HON := hide (Ld.bad_on (Ld.nameAt p.names) k HBAD.out)
      generalize Ld.nameAt p.names k = q at *
      go_wp2_with fail
      refine HC.out.mono ?_
      rintro e w2 ⟨rfl, hb2⟩
      have HB2 := hide (HBr.out.trans (hb2.mono HBr.out.size))
      clear hb2 HC
      by_cases hq : q = 0
      · have HON2 := hide (HON.out hq)
        subst hq
        go_wp2_with fail
        go_roundw
        case rel => exact ⟨k + 1, by omega, by go_num, HON2.out, HB2.out⟩
        case measure => simp [intOf]; omega
      · have hqb : ((q : Int) != 0) = true := by simpa using hq
        have HF := hide (HHIT.out hq)
        go_wp2_with fail
        go_ret
        refine ⟨_, rfl, ?_, ?_⟩
        · rw [HF.out]
          exact ⟨w2.heap.size, rfl, by simp [go_sem], by simp [go_sem]⟩
        · exact (HBA.out.trans (HB2.out.mono HBA.out.size)).alloc (Nat.le_trans HBA.out.size HB2.out.size) _
    · have hkn : k = n := by omega
      subst hkn
      have HBADN := HBAD
      clear HBAD HNM HW1 hlt hk
      go_wp2_with fail
      go_loopw [39] (fun i wr => ∃ j : Nat, j ≤ m ∧ i = .int .i64 (j : Int) ∧ Hid (Ld.bad (Ld.rungAt p) j = none) ∧ Hid (Below wA.heap.size wA wr)) (fun i _ => m - (intOf i).toNat)
      case atStart => exact ⟨0, Nat.zero_le _, rfl, rfl, HBr.out⟩
      case round =>
        obtain ⟨j, hj, rfl, HBAD, HBq⟩ := hrel
        have HBw2 := hide (HBA.out.trans (HBq.out.mono HBA.out.size))
        by_cases hlt : j < m
        · have hjl : j < p.rungs.length := by rw [← HM.out]; exact hlt
          obtain ⟨g, rfl, hca, u, e1, e2, e3, e4, e5, e6⟩ : ∃ g, ra = some ⟨g, 0, none⟩ ∧ m ≤ rc ∧ RungAt w g j p.rungs[j] := by
            rcases HRA.out with ⟨h0, _⟩ | ⟨g, cap, h1, h2, h3, h4⟩
            · rw [h0] at hjl; simp at hjl
            · simp only [Value.slice.injEq] at h1
              exact ⟨g, h1.1, by rw [h1.2.2, h1.2.1]; exact h2, h4 j _ (List.getElem?_eq_getElem hjl)⟩
          have c1 := (HBw2.out.cell (World.block_lt_of_cell? _ _ e1)).trans e1
          have c2 := (HBw2.out.cell (World.block_lt_of_cell? _ _ e2)).trans e2
          have c3 := (HBw2.out.cell (World.block_lt_of_cell? _ _ e3)).trans e3
          have hgw : g < wr.heap.size := World.block_lt_of_cell? _ _ c1
          have hu : u = .nilIface ∨ ∃ tu yu, u = .iface tu yu := by
            cases hcd : p.rungs[j].cond with
            | none => rw [hcd] at e6; exact .inl e6
            | some x => rw [hcd] at e6; obtain ⟨tu, yu, h⟩ := IsEx.iface x u e6.1; exact .inr ⟨tu, yu, h⟩
          obtain ⟨wB, hwB⟩ : ∃ wB, wB = wr.alloc (.cells #[.int .i64 p.rungs[j].kind, .string ⟨p.rungs[j].name.toArray⟩, u] 48) := ⟨_, rfl⟩
          have hbB : Below wA.heap.size wA wB := by rw [hwB]; exact HBq.out.alloc HBq.out.size _
          have hbBw : Below w.heap.size w wB := HBA.out.trans (hbB.mono HBA.out.size)
          have HC := hide (HW2.out wB u p.rungs[j] (HNA.out.below hbBw) (e6.below hbBw) e4)
          rw [← Ld.rungAt_at p j hjl] at HC
          obtain ⟨p0', p1'⟩ := HBX.out wr HBq.out
          have HHIT := hide (HRG.out HNOT.out HBADN.out j HBAD.out hlt)
          have HON := hide (Ld.bad_on (Ld.rungAt p) j HBAD.out)
          have HBB := hide hbB
          have HWB := hide hwB
          have hw0 : w.heap.size < wr.heap.size := World.block_lt_of_cell? _ _ p0'
          clear e1 e2 e3 e4 e5 e6 hbB hbBw hwB
          rw [HWB.out] at HC
          generalize Ld.rungAt p j = q at *
          generalize p.rungs[j] = y at *
          obtain ⟨yk, yn, yc⟩ := y
          simp only at c1 c2 HC HWB
          rcases hu with rfl | ⟨tu, yu, rfl⟩
          all_goals
            go_wp2_with fail
            refine HC.out.mono ?_
            rintro e w2 ⟨rfl, hb2⟩
            rw [← HWB.out] at hb2
            have HB2 := hide (HBB.out.trans (hb2.mono HBB.out.size))
            obtain ⟨p0'', p1''⟩ := HBX.out w2 HB2.out
            clear hb2 HC
            by_cases hq : q = 0
            · have HON2 := hide (HON.out hq)
              subst hq
              go_wp2_with fail
              go_roundw
              case rel => exact ⟨j + 1, by omega, by go_num, HON2.out, HB2.out⟩
              case measure => simp [intOf]; omega
            · have hqb : ((q : Int) != 0) = true := by simpa using hq
              have HF := hide (HHIT.out hq)
              go_wp2_with fail
              go_ret
              refine ⟨_, rfl, ?_, ?_⟩
              · rw [HF.out]
                exact ⟨w2.heap.size, rfl, by simp [go_sem], by simp [go_sem]⟩
              · exact (HBA.out.trans (HB2.out.mono HBA.out.size)).alloc (Nat.le_trans HBA.out.size HB2.out.size) _
        · have hjm : j = m := by omega
          have HF := hide (HNO.out HNOT.out HBADN.out (hjm ▸ HBAD.out))
          subst hjm
          go_wp2_with fail
          go_ret
          exact ⟨_, rfl, by rw [HF.out]; rfl, HBw2.out⟩
end
section
open Go.RowKit
theorem own_below {W W' : World} {q : Nat} {e : TypeId} {s : Nat} {v : Value} {n : Nat} {xs : List Value} (h : W.ownsRow q e s v n xs) (hb : Below W.heap.size W W') : W'.ownsRow q e s v n xs :=
  h.kept (grown_below hb) (by cases v.ownBlock with | none => exact .inl rfl | some g => exact .inr (by simp))
theorem own_mono {W : World} {q q' : Nat} {e : TypeId} {s : Nat} {v : Value} {n : Nat} {xs : List Value} (h : W.ownsRow q e s v n xs) (hq : q' ≤ q) : W.ownsRow q' e s v n xs := by
  refine ⟨h.1, ?_⟩
  rcases h.2 with h1 | ⟨g, cap, cur, h1, h2, h3⟩
  · exact .inl h1
  · exact .inr ⟨g, cap, cur, h1, Nat.le_trans hq h2, h3⟩
set_option maxHeartbeats 4000000 in
set_option maxRecDepth 100000 in
theorem numbers_any (ns : List Ld.Nme) (nv rv f : Value) (p : Ld.Nme → Bool) (w : World) (hn : NamesAt w nv ns) (hr : ∃ a n c, rv = .slice a n c) (hf : NPred w f p) :
    Calls Tryz.prog 48 #[.agg #[nv, rv], f] w fun e w' => ∃ v, e = .returned v ∧ w'.ownsRow w.heap.size 3 1 v (Ld.placesTo p ns ns.length).length ((Ld.placesTo p ns ns.length).map intV) ∧ Below w.heap.size w w' := by
  obtain ⟨ra, rn, rc, rfl⟩ := hr
  obtain ⟨i0, hi0, hz0, hz1, hz2⟩ := info_parts Tryz.infoInt
  obtain ⟨K, c, rfl, hent, hp⟩ := hf
  have hent' : ∀ (args : Array Value) (w : World), (callFunc K args).run Tryz.prog w = .ok (.enter K args) w := hent
  have HP := hide hp
  have HNA := hide hn
  obtain ⟨na, nc, rfl, hlen⟩ := hn.slice
  clear hent hp hn
  obtain ⟨n, hnn⟩ : ∃ n, n = ns.length := ⟨_, rfl⟩
  have HN := hide hnn
  rw [← hnn] at HNA hlen
  rw [← hnn]
  clear hnn
  obtain ⟨wA, hwA⟩ : ∃ wA, wA = w.alloc (.cells #[.slice na n nc, .slice ra rn rc] 28) := ⟨_, rfl⟩
  have hbA : Below w.heap.size w wA := by rw [hwA]; exact (Below.refl _ _).alloc (Nat.le_refl _) _
  have HWA := hide hwA
  have HBA := hide hbA
  go_enter Tryz.func48, Tryz.ntmps48
  go_wp2_with fail
  rw [← hwA]
  clear hwA hbA
  go_loopw [5, 11] (fun l i wr => ∃ k : Nat, k ≤ n ∧ i = .int .i64 (k : Int) ∧ (∃ a c, l = .slice a (Ld.placesTo p ns k).length c) ∧ Hid (wr.ownsRow w.heap.size 3 1 l (Ld.placesTo p ns k).length ((Ld.placesTo p ns k).map intV)) ∧ Hid (Below w.heap.size w wr)) (fun _ i _ => n - (intOf i).toNat)
  case atStart => exact ⟨0, Nat.zero_le _, rfl, ⟨_, _, rfl⟩, World.ownsRow_nil _ _ _ _, HBA.out⟩
  case round =>
    obtain ⟨k, hk, rfl, ⟨la, lc, rfl⟩, HO, HB⟩ := hrel
    have hple := Ld.placesTo_le p ns k
    by_cases hlt : k < n
    · have hkl : k < ns.length := by rw [← HN.out]; exact hlt
      obtain ⟨g, rfl, hca, e1, e2, e3, e4, e5⟩ : ∃ g, na = some ⟨g, 0, none⟩ ∧ n ≤ nc ∧ NameAt wr g k ns[k] := by
        rcases HNA.out.below HB.out with ⟨h0, _⟩ | ⟨g, cap, h1, h2, h3, h4⟩
        · rw [h0] at hkl; simp at hkl
        · simp only [Value.slice.injEq] at h1
          exact ⟨g, h1.1, by rw [h1.2.2, h1.2.1]; exact h2, h4 k _ (List.getElem?_eq_getElem hkl)⟩
      have HSU := hide (Ld.placesTo_succ p ns k hkl)
      have hgw : g < wr.heap.size := World.block_lt_of_cell? _ _ e1
      have HCALL := hide (fun W hW => HP.out ns[k] W hW e4)
      clear e4 e5
      generalize ns[k] = y at *
      obtain ⟨ynm, yk, yc⟩ := y
      simp only at e1 e2 e3
      obtain ⟨wB, hwB⟩ : ∃ wB, wB = wr.alloc (.cells #[.string ⟨ynm.toArray⟩, .int .i64 yk, .int .i64 yc] 98) := ⟨_, rfl⟩
      have hbB : Below wr.heap.size wr wB := by rw [hwB]; exact (Below.refl _ _).alloc (Nat.le_refl _) _
      have HC := hide (HCALL.out wB (HB.out.trans (hbB.mono HB.out.size)))
      have HWB := hide hwB
      have HBB := hide hbB
      rw [hwB] at HC
      clear hwB hbB HCALL
      generalize hpl : Ld.placesTo p ns k = pl at *
      go_wp2_with fail
      refine HC.out.mono ?_
      rintro e w1 ⟨rfl, hb1⟩
      rw [← HWB.out] at hb1
      have hb2 : Below wr.heap.size wr w1 := HBB.out.trans (hb1.mono HBB.out.size)
      have HB1 := hide (HB.out.trans (hb2.mono HB.out.size))
      have HO1 := hide (own_below HO.out hb2)
      have HQ := HB1.out.size
      clear hb1 hb2 HC
      cases hpy : p ⟨ynm, yk, yc⟩ with
      | true =>
        rw [hpy] at HSU
        have HOWN : Hid (∀ o, (w1.alloc o).ownsRow w.heap.size 3 1 (.slice la pl.length lc) pl.length (pl.map intV)) := fun o => HO1.out.alloc o
        have HONE : Hid (∀ u ∈ [Value.int .i64 (k : Int)], u.oneCell' = true) := by
          intro u hu
          simp only [List.mem_cons, List.not_mem_nil, or_false] at hu
          subst hu; rfl
        have HFIN : Hid (∀ (o : Obj) (g cap : Nat) (wA : World), wA.ownsRow w.heap.size 3 1 (.slice (some ⟨g, 0, none⟩) (pl.length + 1) cap) (pl.length + 1) (pl.map intV ++ [intV k]) → (w1.alloc o).grownBy wA (Value.slice la pl.length lc).ownBlock →
            (wA.ownsRow w.heap.size 3 1 (.slice (some ⟨g, 0, none⟩) (pl.length + 1) cap) (Ld.placesTo p ns (k + 1)).length ((Ld.placesTo p ns (k + 1)).map intV) ∧ (Ld.placesTo p ns (k + 1)).length = pl.length + 1) ∧ Below w.heap.size w wA) := by
          intro o g cap wA hown hgrow
          rw [HSU.out, if_pos rfl]
          refine ⟨⟨by simpa using hown, by simp⟩, ?_⟩
          refine (HB1.out.alloc HB1.out.size o).grown hgrow (by simp; omega) (fun j e => (HO1.out.lt j e).1)
        clear HO1
        go_wp2_with (at_builtin; refine wpList_append_lies _ rfl (.tmp 19) (.tmp 21) 41 rfl w.heap.size 3 i0 _ 1 8 Tryz.underlying41 hi0 hz0 hz1 hz2 rfl (by decide) (.slice la pl.length lc) pl.length (pl.map intV) rfl (HOWN.out _) ⟨w1.heap.size, 0, none⟩ 1 1 [.int .i64 (k : Int)] rfl rfl (World.news_of_block (heap_alloc_new w1 _)) HONE.out (by decide) (by unfold maxLen; omega) (by omega) (by simp; omega) (w1.heap.size + 1) (by simp) ?_; intro g2 cap2 wC hown hgrow hat hltg; obtain ⟨⟨hoC, hlC⟩, hbC⟩ := HFIN.out _ g2 cap2 wC hown hgrow; have HOC := hide hoC; have HLC := hide hlC; have HBC := hide hbC; clear hoC hlC hbC hown hgrow hat)
        go_roundw
        case rel => exact ⟨k + 1, by omega, by go_num, ⟨_, _, by rw [HLC.out]⟩, HOC.out, HBC.out⟩
        case measure => simp [intOf]; omega
      | false =>
        rw [hpy] at HSU
        have HSE : Hid (Ld.placesTo p ns (k + 1) = pl) := by show _ = _; rw [HSU.out]; simp
        go_wp2_with fail
        go_roundw
        case rel => exact ⟨k + 1, by omega, by go_num, ⟨_, _, by rw [HSE.out]⟩, by rw [HSE.out]; exact HO1.out, HB1.out⟩
        case measure => simp [intOf]; omega
    · have hkn : k = n := by omega
      subst hkn
      go_wp2_with fail
      go_ret
      exact ⟨_, rfl, HO.out, HB.out⟩
theorem kind1_any (b : Nat) (s : Int) (n : Ld.Nme) (w : World) (hc : w.cell? ⟨b, 0, none⟩ = some (.int .i64 s)) :
    Calls Tryz.prog 49 #[.agg #[.string ⟨n.name.toArray⟩, .int .i64 n.kind, .int .i64 n.count], .pointer (some ⟨b, 0, none⟩)] w fun e w' => e = .returned (.bool (n.kind == s)) ∧ Below w.heap.size w w' := by
  obtain ⟨nm, k, c⟩ := n
  have hlt : b < w.heap.size := World.block_lt_of_cell? _ _ hc
  by_cases h : k = s
  all_goals
    go_enter Tryz.func49, Tryz.ntmps49
    go_wp2
    go_ret
    exact ⟨by simp [h], (Below.refl _ _).alloc (Nat.le_refl _) _⟩
set_option maxHeartbeats 2000000 in
set_option maxRecDepth 100000 in
theorem Kind_any (ns : List Ld.Nme) (nv rv : Value) (s : Int) (w : World) (hn : NamesAt w nv ns) (hr : ∃ a n c, rv = .slice a n c) :
    Calls Tryz.prog 22 #[.agg #[nv, rv], .int .i64 s] w fun e w' => ∃ v, e = .returned v ∧ w'.ownsRow w.heap.size 3 1 v (Ld.kindL ns s).length ((Ld.kindL ns s).map intV) ∧ Below w.heap.size w w' := by
  have hmf : ∀ (fn : Fn) (first cap : Array Value) (w : World), (Instr.makeFunc fn first cap).run Tryz.prog w = .ok (.func fn first cap) w := fun _ _ _ _ => rfl
  obtain ⟨ra, rn, rc, rfl⟩ := hr
  have HNA := hide hn
  obtain ⟨na, nc, rfl, _⟩ := hn.slice
  clear hn
  generalize ns.length = nn at *
  obtain ⟨w2, hw2⟩ : ∃ w2, w2 = (w.alloc (.cells #[.slice na nn nc, .slice ra rn rc] 28)).alloc (.cells #[.int .i64 s] 3) := ⟨_, rfl⟩
  have hb2 : Below w.heap.size w w2 := by rw [hw2]; exact ((Below.refl _ _).alloc (Nat.le_refl _) _).alloc (by simp) _
  have hc2 : w2.cell? ⟨w.heap.size + 1, 0, none⟩ = some (.int .i64 s) := by rw [hw2]; simp [go_sem]
  have hs2 : w2.heap.size = w.heap.size + 1 + 1 := by rw [hw2]; simp
  have HI := hide (numbers_any ns (.slice na nn nc) (.slice ra rn rc) (.func (.func 49) #[] #[.pointer (some ⟨w.heap.size + 1, 0, none⟩)]) (fun n => n.kind == s) w2 (HNA.out.below hb2) ⟨_, _, _, rfl⟩
    ⟨49, _, rfl, fun _ _ => by kernel_rfl, fun n W hW hn => kind1_any _ s n W ((hW.cell (p := ⟨w.heap.size + 1, 0, none⟩) (by show w.heap.size + 1 < _; omega)).trans hc2)⟩)
  rw [hw2] at HI
  have HB2 := hide hb2
  have HW2 := hide hw2
  clear hb2 hc2 hs2 hw2
  go_enter Tryz.func22, Tryz.ntmps22
  go_wp2_with fail
  refine HI.out.mono ?_
  rintro e w3 ⟨v, rfl, hown, hb3⟩
  rw [← HW2.out] at hown hb3
  have HO := hide (own_mono hown HB2.out.size)
  have HB3 := hide (HB2.out.trans (hb3.mono HB2.out.size))
  obtain ⟨a, c, rfl⟩ := own_slice hown
  clear hown hb3 HI
  go_wp2_with fail
  go_ret
  exact ⟨_, rfl, HO.out, HB3.out⟩
end
end Go.Proofs.YtgdmohombcgjbaaGreatDoor
