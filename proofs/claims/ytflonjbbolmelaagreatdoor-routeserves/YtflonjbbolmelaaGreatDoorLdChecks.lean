/-
  The walk of package ladder's Check.
-/
import Derived.Test.YtflonjbbolmelaaGreatDoorLdCheck
namespace Go.Proofs.YtflonjbbolmelaaGreatDoor
open Go.RowKit
/-- what is answered where something is wrong, or nothing -/
def ErrIs (w : World) (er : Value) : Option (Nat × Option Nat) → Prop
  | none => er = .nilIface
  | some (e, none) => er = .iface 64 (.int .i64 (e : Int))
  | some (e, some p) => ∃ a, er = .iface 72 (.pointer (some ⟨a, 0, none⟩)) ∧ w.cell? ⟨a, 0, none⟩ = some (.int .i64 (e : Int)) ∧ w.cell? ⟨a, 1, none⟩ = some (.int .i64 (p : Int))
theorem ErrIs.below {w w' : World} {er : Value} {r : Option (Nat × Option Nat)} (h : ErrIs w er r) (hb : Below w.heap.size w w') : ErrIs w' er r := by
  match r, h with
  | none, h => exact h
  | some (e, none), h => exact h
  | some (e, some p), ⟨a, h1, h2, h3⟩ => exact ⟨a, h1, (hb.cell (World.block_lt_of_cell? _ _ h2)).trans h2, (hb.cell (World.block_lt_of_cell? _ _ h3)).trans h3⟩
namespace Ld
theorem check_many (p : Prg) (h : 12 < p.names.length ∨ 40 < p.rungs.length) : check p = some (4, none) := by rw [check, if_pos h]
theorem check_name (p : Prg) (h : ¬ (12 < p.names.length ∨ 40 < p.rungs.length)) (k : Nat) (hb : bad (nameAt p.names) k = none) (hk : k < p.names.length) (hw : nameAt p.names k ≠ 0) : check p = some (nameAt p.names k, some k) := by
  rw [check, if_neg h, bad_hit _ k _ hb hw hk]
theorem check_rung (p : Prg) (h : ¬ (12 < p.names.length ∨ 40 < p.rungs.length)) (hn : bad (nameAt p.names) p.names.length = none) (k : Nat) (hb : bad (rungAt p) k = none) (hk : k < p.rungs.length) (hw : rungAt p k ≠ 0) : check p = some (rungAt p k, some (p.names.length + k)) := by
  rw [check, if_neg h, hn, bad_hit _ k _ hb hw hk]
theorem check_none (p : Prg) (h : ¬ (12 < p.names.length ∨ 40 < p.rungs.length)) (hn : bad (nameAt p.names) p.names.length = none) (hr : bad (rungAt p) p.rungs.length = none) : check p = none := by
  rw [check, if_neg h, hn, hr]
end Ld
set_option maxHeartbeats 4000000 in
set_option maxRecDepth 100000 in
theorem Check_any (p : Ld.Prg) (v : Value) (w : World) (h : IsPrg w p v) :
    Calls Tryz.prog 20 #[v] w fun e w' => ∃ er, e = .returned er ∧ ErrIs w' er (Ld.check p) ∧ Below w.heap.size w w' := by
  obtain ⟨nv, rv, rfl, hn, hr⟩ := h
  have HNA := hide hn
  have HRA := hide hr
  obtain ⟨na, nc, rfl, hn1⟩ := hn.slice
  obtain ⟨ra, rc, rfl, hr1⟩ := hr.slice
  have HW1 := hide (fun (w : World) (i : Nat) (y : Ld.Nme) (h : NamesAt w (.slice na p.names.length nc) p.names) (hi : p.names[i]? = some y) => wrongName_any p.names _ (.slice ra p.rungs.length rc) i y w h ⟨_, _, _, rfl⟩ hi)
  have HW2 := hide (fun (w : World) (v : Value) (r : Ld.Rng) (h : NamesAt w (.slice na p.names.length nc) p.names) (hc : CondAt w r.cond v) (hl : r.name.length ≤ maxLen) => wrongRung_any p.names _ (.slice ra p.rungs.length rc) v r w h ⟨_, _, _, rfl⟩ hc hl)
  have HMANY := hide (Ld.check_many p)
  have HNM := hide (Ld.check_name p)
  have HRG := hide (Ld.check_rung p)
  have HNO := hide (Ld.check_none p)
  clear hn hr
  obtain ⟨n, hnn⟩ : ∃ n, n = p.names.length := ⟨_, rfl⟩
  obtain ⟨m, hmm⟩ : ∃ m, m = p.rungs.length := ⟨_, rfl⟩
  have HN := hide hnn
  have HM := hide hmm
  rw [← hnn] at HW1 HW2 HNA HMANY HNM HRG HNO hn1
  rw [← hmm] at HW1 HW2 HRA HMANY HNM HRG HNO hr1
  rw [← hnn, ← hmm]
  clear hnn hmm
  by_cases h12 : 12 < n
  · have HF := hide (HMANY.out (.inl h12))
    clear HNM HRG HNO HMANY HW1 HW2 HNA HRA
    go_enter Tryz.func20, Tryz.ntmps20
    go_wp2_with fail
    go_ret
    exact ⟨_, rfl, by rw [HF.out]; rfl, (Below.refl _ _).alloc (Nat.le_refl _) _⟩
  by_cases h40 : 40 < m
  · have HF := hide (HMANY.out (.inr h40))
    clear HNM HRG HNO HMANY HW1 HW2 HNA HRA
    go_enter Tryz.func20, Tryz.ntmps20
    go_wp2_with fail
    go_ret
    exact ⟨_, rfl, by rw [HF.out]; rfl, (Below.refl _ _).alloc (Nat.le_refl _) _⟩
  have hnot : ¬ (12 < n ∨ 40 < m) := by omega
  obtain ⟨wA, hwA⟩ : ∃ wA, wA = w.alloc (.cells #[.slice na n nc, .slice ra m rc] 29) := ⟨_, rfl⟩
  have hbA : Below w.heap.size w wA := by rw [hwA]; exact (Below.refl _ _).alloc (Nat.le_refl _) _
  have HBX : Hid (∀ W, Below wA.heap.size wA W → W.cell? ⟨w.heap.size, 0, none⟩ = some (.slice na n nc) ∧ W.cell? ⟨w.heap.size, 1, none⟩ = some (.slice ra m rc)) := by
    intro W hW
    have q1 : w.heap.size < wA.heap.size := by rw [hwA]; simp
    rw [hW.cell (p := ⟨w.heap.size, 0, none⟩) q1, hW.cell (p := ⟨w.heap.size, 1, none⟩) q1, hwA]
    simp [go_sem]
  have HBA := hide hbA
  have HWA := hide hwA
  have HNOT := hide hnot
  clear hbA hwA HMANY hnot
  go_enter Tryz.func20, Tryz.ntmps20
  go_wp2_with fail
  rw [← HWA.out]
  go_loopw [22] (fun i wr => ∃ k : Nat, k ≤ n ∧ i = .int .i64 (k : Int) ∧ Hid (Ld.bad (Ld.nameAt p.names) k = none) ∧ Hid (Below wA.heap.size wA wr)) (fun i _ => n - (intOf i).toNat)
  case atStart => exact ⟨0, Nat.zero_le _, rfl, rfl, Below.refl _ _⟩
  case round =>
    obtain ⟨k, hk, rfl, HBAD, HBr⟩ := hrel
    have HBw := hide (HBA.out.trans (HBr.out.mono HBA.out.size))
    obtain ⟨p0, p1⟩ := HBX.out wr HBr.out
    by_cases hlt : k < n
    · have hkl : k < p.names.length := by rw [← HN.out]; exact hlt
      have HC := hide (HW1.out wr k p.names[k] (HNA.out.below HBw.out) (List.getElem?_eq_getElem hkl))
      rw [← Ld.nameAt_at p.names k hkl] at HC
      have HHIT := hide (HNM.out HNOT.out k HBAD.out hlt)
      have HON := hide (Ld.bad_on (Ld.nameAt p.names) k HBAD.out)
      generalize Ld.nameAt p.names k = q at *
      go_wp2_with fail
      refine HC.out.mono ?_
      rintro e w2 ⟨rfl, hb2⟩
      have HB2 := hide (HBr.out.trans (hb2.mono HBr.out.size))
      clear hb2 HC
      by_cases hq : q = 0
      · have HON2 := hide (HON.out hq)
        subst hq
        go_wp2_with fail
        go_roundw
        case rel => exact ⟨k + 1, by omega, by go_num, HON2.out, HB2.out⟩
        case measure => simp [intOf]; omega
      · have hqb : ((q : Int) != 0) = true := by simpa using hq
        have HF := hide (HHIT.out hq)
        go_wp2_with fail
        go_ret
        refine ⟨_, rfl, ?_, ?_⟩
        · rw [HF.out]
          exact ⟨w2.heap.size, rfl, by simp [go_sem], by simp [go_sem]⟩
        · exact (HBA.out.trans (HB2.out.mono HBA.out.size)).alloc (Nat.le_trans HBA.out.size HB2.out.size) _
    · have hkn : k = n := by omega
      subst hkn
      have HBADN := HBAD
      clear HBAD HNM HW1 hlt hk
      go_wp2_with fail
      go_loopw [39] (fun i wr => ∃ j : Nat, j ≤ m ∧ i = .int .i64 (j : Int) ∧ Hid (Ld.bad (Ld.rungAt p) j = none) ∧ Hid (Below wA.heap.size wA wr)) (fun i _ => m - (intOf i).toNat)
      case atStart => exact ⟨0, Nat.zero_le _, rfl, rfl, HBr.out⟩
      case round =>
        obtain ⟨j, hj, rfl, HBAD, HBq⟩ := hrel
        have HBw2 := hide (HBA.out.trans (HBq.out.mono HBA.out.size))
        by_cases hlt : j < m
        · have hjl : j < p.rungs.length := by rw [← HM.out]; exact hlt
          obtain ⟨g, rfl, hca, u, e1, e2, e3, e4, e5, e6⟩ : ∃ g, ra = some ⟨g, 0, none⟩ ∧ m ≤ rc ∧ RungAt w g j p.rungs[j] := by
            rcases HRA.out with ⟨h0, _⟩ | ⟨g, cap, h1, h2, h3, h4⟩
            · rw [h0] at hjl; simp at hjl
            · simp only [Value.slice.injEq] at h1
              exact ⟨g, h1.1, by rw [h1.2.2, h1.2.1]; exact h2, h4 j _ (List.getElem?_eq_getElem hjl)⟩
          have c1 := (HBw2.out.cell (World.block_lt_of_cell? _ _ e1)).trans e1
          have c2 := (HBw2.out.cell (World.block_lt_of_cell? _ _ e2)).trans e2
          have c3 := (HBw2.out.cell (World.block_lt_of_cell? _ _ e3)).trans e3
          have hgw : g < wr.heap.size := World.block_lt_of_cell? _ _ c1
          have hu : u = .nilIface ∨ ∃ tu yu, u = .iface tu yu := by
            cases hcd : p.rungs[j].cond with
            | none => rw [hcd] at e6; exact .inl e6
            | some x => rw [hcd] at e6; obtain ⟨tu, yu, h⟩ := IsEx.iface x u e6.1; exact .inr ⟨tu, yu, h⟩
          obtain ⟨wB, hwB⟩ : ∃ wB, wB = wr.alloc (.cells #[.int .i64 p.rungs[j].kind, .string ⟨p.rungs[j].name.toArray⟩, u] 52) := ⟨_, rfl⟩
          have hbB : Below wA.heap.size wA wB := by rw [hwB]; exact HBq.out.alloc HBq.out.size _
          have hbBw : Below w.heap.size w wB := HBA.out.trans (hbB.mono HBA.out.size)
          have HC := hide (HW2.out wB u p.rungs[j] (HNA.out.below hbBw) (e6.below hbBw) e4)
          rw [← Ld.rungAt_at p j hjl] at HC
          obtain ⟨p0', p1'⟩ := HBX.out wr HBq.out
          have HHIT := hide (HRG.out HNOT.out HBADN.out j HBAD.out hlt)
          have HON := hide (Ld.bad_on (Ld.rungAt p) j HBAD.out)
          have HBB := hide hbB
          have HWB := hide hwB
          have hw0 : w.heap.size < wr.heap.size := World.block_lt_of_cell? _ _ p0'
          clear e1 e2 e3 e4 e5 e6 hbB hbBw hwB
          rw [HWB.out] at HC
          generalize Ld.rungAt p j = q at *
          generalize p.rungs[j] = y at *
          obtain ⟨yk, yn, yc⟩ := y
          simp only at c1 c2 HC HWB
          rcases hu with rfl | ⟨tu, yu, rfl⟩
          all_goals
            go_wp2_with fail
            refine HC.out.mono ?_
            rintro e w2 ⟨rfl, hb2⟩
            rw [← HWB.out] at hb2
            have HB2 := hide (HBB.out.trans (hb2.mono HBB.out.size))
            obtain ⟨p0'', p1''⟩ := HBX.out w2 HB2.out
            clear hb2 HC
            by_cases hq : q = 0
            · have HON2 := hide (HON.out hq)
              subst hq
              go_wp2_with fail
              go_roundw
              case rel => exact ⟨j + 1, by omega, by go_num, HON2.out, HB2.out⟩
              case measure => simp [intOf]; omega
            · have hqb : ((q : Int) != 0) = true := by simpa using hq
              have HF := hide (HHIT.out hq)
              go_wp2_with fail
              go_ret
              refine ⟨_, rfl, ?_, ?_⟩
              · rw [HF.out]
                exact ⟨w2.heap.size, rfl, by simp [go_sem], by simp [go_sem]⟩
              · exact (HBA.out.trans (HB2.out.mono HBA.out.size)).alloc (Nat.le_trans HBA.out.size HB2.out.size) _
        · have hjm : j = m := by omega
          have HF := hide (HNO.out HNOT.out HBADN.out (hjm ▸ HBAD.out))
          subst hjm
          go_wp2_with fail
          go_ret
          exact ⟨_, rfl, by rw [HF.out]; rfl, HBw2.out⟩
end Go.Proofs.YtflonjbbolmelaaGreatDoor
