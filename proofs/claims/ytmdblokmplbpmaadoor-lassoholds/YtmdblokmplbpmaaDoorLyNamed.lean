/-
  The walk of the statements' own named.
-/
import Derived.Test.YtmdblokmplbpmaaDoorLyMath
import Derived.Test.YtmdblokmplbpmaaDoorNmRef
namespace Go.Proofs.YtmdblokmplbpmaaDoor
namespace Ls
open Go.RowKit
theorem nmd_drop (z : Bool) (k : Int) (nm : List UInt8) (l : List Fm) (h : (decide (k = 1) && !Nm.name nm) = false) : nmd ⟨z, k, nm, l⟩ = (l.drop 0).all nmd := by rw [nmd_eq, h]; rfl
theorem refName_at (nm : List UInt8) (w : World) (h : nm.length ≤ maxLen) : Calls Tryd.prog 19 #[.string ⟨nm.toArray⟩] w fun e w' => e = .returned (.bool (Nm.name nm)) ∧ w' = w := by
  have := NameCheck_any ⟨nm.toArray⟩ w (by simpa [ByteArray.size] using h)
  rw [bytes_list] at this
  exact this
set_option maxHeartbeats 4000000 in
set_option maxRecDepth 100000 in
theorem named_any : ∀ (x : Fm), wn x = true → ∀ (v : Value) (w : World), IsF (fun _ => True) w x v →
    Calls Tryd.prog 9 #[v] w fun e w' => e = .returned (.bool (nmd x)) ∧ Below w.heap.size w w' := by
  intro x
  induction x using Fm.ind with
  | h z k nm l ih =>
    intro h v w hF
    obtain ⟨⟨rfl, h1, h2, h3, h5⟩, h4⟩ := wn_parts h
    obtain ⟨hk, hnm, hln, b, sa, sc, -, rfl, c0, c1, c2, hrow⟩ := isF_node.1 hF
    have HN := hide (refName_at nm w hnm)
    have HI := hide (fun y hy u W hU => ih y hy (h4 y hy) u W hU)
    have HROW := hide hrow
    have hl2 : l.length ≤ 2 := by rw [h3]; exact partsOf_le k
    obtain ⟨n, hn⟩ : ∃ n, n = l.length := ⟨_, rfl⟩
    have HNL := hide hn
    have HDB := hide (drewB w)
    have HDN : Hid (∀ n, Below w.heap.size w (w.drewN n)) := fun n => ⟨rfl, rfl, rfl, Nat.le_refl _, fun _ _ => rfl⟩
    by_cases hbad : k = 1 ∧ Nm.name nm = false
    · obtain ⟨rfl, hb⟩ := hbad
      have HE : Hid (nmd ⟨false, 1, nm, l⟩ = false) := by show _ = _; rw [nmd_eq, hb]; rfl
      rw [hb] at HN
      clear h ih h1 h2 h3 h4 h5 hF hrow hb
      go_enter Tryd.func9, Tryd.ntmps9
      go_wp2_with (go_at_call 19; refine HN.out.mono ?_; rintro e w' ⟨rfl, rfl⟩)
      go_ret
      exact ⟨ret_bool HE.out.symm, Below.refl _ _⟩
    · have hg : (decide (k = 1) && !Nm.name nm) = false := by
        cases hb : Nm.name nm with
        | true => simp
        | false =>
          have : ¬ k = 1 := fun e => hbad ⟨e, hb⟩
          simp [this]
      have HE := hide (nmd_drop false k nm l hg)
      rw [← hn] at c2 hl2
      have hcase : k = 1 ∧ Nm.name nm = true ∨ ¬ k = 1 := by
        by_cases e : k = 1
        · refine .inl ⟨e, ?_⟩
          cases hb : Nm.name nm with
          | true => rfl
          | false => exact absurd ⟨e, hb⟩ hbad
        · exact .inr e
      clear h ih h1 h2 h3 h4 h5 hF hrow hn hg hbad
      generalize nmd ⟨false, k, nm, l⟩ = Y at *
      obtain ⟨b1, hb1⟩ : ∃ b1 : Bool, b1 = Nm.name nm := ⟨_, rfl⟩
      rw [← hb1] at HN
      have hcase2 : (k = 1 ∧ b1 = true) ∨ ¬ k = 1 := by rw [hb1]; exact hcase
      clear hcase hb1
      rcases hcase2 with ⟨rfl, rfl⟩ | hk1
      all_goals
        go_enter Tryd.func9, Tryd.ntmps9
        go_wp2_with (go_at_call 19; refine HN.out.mono ?_; rintro e w' ⟨rfl, rfl⟩)
        go_loopw [3] (fun i wr => ∃ j : Nat, j ≤ n ∧ i = .int .i64 (j : Int) ∧ Hid (Y = (l.drop j).all nmd) ∧ Hid (Below _ _ wr)) (fun i _ => n - (intOf i).toNat)
        case atStart => exact ⟨0, Nat.zero_le _, rfl, HE.out, Below.refl _ _⟩
        case round =>
          obtain ⟨j, hj, rfl, HT, HB⟩ := hrel
          have c2' := kept HB.out c2
          by_cases hlt : j < n
          · have hjl : j < l.length := by rw [← HNL.out]; exact hlt
            obtain ⟨g, o, u, _, hsa, _, hc, hxu⟩ := HROW.out j l[j] (List.getElem?_eq_getElem hjl)
            have hc' := kept HB.out hc
            have hji : (j : Int) < (n : Int) := by omega
            have HC := hide (HI.out l[j] (List.getElem_mem hjl) u _ (hxu.below HB.out))
            have HTT : Hid (Y = (nmd l[j] && (l.drop (j + 1)).all nmd)) := by
              show _ = _; rw [HT.out, List.drop_eq_getElem_cons hjl, List.all_cons]
            subst hsa
            obtain ⟨pu, rfl⟩ := hxu.ptr
            clear hc hxu HT
            generalize nmd l[j] = bj at *
            clear hjl c2
            cases bj with
            | true =>
              go_wp2_with fail
              refine HC.out.mono ?_
              rintro e w2 ⟨rfl, hb2⟩
              have HB2 := hide (then_ HB.out hb2)
              clear hb2 HC
              go_wp2_with fail
              go_roundw
              case rel => exact ⟨j + 1, by omega, by go_num, HTT.out, HB2.out⟩
              case measure => simp [intOf]; omega
            | false =>
              go_wp2_with fail
              refine HC.out.mono ?_
              rintro e w2 ⟨rfl, hb2⟩
              have HB2 := hide (then_ HB.out hb2)
              clear hb2 HC
              go_wp2_with fail
              go_ret
              exact ⟨ret_bool HTT.out.symm, HB2.out⟩
          · have hjn : j = n := by omega
            have HF : Hid (Y = true) := by show _ = _; rw [HT.out, List.drop_of_length_le (by rw [← HNL.out]; omega)]; rfl
            subst hjn
            go_wp2_with fail
            go_ret
            exact ⟨ret_bool HF.out.symm, HB.out⟩
end Ls
end Go.Proofs.YtmdblokmplbpmaaDoor
