/-
  The walk of the document's At, at names.
-/
import Derived.Test.YtmdblokmplbpmaaDoorLyAtB
import Derived.Test.YtmdblokmplbpmaaDoorLyFork
import Derived.Test.YtmdblokmplbpmaaDoorLsTurn8
namespace Go.Proofs.YtmdblokmplbpmaaDoor
namespace Ls
open Go.RowKit
theorem two_ready {P : Program} {ops : Array Oper} {Q : Exit → Act → World → Prop} {md : Region.Mode} {S : World → Prop} {fuel : Nat} {l : Array Bool} {a : Act} {w : World} {i j : Nat} (hr : Region.ready md ops l = [i, j]) (h1 : wpOp P ops Q i (fun a' w' => S w' ∧ wpAnyH P md ops Q S fuel (l.setIfInBounds i true) a' w') a w) (h2 : wpOp P ops Q j (fun a' w' => S w' ∧ wpAnyH P md ops Q S fuel (l.setIfInBounds j true) a' w') a w) : wpAnyH P md ops Q S (fuel + 1) l a w :=
  ⟨fun h0 => absurd (hr.symm.trans h0) (by simp), fun k hk => by
    rw [hr] at hk
    rcases List.mem_cons.1 hk with rfl | hk
    · exact h1
    · obtain rfl := List.mem_singleton.1 hk; exact h2⟩
/-- so a number says whether a name is in a row -/
def Found (nm : List UInt8) (l : List (List UInt8)) (n : Int) : Prop := decide (0 ≤ n) = l.contains nm ∧ -1 ≤ n ∧ n ≤ 9223372036854775807
set_option maxHeartbeats 8000000 in
set_option maxRecDepth 100000 in
theorem index_any (l : List (List UInt8)) (sv : Value) (nm : List UInt8) (w : World) (h : Strs w sv l) (hne : nm = [] → ¬ [] ∈ l) (hnm : nm.length ≤ maxLen) :
    Calls Tryd.prog 27 #[sv, .string ⟨nm.toArray⟩] w fun e w' => ∃ n : Int, e = .returned (.int .i64 n) ∧ Found nm l n ∧ w' = w := by
  have hlen := h.len
  unfold maxLen at hlen
  have HR := hide h
  obtain ⟨a, cp, rfl⟩ := h.slice
  obtain ⟨n, hn⟩ : ∃ n, n = l.length := ⟨_, rfl⟩
  have HN := hide hn
  rw [← hn] at hlen HR ⊢
  have HNE := hide hne
  clear h hn hne
  go_enter Tryd.func27, Tryd.ntmps27
  go_wp2_with fail
  go_loop [9] (fun i => ∃ k : Nat, k ≤ n ∧ i = .int .i64 (k : Int) ∧ Hid ((l.take k).contains nm = false)) (fun i => n - (intOf i).toNat)
  case atStart => exact ⟨0, Nat.zero_le _, rfl, rfl⟩
  case round =>
    obtain ⟨k, hk, rfl, HT⟩ := hrel
    by_cases hlt : k < n
    · have hkl : k < l.length := by rw [← HN.out]; exact hlt
      have hki : (k : Int) < (n : Int) := by omega
      obtain ⟨g, o, rfl, c0, hi⟩ := HR.out.cell k _ (List.getElem?_eq_getElem hkl)
      have HSU : Hid ((l.take (k + 1)).contains nm = (nm == l[k])) := by
        show _ = _
        rw [List.take_succ_eq_append_getElem hkl]
        have h0 := HT.out
        simp only [List.contains_eq_any_beq, List.any_append] at h0 ⊢
        rw [h0]; simp
      have HHIT : Hid (nm = l[k] → l.contains nm = true) := fun e => by
        rw [List.contains_iff_mem, e]; exact List.getElem_mem hkl
      have HMM : Hid (l[k] ∈ l) := List.getElem_mem hkl
      clear hi
      generalize l[k] = x at *
      by_cases hx : x = nm
      · subst hx
        have HA : Hid (Found x l (k : Int)) := ⟨by rw [HHIT.out rfl]; simp, by omega, by omega⟩
        have hb4 : ¬ x = [] := fun e => HNE.out e (e ▸ HMM.out)
        have hb5 : x.isEmpty = false := by simpa using hb4
        go_wp2_with fail
        go_ret
        exact ⟨(k : Int), rfl, HA.out, rfl⟩
      · have hb3 : ¬ (⟨x.toArray⟩ : ByteArray) = ⟨nm.toArray⟩ := fun e => hx (by have := congrArg (fun b : ByteArray => b.data.toList) e; simpa using this)
        have HF : Hid ((l.take (k + 1)).contains nm = false) := by
          show _ = _
          rw [HSU.out]
          have : ¬ nm = x := fun e => hx e.symm
          simp [this]
        clear HSU
        go_wp2_with fail
        go_round
        case rel => exact ⟨k + 1, by omega, by go_num, HF.out⟩
        case measure => simp [intOf]; omega
    · have hkn : k = n := by omega
      have hki : ¬ (k : Int) < (n : Int) := by omega
      have HA : Hid (Found nm l (-1)) := by
        have := HT.out
        rw [List.take_of_length_le (by rw [← HN.out]; omega)] at this
        exact ⟨by rw [this]; rfl, by omega, by omega⟩
      go_wp2_with fail
      go_ret
      exact ⟨-1, rfl, HA.out, rfl⟩
end Ls
end Go.Proofs.YtmdblokmplbpmaaDoor
