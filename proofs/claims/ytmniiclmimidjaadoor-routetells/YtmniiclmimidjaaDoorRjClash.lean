/-
  The walk of the document's own Clash.
-/
import Derived.Test.YtmniiclmimidjaaDoorRjCheck
namespace Go.Proofs.YtmniiclmimidjaaDoor
namespace Ro
open Go.RowKit
set_option maxHeartbeats 16000000 in
set_option maxRecDepth 100000 in
theorem clashR_any (a b : Rr) (sa pa sb pb : Value) (w : World) (hsa : Ints w sa a.secs) (hpa : Ints w pa a.pts) (hsb : Ints w sb b.secs) (hpb : Ints w pb b.pts) (hB : ∀ c, c ∈ b.pts → -2000 ≤ c ∧ c ≤ 2000) :
    Calls Tryd.prog 9 #[.agg #[sa, pa], .agg #[sb, pb]] w fun e w' => e = .returned (.bool (clashR a b)) ∧ Below w.heap.size w w' := by
  obtain ⟨sa1, sa2, rfl⟩ := hsa.slice
  obtain ⟨pa1, pa2, rfl⟩ := hpa.slice
  obtain ⟨sb1, sb2, rfl⟩ := hsb.slice
  obtain ⟨pb1, pb2, rfl⟩ := hpb.slice
  have l1 := hsa.len
  have l2 := hpa.len
  have l3 := hsb.len
  have l4 := hpb.len
  unfold maxLen at l1 l2 l3 l4
  obtain ⟨aS, ap⟩ := a
  obtain ⟨bs, bp⟩ := b
  simp only at *
  obtain ⟨wA, hwA⟩ : ∃ wA, wA = (w.alloc (.cells #[.slice sa1 aS.length sa2, .slice pa1 ap.length pa2] 45)).alloc (.cells #[.slice sb1 bs.length sb2, .slice pb1 bp.length pb2] 45) := ⟨_, rfl⟩
  have hbA : Below w.heap.size w wA := by rw [hwA]; exact then_ (newB _ _) (newB _ _)
  have ra : RowIs wA w.heap.size 45 [.slice sa1 aS.length sa2, .slice pa1 ap.length pa2] := by rw [hwA]; exact (RowIs.new _ _ _).alloc _
  have rb : RowIs wA (w.heap.size + 1) 45 [.slice sb1 bs.length sb2, .slice pb1 bp.length pb2] := by
    rw [hwA]
    have := RowIs.new (w.alloc (.cells #[.slice sa1 aS.length sa2, .slice pa1 ap.length pa2] 45)) 45 [.slice sb1 bs.length sb2, .slice pb1 bp.length pb2]
    rw [World.size_alloc] at this
    exact this
  have HSA := hide (hsa.below hbA)
  have HPA := hide (hpa.below hbA)
  have HSB := hide (hsb.below hbA)
  have HPB := hide (hpb.below hbA)
  obtain ⟨n1, hn1⟩ : ∃ n1, n1 = aS.length := ⟨_, rfl⟩
  obtain ⟨n2, hn2⟩ : ∃ n2, n2 = ap.length := ⟨_, rfl⟩
  obtain ⟨n3, hn3⟩ : ∃ n3, n3 = bs.length := ⟨_, rfl⟩
  obtain ⟨n4, hn4⟩ : ∃ n4, n4 = bp.length := ⟨_, rfl⟩
  have x0 := ra.cell 0 _ rfl
  have x1 := ra.cell 1 _ rfl
  have y0 := rb.cell 0 _ rfl
  have y1 := rb.cell 1 _ rfl
  have HW := hide hwA
  have HB0 := hide hbA
  have HN1 := hide hn1
  have HN2 := hide hn2
  have HN3 := hide hn3
  have HN4 := hide hn4
  have HBB := hide hB
  rw [← hn1] at x0 HSA l1
  rw [← hn2] at x1 HPA l2
  rw [← hn3] at y0 HSB l3
  rw [← hn4] at y1 HPB l4
  rw [← hn1, ← hn2, ← hn3, ← hn4] at HW ⊢
  have HCD : Hid (clashR ⟨aS, ap⟩ ⟨bs, bp⟩ = ((aS.any fun s => bs.any fun u => s == u) || (ap.any fun p => bp.any fun q => p == -q))) := rfl
  generalize clashR ⟨aS, ap⟩ ⟨bs, bp⟩ = res at *
  clear hwA hbA ra rb hsa hpa hsb hpb hn1 hn2 hn3 hn4 hB
  go_enter Tryd.func9, Tryd.ntmps9
  rw [HW.out] at x0
  go_wp2_with fail
  rw [← HW.out]
  rw [← HW.out] at x0
  clear HW
  go_loop [16] (fun iv => ∃ j : Nat, j ≤ n1 ∧ iv = .int .i64 (j : Int) ∧ Hid ((aS.take j).any (fun s => bs.any fun u => s == u) = false)) (fun iv => n1 - (intOf iv).toNat)
  case atStart => exact ⟨0, Nat.zero_le _, rfl, rfl⟩
  case round =>
    obtain ⟨j, hj, rfl, HAN⟩ := hrel
    by_cases hjl : j < n1
    · have hjp : j < aS.length := by rw [← HN1.out]; exact hjl
      obtain ⟨g1, o1, rfl, d1, _⟩ := HSA.out.cell j _ (List.getElem?_eq_getElem hjp)
      have hji : (j : Int) < (n1 : Int) := by omega
      have HHIT : Hid ((fun s => bs.any fun u => s == u) aS[j] = true → res = true) := fun h => by
        have h2 := any_take_hit (fun s => bs.any fun u => s == u) aS j hjp h
        have h3 : (aS.any fun s => bs.any fun u => s == u) = true := h2
        rw [HCD.out, h3]; rfl
      have HSTEP : Hid ((fun s => bs.any fun u => s == u) aS[j] = false → (aS.take (j + 1)).any (fun s => bs.any fun u => s == u) = false) := any_take_succ (fun s => bs.any fun u => s == u) aS j hjp HAN.out
      generalize aS[j] = x at *
      go_wp2_with fail
      go_loop [23] (fun iv => ∃ i : Nat, i ≤ n3 ∧ iv = .int .i64 (i : Int) ∧ Hid ((bs.take i).any (fun u => x == u) = false)) (fun iv => n3 - (intOf iv).toNat)
      case atStart => exact ⟨0, Nat.zero_le _, rfl, rfl⟩
      case round =>
        obtain ⟨i, hi, rfl, HC⟩ := hrel
        by_cases hil : i < n3
        · have hip : i < bs.length := by rw [← HN3.out]; exact hil
          obtain ⟨g2, o2, rfl, d2, _⟩ := HSB.out.cell i _ (List.getElem?_eq_getElem hip)
          have hii : (i : Int) < (n3 : Int) := by omega
          have HHT : Hid ((x == bs[i]) = true → (fun s => bs.any fun u => s == u) x = true) := fun h => any_take_hit (fun u => x == u) bs i hip h
          have HST : Hid ((x == bs[i]) = false → (bs.take (i + 1)).any (fun u => x == u) = false) := any_take_succ (fun u => x == u) bs i hip HC.out
          generalize bs[i] = u at *
          cases hq : (x == u) with
          | true =>
            have HR := hide (HHIT.out (HHT.out hq))
            have hq2 : (x : Int) = u := by simpa using hq
            clear HHT HST
            go_wp2_with fail
            go_ret
            exact ⟨by rw [HR.out]; rfl, HB0.out⟩
          | false =>
            have HC2 := hide (HST.out hq)
            clear HHT HST
            go_wp2_with fail
            go_round
            case rel => exact ⟨i + 1, by omega, by go_num, HC2.out⟩
            case measure => simp [intOf]; omega
        · have hin : i = n3 := by omega
          have HF2 : Hid ((fun s => bs.any fun u => s == u) x = false) := by
            have h := HC.out
            rw [List.take_of_length_le (by rw [← HN3.out]; omega)] at h
            exact h
          have HA2 := hide (HSTEP.out HF2.out)
          obtain rfl := hin.symm
          go_wp2_with fail
          go_round
          case rel => exact ⟨j + 1, by omega, by go_num, HA2.out⟩
          case measure => simp [intOf]; omega
    · have hjn : j = n1 := by omega
      have HAF : Hid ((aS.any (fun s => bs.any fun u => s == u)) = false) := by
        have h := HAN.out
        rw [List.take_of_length_le (by rw [← HN1.out]; omega)] at h
        exact h
      obtain rfl := hjn.symm
      have HSF : Hid ((aS.any fun s => bs.any fun u => s == u) = false) := HAF.out
      clear HAF
      go_wp2_with fail
      go_loop [35] (fun iv => ∃ j : Nat, j ≤ n2 ∧ iv = .int .i64 (j : Int) ∧ Hid ((ap.take j).any (fun p => bp.any fun q => p == -q) = false)) (fun iv => n2 - (intOf iv).toNat)
      case atStart => exact ⟨0, Nat.zero_le _, rfl, rfl⟩
      case round =>
        obtain ⟨j, hj, rfl, HAN⟩ := hrel
        by_cases hjl : j < n2
        · have hjp : j < ap.length := by rw [← HN2.out]; exact hjl
          obtain ⟨g1, o1, rfl, d1, _⟩ := HPA.out.cell j _ (List.getElem?_eq_getElem hjp)
          have hji : (j : Int) < (n2 : Int) := by omega
          have HHIT : Hid ((fun p => bp.any fun q => p == -q) ap[j] = true → res = true) := fun h => by
            have h2 := any_take_hit (fun p => bp.any fun q => p == -q) ap j hjp h
            rw [HCD.out, HSF.out]; exact h2
          have HSTEP : Hid ((fun p => bp.any fun q => p == -q) ap[j] = false → (ap.take (j + 1)).any (fun p => bp.any fun q => p == -q) = false) := any_take_succ (fun p => bp.any fun q => p == -q) ap j hjp HAN.out
          generalize ap[j] = x at *
          go_wp2_with fail
          go_loop [42] (fun iv => ∃ i : Nat, i ≤ n4 ∧ iv = .int .i64 (i : Int) ∧ Hid ((bp.take i).any (fun u => x == -u) = false)) (fun iv => n4 - (intOf iv).toNat)
          case atStart => exact ⟨0, Nat.zero_le _, rfl, rfl⟩
          case round =>
            obtain ⟨i, hi, rfl, HC⟩ := hrel
            by_cases hil : i < n4
            · have hip : i < bp.length := by rw [← HN4.out]; exact hil
              obtain ⟨g2, o2, rfl, d2, _⟩ := HPB.out.cell i _ (List.getElem?_eq_getElem hip)
              have hii : (i : Int) < (n4 : Int) := by omega
              obtain ⟨hb1, hb2⟩ := HBB.out _ (List.getElem_mem hip)
              have HHT : Hid ((x == -bp[i]) = true → (fun p => bp.any fun q => p == -q) x = true) := fun h => any_take_hit (fun u => x == -u) bp i hip h
              have HST : Hid ((x == -bp[i]) = false → (bp.take (i + 1)).any (fun u => x == -u) = false) := any_take_succ (fun u => x == -u) bp i hip HC.out
              generalize bp[i] = u at *
              cases hq : (x == -u) with
              | true =>
                have HR := hide (HHIT.out (HHT.out hq))
                have hq2 : (x : Int) = -u := by simpa using hq
                clear HHT HST
                go_wp2_with fail
                go_ret
                exact ⟨by rw [HR.out]; rfl, HB0.out⟩
              | false =>
                have HC2 := hide (HST.out hq)
                clear HHT HST
                go_wp2_with fail
                go_round
                case rel => exact ⟨i + 1, by omega, by go_num, HC2.out⟩
                case measure => simp [intOf]; omega
            · have hin : i = n4 := by omega
              have HF2 : Hid ((fun p => bp.any fun q => p == -q) x = false) := by
                have h := HC.out
                rw [List.take_of_length_le (by rw [← HN4.out]; omega)] at h
                exact h
              have HA2 := hide (HSTEP.out HF2.out)
              obtain rfl := hin.symm
              go_wp2_with fail
              go_round
              case rel => exact ⟨j + 1, by omega, by go_num, HA2.out⟩
              case measure => simp [intOf]; omega
        · have hjn : j = n2 := by omega
          have HAF : Hid ((ap.any (fun p => bp.any fun q => p == -q)) = false) := by
            have h := HAN.out
            rw [List.take_of_length_le (by rw [← HN2.out]; omega)] at h
            exact h
          obtain rfl := hjn.symm
          have HR : Hid (res = false) := by show _ = _; rw [HCD.out, HSF.out]; exact HAF.out
          go_wp2_with fail
          go_ret
          exact ⟨by rw [HR.out]; rfl, HB0.out⟩
end Ro
end Go.Proofs.YtmniiclmimidjaaDoor
