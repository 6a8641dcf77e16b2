/-
  The walk of Size: it is the plain function 'size'.
-/
import Derived.Test.YtmchohajfgemcaaDoorEvWithin
namespace Go.Proofs.YtmchohajfgemcaaDoor
open Go.RowKit
namespace Ex
theorem size_eq (k : Nat) (nm : List UInt8) (l : List Ex) : size ⟨k, nm, l⟩ = 1 + (l.map fun x => x.size).sum := by simp [size]
/-- the sizes of the first k, together -/
def sizes (l : List Ex) (k : Nat) : Nat := ((l.take k).map fun x => x.size).sum
theorem sizes_succ (l : List Ex) (k : Nat) (h : k < l.length) : sizes l (k + 1) = sizes l k + l[k].size := by
  unfold sizes
  rw [List.take_succ_eq_append_getElem h]
  simp only [List.map_append, List.sum_append, List.map_cons, List.map_nil, List.sum_cons, List.sum_nil, Nat.add_zero]
theorem sizes_le (l : List Ex) : ∀ j k, k + j = l.length → sizes l k ≤ sizes l l.length
  | 0, k, h => by
    have e : k = l.length := by omega
    rw [e]; exact Nat.le_refl _
  | j + 1, k, h => by
    have h1 := sizes_le l j (k + 1) (by omega)
    rw [sizes_succ l k (by omega)] at h1
    omega
theorem sizes_all (l : List Ex) : sizes l l.length = (l.map fun x => x.size).sum := by unfold sizes; rw [List.take_length]
end Ex
/-- Size, at this expression -/
def SizeOK (x : Ex) : Prop := ∀ (v : Value) (w : World), IsEx (fun _ => True) w x v → x.size ≤ 1000000 → Calls Tryd.prog 14 #[v] w fun e w' => e = .returned (.int .i64 (x.size : Int)) ∧ Below w.heap.size w w'
set_option maxHeartbeats 1000000 in
theorem size_any (x : Ex) : SizeOK x := by
  induction x using Ex.ind with
  | h k nm l ih =>
    intro v w h hsz
    have HC := hide (within_parts _ v w h)
    have HIH := hide ih
    obtain ⟨tu, yu, hiu⟩ := IsEx.iface _ v h
    subst hiu
    rw [Ex.size_eq, ← Ex.sizes_all] at *
    have HSZ := hide hsz
    clear h ih
    go_enter Tryd.func14, Tryd.ntmps14
    go_wp2_with fail
    refine HC.out.mono ?_
    rintro e w1 ⟨sv, rfl, hp, hb⟩
    have HP := hide hp
    have HB := hide hb
    clear hb HC
    rcases hp with ⟨hl, rfl⟩ | ⟨g, cap, rfl, hcap, hmx, hcell⟩
    · change l = [] at hl
      subst hl
      go_wp2_with fail
      go_loopw [11, 3] (fun i acc wr => i = .int .i64 0 ∧ acc = .int .i64 1 ∧ wr = w1) (fun _ _ _ => 0)
      case atStart => exact ⟨rfl, rfl, rfl⟩
      case round =>
        obtain ⟨rfl, rfl, rfl⟩ := hrel
        go_wp2_with fail
        go_ret
        exact ⟨ret_int (by simp [Ex.sizes]), HB.out⟩
    · have HCELL : Hid (∀ (k : Nat) (x : Ex), l[k]? = some x → ∃ u, w1.cell? ⟨g, k, none⟩ = some u ∧ IsEx (fun _ => True) w1 x u) := hcell
      change l.length ≤ cap at hcap
      change l.length ≤ 9223372036854775807 at hmx
      clear hcell
      obtain ⟨n, hn⟩ : ∃ n, n = l.length := ⟨_, rfl⟩
      have HN := hide hn
      rw [← hn] at hcap hmx HSZ
      have e0 : ({ kind := k, name := nm, of := l } : Ex).of.length = n := hn.symm
      rw [e0]
      clear e0 hn HP hsz
      go_wp2_with fail
      go_loopw [11, 3] (fun i acc wr => ∃ k : Nat, k ≤ n ∧ i = .int .i64 (k : Int) ∧ acc = .int .i64 ((1 + Ex.sizes l k : Nat) : Int) ∧ Below w1.heap.size w1 wr) (fun i _ _ => n - (intOf i).toNat)
      case atStart => exact ⟨0, Nat.zero_le _, rfl, by simp [Ex.sizes], Below.refl _ _⟩
      case round =>
        obtain ⟨j, hj, rfl, rfl, hbr⟩ := hrel
        have HBR := hide hbr
        clear hbr
        by_cases hlt : j < n
        · have hjl : j < l.length := by rw [← HN.out]; exact hlt
          obtain ⟨u, hu, hxu⟩ := HCELL.out j l[j] (List.getElem?_eq_getElem hjl)
          have hcell : wr.cell? ⟨g, j, none⟩ = some u := Stay.below (ok := fun _ => True) HBR.out g j u trivial hu
          have HXU := hide (IsEx.stay (Stay.below HBR.out) (fun g hg => hg) _ u hxu)
          have HI := hide (HIH.out l[j] (List.getElem_mem hjl))
          have HS := hide (Ex.sizes_succ l j hjl)
          have hle := Ex.sizes_le l (l.length - (j + 1)) (j + 1) (by omega)
          rw [HS.out, ← HN.out] at hle
          have hsz := HSZ.out
          obtain ⟨tu2, yu2, hiu2⟩ := IsEx.iface _ u hxu
          subst hiu2
          clear hu hxu
          generalize l[j] = x at *
          generalize hA : Ex.sizes l j = A at *
          generalize hA2 : Ex.sizes l (j + 1) = A2 at *
          generalize Ex.sizes l n = AN at *
          have HA2 := hide hA2
          clear hA hA2 hjl
          go_wp2_with fail
          refine (HI.out _ wr HXU.out (by omega)).mono ?_
          rintro e w2 ⟨rfl, hb2⟩
          have HB2 := hide hb2
          clear hb2
          go_wp2_with fail
          go_roundw
          case rel => exact ⟨j + 1, by omega, by go_num, by rw [HA2.out, HS.out]; go_num, HBR.out.trans (HB2.out.mono HBR.out.size)⟩
          case measure => simp [intOf]; omega
        · have hjn : j = n := by omega
          subst hjn
          go_wp2_with fail
          go_ret
          exact ⟨ret_int (by rw [← HN.out]), HB.out.trans (HBR.out.mono HB.out.size)⟩
end Go.Proofs.YtmchohajfgemcaaDoor
