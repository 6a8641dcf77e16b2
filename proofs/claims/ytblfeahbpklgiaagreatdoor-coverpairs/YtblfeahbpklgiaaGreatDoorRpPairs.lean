/-
  The walks of the document's own Pairs, of index, and of the closures that it makes.
-/
import Derived.Test.YtblfeahbpklgiaaGreatDoorRvEval
import Derived.Test.YtblfeahbpklgiaaGreatDoorCvPairs
import Derived.Test.YtblfeahbpklgiaaGreatDoorNdNamed
import Derived.Deep.LoopGhost
namespace Go.Proofs.YtblfeahbpklgiaaGreatDoor
namespace Cv
open Go.RowKit
set_option maxHeartbeats 2000000 in
set_option maxRecDepth 100000 in
theorem rindex_any (l : List (List UInt8)) (nm : List UInt8) (hnm : nm ≠ []) (sv : Value) (w : World) (h : Strs w sv (l.map fun l => (⟨l.toArray⟩ : ByteArray))) :
    Calls Tryz.prog 21 #[sv, .string ⟨nm.toArray⟩] w fun e w' => e = .returned (.int .i64 (ix l nm)) ∧ w' = w := by
  have hne : (nm == []) = false := by simpa using hnm
  have hne2 : (!(nm == [])) = true := by rw [hne]; rfl
  rcases h with ⟨h0, a, cap, rfl⟩ | ⟨g, o, cap, rfl, hcap, hlen, hcell⟩
  · have HA : Hid (ix l nm = -1) := by
      have : l = [] := by simpa using h0
      subst this
      rfl
    clear h0
    go_enter Tryz.func21, Tryz.ntmps21
    go_wp2_with fail
    go_loop [9] (fun i => i = .int .i64 0) (fun _ => 0)
    case atStart => exact rfl
    case round =>
      obtain rfl := hrel
      go_wp2_with fail
      go_ret
      exact ⟨by rw [HA.out]; rfl, rfl⟩
  · have HC := hide hcell
    clear hcell
    rw [List.length_map] at hcap hlen ⊢
    obtain ⟨n, hn⟩ : ∃ n, n = l.length := ⟨_, rfl⟩
    have HN := hide hn
    rw [← hn] at hcap hlen ⊢
    clear hn
    go_enter Tryz.func21, Tryz.ntmps21
    go_wp2_with fail
    go_loop [9] (fun i => ∃ k : Nat, k ≤ n ∧ i = .int .i64 (k : Int) ∧ Hid ((l.take k).any (fun x => nm == x) = false)) (fun i => n - (intOf i).toNat)
    case atStart => exact ⟨0, Nat.zero_le _, rfl, rfl⟩
    case round =>
      obtain ⟨k, hk, rfl, HT⟩ := hrel
      by_cases hlt : k < n
      · have hkl : k < l.length := by rw [← HN.out]; exact hlt
        have c0 : w.cell? ⟨g, o + k, none⟩ = some (.string ⟨l[k].toArray⟩) := HC.out k _ (by rw [List.getElem?_map, List.getElem?_eq_getElem hkl]; rfl)
        have HSU : Hid ((l.take (k + 1)).any (fun x => nm == x) = (nm == l[k])) := by show _ = _; rw [List.take_succ_eq_append_getElem hkl, List.any_append, HT.out]; simp
        have HHIT := hide (ix_hit l nm k hkl HT.out)
        generalize l[k] = x at *
        cases hp : (nm == x) with
        | true =>
          have HA := hide (HHIT.out hp)
          have e : nm = x := by simpa using hp
          subst e
          clear hp HHIT HSU
          go_wp2_with fail
          go_ret
          exact ⟨by rw [HA.out]; rfl, rfl⟩
        | false =>
          rw [hp] at HSU
          have e : ¬ nm = x := by simpa using hp
          have e2 : ¬ x = nm := fun h => e h.symm
          have e3 : (x == nm) = false := by simpa using e2
          go_wp2_with fail
          go_round
          case rel => exact ⟨k + 1, by omega, by go_num, HSU.out⟩
          case measure => simp [intOf]; omega
      · have hkn : k = n := by omega
        have HA : Hid (ix l nm = -1) := ix_none l nm (by have := HT.out; rw [List.take_of_length_le (by rw [← HN.out]; omega)] at this; exact this)
        subst hkn
        go_wp2_with fail
        go_ret
        exact ⟨by rw [HA.out]; rfl, rfl⟩
theorem drewB (w : World) : Below w.heap.size w w.drew := ⟨rfl, rfl, rfl, Nat.le_refl _, fun _ _ => rfl⟩
set_option maxHeartbeats 2000000 in
set_option maxRecDepth 100000 in
theorem rpairs11_any (l : List (List UInt8)) (hl : l.length ≤ 60) (nm : List UInt8) (hnm : nm ≠ []) (hin : nm ∈ l) (sv : Value) (p q v : Nat) (w : World) (h : Strs w sv (l.map fun l => (⟨l.toArray⟩ : ByteArray))) (hp : w.cell? ⟨p, 0, none⟩ = some (.int .u64 (v : Int))) (hq : w.cell? ⟨q, 0, none⟩ = some sv) :
    Calls Tryz.prog 20 #[.string ⟨nm.toArray⟩, .pointer (some ⟨p, 0, none⟩), .pointer (some ⟨q, 0, none⟩)] w fun e w' => e = .returned (.bool (tv l v nm)) ∧ Below w.heap.size w w' := by
  have HI := hide (fun W (hW : Below w.heap.size w W) => rindex_any l nm hnm sv W (h.below hW))
  have hu := ix_mem l nm hin
  have h1 := ix_lt l nm
  have HT : Hid (tv l v nm = v.testBit (ix l nm).toNat) := by show _ = _; unfold tv; simp [hu]
  obtain ⟨a, n, c, hsv⟩ : ∃ a n cap, sv = .slice a n cap := by
    rcases h with ⟨_, a, cap, h⟩ | ⟨g, o, cap, h, _⟩
    · exact ⟨_, _, _, h⟩
    · exact ⟨_, _, _, h⟩
  subst hsv
  clear h
  generalize ix l nm = u at *
  obtain ⟨j, rfl⟩ : ∃ j : Nat, u = (j : Int) := ⟨u.toNat, by omega⟩
  have hj : j < 60 := by omega
  have HBIT := hide (bit_is .u64 (.inr rfl) v j)
  rw [Int.toNat_natCast] at HT
  clear h1 hu
  generalize tv l v nm = T at *
  have HKE : Hid (∀ W, Below w.heap.size w W → W.cell? ⟨p, 0, none⟩ = some (.int .u64 (v : Int)) ∧ W.cell? ⟨q, 0, none⟩ = some (.slice a n c)) := fun W hW => ⟨(hW.cell (World.block_lt_of_cell? _ _ hp)).trans hp, (hW.cell (World.block_lt_of_cell? _ _ hq)).trans hq⟩
  have HD := hide (drewB w)
  go_enter Tryz.func20, Tryz.ntmps20
  go_upto_region 1 with fail
  go_region_held3 (fun W => W.cell? ⟨p, 0, none⟩ = some (.int .u64 (v : Int)) ∧ W.cell? ⟨q, 0, none⟩ = some (.slice a n c)) ((refine HKE.out _ ?_; first | exact HD.out | exact HB2.out | exact Below.refl _ _)) ((go_at_call 21; (with_reducible refine (HI.out _ HD.out).mono ?_); rintro e w2 ⟨rfl, hw2⟩; have HB2 : Hid (Below w.heap.size w w2) := by rw [hw2]; exact HD.out))
  go_wp2_with fail
  go_ret
  exact ⟨ret_bool (by rw [HT.out, HBIT.out]), HD.out⟩
set_option maxHeartbeats 2000000 in
set_option maxRecDepth 100000 in
theorem rpairs1_any (x : Ex) (g : Nat) (l : List (List UInt8)) (hl : l.length ≤ 60) (hne : ∀ n, n ∈ l → n ≠ []) (hx : ∀ n, n ∈ x.named true → n ∈ l) (sv : Value) (p q v : Nat) (w : World) (hr : IsRx (fun _ => True) w x g) (h : Strs w sv (l.map fun l => (⟨l.toArray⟩ : ByteArray))) (hp : w.cell? ⟨p, 0, none⟩ = some sv) (hq : w.cell? ⟨q, 0, none⟩ = some (.pointer (some ⟨g, 0, none⟩))) :
    Calls Tryz.prog 19 #[.int .u64 (v : Int), .pointer (some ⟨p, 0, none⟩), .pointer (some ⟨q, 0, none⟩)] w fun e w' => e = .returned (.bool (sayV x l v)) ∧ Below w.heap.size w w' := by
  have hmf : ∀ (fn : Fn) (first cap : Array Value) (w : World), (Instr.makeFunc fn first cap).run Tryz.prog w = .ok (.func fn first cap) w := fun _ _ _ _ => rfl
  obtain ⟨w1, hw1⟩ : ∃ w1, w1 = w.alloc (.cells #[.int .u64 (v : Int)] 38) := ⟨_, rfl⟩
  have hb : Below w.heap.size w w1 := by rw [hw1]; exact (Below.refl _ _).alloc (Nat.le_refl _) _
  have c0 : w1.cell? ⟨w.heap.size, 0, none⟩ = some (.int .u64 (v : Int)) := by rw [hw1]; simp
  have c1 := (hb.cell (World.block_lt_of_cell? _ _ hp)).trans hp
  have c2 := (hb.cell (World.block_lt_of_cell? _ _ hq)).trans hq
  have hs1 := h.below hb
  have HT : Hid (R2.Tells (fun nm => nm ∈ l) (.func (.func 20) #[] #[.pointer (some ⟨w.heap.size, 0, none⟩), .pointer (some ⟨p, 0, none⟩)]) (tv l v) w1) :=
    ⟨20, _, _, rfl, fun _ _ => by kernel_rfl, fun W hW nm hnm => rpairs11_any l hl nm (hne nm hnm) hnm sv _ _ v W (hs1.below hW) ((hW.cell (World.block_lt_of_cell? _ _ c0)).trans c0) ((hW.cell (World.block_lt_of_cell? _ _ c1)).trans c1)⟩
  have HE := hide (R2.reval_any (fun nm => nm ∈ l) x g _ _ _ _ w1 hx (IsRx.later hr hb) HT.out HT.out)
  have HB := hide hb
  have HSV : Hid (x.eval (tv l v) (tv l v) = sayV x l v) := rfl
  rw [HSV.out] at HE
  rw [hw1] at HE c2
  have HW1 := hide hw1
  clear hb hs1 c0 c1 h hr hw1 hp hq hx hne
  generalize sayV x l v = R at *
  go_enter Tryz.func19, Tryz.ntmps19
  go_wp2_with fail
  refine HE.out.mono ?_
  rintro e w2 ⟨rfl, hb2⟩
  rw [← HW1.out] at hb2
  have HB2 := hide (HB.out.trans (hb2.mono HB.out.size))
  clear hb2
  go_wp2_with fail
  go_ret
  exact ⟨rfl, HB2.out⟩
end Cv
end Go.Proofs.YtblfeahbpklgiaaGreatDoor
