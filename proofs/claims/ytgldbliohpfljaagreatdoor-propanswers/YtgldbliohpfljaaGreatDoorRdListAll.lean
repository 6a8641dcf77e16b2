/-
  Rows of one's own: small facts. (Out of LdRd and LdTakeN.) Rows of one's own, of different types, are different ones. (Out of LdRd.) The walks of the reader's sign, wrong and of endsWord. The walks of strings.Clone, of the closures that make a name's expression, and of the reader's named. The walk of the reader's list: what it reads, one behind the other, lies in a row of its own.
-/
import Derived.Test.YtgldbliohpfljaaGreatDoorLdRepAll
import Derived.Test.YtgldbliohpfljaaGreatDoorShelf
import Derived.Test.YtgldbliohpfljaaGreatDoorNaNamesAll
import Derived.Maps.AppendAt
namespace Go.Proofs.YtgldbliohpfljaaGreatDoor
section
open Go.RowKit
def intV (k : Nat) : Value := .int .i64 (k : Int)
theorem own_slice {W : World} {q : Nat} {e : TypeId} {s : Nat} {v : Value} {n : Nat} {xs : List Value} (h : W.ownsRow q e s v n xs) : ∃ a c, v = .slice a n c := by
  rcases h.2 with ⟨rfl, rfl⟩ | ⟨g', cap, cur, rfl, _⟩
  · exact ⟨_, _, rfl⟩
  · exact ⟨_, _, rfl⟩
theorem grown_below {W W' : World} (h : Below W.heap.size W W') : W.grownBy W' none := ⟨h.os, h.tape, h.output, h.size, fun k hk _ => h.block k hk⟩
theorem Tryz.infoInt : (Tryz.prog.info? 3).map (fun i => (i.zero, i.size, i.bytes)) = some (some (.int .i64 0), 1, 8) := by kernel_rfl
theorem own_tag {W : World} {q : Nat} {e : TypeId} {s : Nat} {v : Value} {n : Nat} {xs : List Value} (h : W.ownsRow q e s v n xs) (g : Nat) (hg : v.ownBlock = some g) : ∃ c, W.heap[g]? = some (.cells c e (0, 0)) := by
  rcases h.2 with ⟨rfl, _⟩ | ⟨g', cap, cur, rfl, _, hcur, _⟩
  · cases hg
  · simp only [Value.ownBlock, Option.some.injEq] at hg
    subst hg
    exact ⟨cur, hcur⟩
theorem row_cell {W : World} {g : Nat} {cur : Array Value} {t : TypeId} {fz : Nat × Nat} (h : W.heap[g]? = some (.cells cur t fz)) {m : Nat} {xs : List Value} (htk : cur.toList.take m = xs) {k : Nat} {u : Value} (hk : xs[k]? = some u) : W.cell? ⟨g, k, none⟩ = some u := by
  rw [← htk] at hk
  have hkm : k < m := by
    by_cases h : k < m
    · exact h
    · rw [List.getElem?_eq_none (by rw [List.length_take]; omega)] at hk; cases hk
  rw [List.getElem?_take_of_lt hkm] at hk
  rw [Lib.cell_of_heap h, ← Array.getElem?_toList]; exact hk
theorem own_moved {q : Nat} {W W' : World} {e : TypeId} {s : Nat} {v : Value} {n : Nat} {xs : List Value} (h : W.ownsRow q e s v n xs) (hk : ∀ k, q ≤ k → k < W.heap.size → W'.heap[k]? = W.heap[k]?) : W'.ownsRow q e s v n xs := by
  refine ⟨h.1, ?_⟩
  rcases h.2 with h1 | ⟨g, cap, cur, h1, h2, h3, h4⟩
  · exact .inl h1
  · exact .inr ⟨g, cap, cur, h1, h2, (hk g h2 (Array.getElem?_eq_some_iff.1 h3).1).trans h3, h4⟩
end
section
open Go.RowKit
theorem own_apart {W : World} {q : Nat} {e e' : TypeId} {s s' : Nat} {v v' : Value} {n n' : Nat} {xs xs' : List Value} (h : W.ownsRow q e s v n xs) (h' : W.ownsRow q e' s' v' n' xs') (hne : e ≠ e') : v.ownBlock = none ∨ v.ownBlock ≠ v'.ownBlock := by
  cases hv : v.ownBlock with
  | none => exact .inl rfl
  | some g =>
    right
    intro e2
    obtain ⟨c, h1⟩ := own_tag h g hv
    obtain ⟨c', h2⟩ := own_tag h' g e2.symm
    rw [h1] at h2
    simp only [Option.some.injEq, Obj.cells.injEq] at h2
    exact hne h2.2.1
end
section
open Go.RowKit
set_option maxHeartbeats 1000000 in
theorem sign_any (b : Nat) (s : ByteArray) (i d : Nat) (w : World) (h : Rd b s i d w) (hi : i ≤ s.size) (hs : s.size ≤ 2000) :
    Calls Tryz.prog 84 #[.pointer (some ⟨b, 0, none⟩)] w fun e w' =>
      e = .returned (.int .u8 (Ex.sg s.data.toList (Ex.skip s.data.toList i))) ∧ Rd b s (Ex.skip s.data.toList i) d w' ∧ Keep b w w' := by
  have HL : Hid (s.data.toList.length = s.size) := by show _ = _; simp
  go_enter Tryz.func84, Tryz.ntmps84
  go_wp2
  go_loopg [] (s.size - i) (fun n wr => ∃ j : Nat, j ≤ s.size ∧ n = s.size - j ∧ Rd b s j d wr ∧ Keep b w wr ∧ Ex.skip s.data.toList j = Ex.skip s.data.toList i)
  case atStart => exact ⟨i, hi, rfl, h, Keep.refl _ _, rfl⟩
  case round =>
    obtain ⟨j, hj, hn, hr, hk, hsk⟩ := hrel
    have HN := hide hn
    have HR := hide hr
    have HK := hide hk
    have HS := hide hsk
    obtain ⟨c0, c1, c2, f1, f2⟩ := hr
    clear hn hk hsk
    by_cases hlt : j < s.size
    · have hlt' : (j : Int) < (s.size : Int) := by omega
      cases hb : ((s[j].toNat : Int) == 32) with
      | true =>
        have HX : Hid (Ex.skip s.data.toList (j + 1) = Ex.skip s.data.toList i) := by
          show _ = _
          rw [← Ex.skip_blank s.data.toList j (by rw [HL.out]; exact hlt) (blank_at s j hlt hb)]; exact HS.out
        go_wp2_with fail
        go_quiet (fail)
        go_wp2
        go_roundg (s.size - (j + 1))
        case measure => rw [HN.out]; omega
        case rel => exact ⟨j + 1, by omega, rfl, ((HR.out.drewN _).set1 (j + 1)), (HK.out.drewN _).setCell rfl _, HX.out⟩
      | false =>
        have HX : Hid (Ex.skip s.data.toList i = j) := by
          show _ = _
          rw [← HS.out]; exact Ex.skip_stop s.data.toList j (by rw [HL.out]; exact hlt) (not_blank_at s j hlt hb)
        have hne : ((j : Int) == (s.size : Int)) = false := beq_eq_false_iff_ne.2 (by omega)
        go_wp2_with fail
        go_quiet (fail)
        go_wp2
        go_quiet (fail)
        go_wp2
        go_quiet (fail)
        go_wp2
        go_ret
        refine ⟨ret_u8 ?_, ?_, ?_⟩
        · rw [HX.out, sg_at s j hlt]
        · rw [HX.out]; exact ((HR.out.drewN _).drewN _).drewN _
        · exact ((HK.out.drewN _).drewN _).drewN _
    · have hlt' : decide ((j : Int) < (s.size : Int)) = false := decide_eq_false (by omega)
      have HX : Hid (Ex.skip s.data.toList i = j) := by
        show _ = _
        rw [← HS.out]; exact Ex.skip_end s.data.toList j (by rw [HL.out]; omega)
      have hne : ((j : Int) == (s.size : Int)) = true := beq_iff_eq.2 (by omega)
      go_wp2_with fail
      go_quiet (fail)
      go_wp2
      go_quiet (fail)
      go_wp2
      go_ret
      refine ⟨ret_u8 ?_, ?_, ?_⟩
      · rw [HX.out, sg_end s j hlt]; rfl
      · rw [HX.out]; exact (HR.out.drewN _).drewN _
      · exact (HK.out.drewN _).drewN _
/-- the reader's error: an At at where it is -/
theorem wrong_any (b : Nat) (s : ByteArray) (i d : Nat) (n : Int) (w : World) (h : Rd b s i d w) :
    Calls Tryz.prog 85 #[.pointer (some ⟨b, 0, none⟩), .int .i64 n] w fun e w' =>
      e = .returned (.iface 227 (.pointer (some ⟨w.heap.size, 0, none⟩))) ∧ w' = w.alloc (.cells #[.int .i64 n, .int .i64 (i : Int)] 228) := by
  obtain ⟨c0, c1, c2, f1, f2⟩ := h
  go_enter Tryz.func85, Tryz.ntmps85
  go_wp2
  go_ret
  exact ⟨rfl, rfl⟩
theorem ends_table : ∀ c : Fin 256, decide (0 ≤ Lib.indexByte [32, 38, 124, 33, 94, 126, 40, 41, 61] (c.val : Int).toNat.toUInt8) = Ex.ends c.val := by decide +kernel
theorem ends_index (c : Nat) (hc : c < 256) : decide (0 ≤ Lib.indexByte [32, 38, 124, 33, 94, 126, 40, 41, 61] (c : Int).toNat.toUInt8) = Ex.ends c := ends_table ⟨c, hc⟩
theorem endsWord_any (c : Nat) (hc : c < 256) (w : World) :
    Calls Tryz.prog 240 #[.int .u8 (c : Int)] w fun e w' => e = .returned (.bool (Ex.ends c)) ∧ w' = w := by
  have hx : ∀ w : World, (callFunc 175 #[.string ⟨#[32, 38, 124, 33, 94, 126, 40, 41, 61]⟩, .int .u8 (c : Int)]).run Tryz.prog w = .ok (.value (.int .i64 (Lib.indexByte [32, 38, 124, 33, 94, 126, 40, 41, 61] (c : Int).toNat.toUInt8))) w := by
    intro w
    rw [run_callFunc_extern Tryz.func175 (by kernel_rfl) (by kernel_rfl) (by kernel_rfl) (e := Extern.BytealgIndexByte.indexByte) (by kernel_rfl), Lib.run_indexByteString]
    rfl
  have HE := hide (ends_index c hc)
  clear hc
  generalize Lib.indexByte [32, 38, 124, 33, 94, 126, 40, 41, 61] (c : Int).toNat.toUInt8 = n at *
  go_enter Tryz.func240, Tryz.ntmps240
  go_wp2
  go_ret
  exact ⟨ret_bool HE.out, rfl⟩
end
section
open Go.RowKit
theorem Clone_any (s : ByteArray) (w : World) (hs : s.size ≤ 2000) :
    Calls Tryz.prog 233 #[.string s] w fun e w' => e = .returned (.string s) ∧ Below w.heap.size w w' := by
  go_enter Tryz.func233, Tryz.ntmps233
  go_wp2_with (go_at_call 261; refine (Tryz.stringslite_Clone s _ (by omega)).mono ?_; rintro e w' ⟨rfl, hb⟩)
  go_ret
  exact ⟨rfl, hb⟩
theorem made3 (s : ByteArray) (w : World) : Calls Tryz.prog 207 #[.string s] w fun e w' => e = .returned (.iface 250 (.string s)) ∧ w' = w := by
  go_enter Tryz.func207, Tryz.ntmps207
  go_wp2
  go_ret
  exact ⟨rfl, rfl⟩
theorem made4 (s : ByteArray) (w : World) : Calls Tryz.prog 208 #[.string s] w fun e w' => e = .returned (.iface 251 (.string s)) ∧ w' = w := by
  go_enter Tryz.func208, Tryz.ntmps208
  go_wp2
  go_ret
  exact ⟨rfl, rfl⟩
theorem made2 (s : ByteArray) (w : World) : Calls Tryz.prog 209 #[.string s] w fun e w' => e = .returned (.iface 249 (.string s)) ∧ w' = w := by
  go_enter Tryz.func209, Tryz.ntmps209
  go_wp2
  go_ret
  exact ⟨rfl, rfl⟩
/-- a closure that makes a name's expression, of that kind -/
def Makes (K kind : Nat) : Prop := (∀ (args : Array Value) (w : World), (callFunc K args).run Tryz.prog w = .ok (.enter K args) w) ∧ ∃ T, (∀ (n : ByteArray) (w : World), Calls Tryz.prog K #[.string n] w fun e w' => e = .returned (.iface T (.string n)) ∧ w' = w) ∧
  ∀ (ok : Nat → Prop) (w : World) (nm : List UInt8), nm.length ≤ 8 → IsEx ok w ⟨kind, nm, []⟩ (.iface T (.string ⟨nm.toArray⟩))
theorem makes2 : Makes 209 2 := ⟨fun _ _ => by kernel_rfl, _, made2, fun ok w nm h => by simp only [IsEx]; exact ⟨trivial, h, trivial⟩⟩
theorem makes3 : Makes 207 3 := ⟨fun _ _ => by kernel_rfl, _, made3, fun ok w nm h => by simp only [IsEx]; exact ⟨trivial, h, trivial⟩⟩
theorem makes4 : Makes 208 4 := ⟨fun _ _ => by kernel_rfl, _, made4, fun ok w nm h => by simp only [IsEx]; exact ⟨trivial, h, trivial⟩⟩
theorem sg_lt256 (l : List UInt8) (i : Nat) : Ex.sg l i < 256 := by
  unfold Ex.sg
  split
  · exact UInt8.toNat_lt _
  · decide
theorem cut_eq (s : ByteArray) (j k : Nat) : (s.extract j k).data.toList = Ex.cut s.data.toList j k := by
  rw [Lib.extract_data, Ex.cut, List.drop_take]
theorem name_len (l : List UInt8) (h : Nm.name l = true) : l.length ≤ 8 := by
  unfold Nm.name at h
  simp only [Bool.and_eq_true, decide_eq_true_eq] at h
  exact h.1.1.1.2
theorem arr_eq (s : ByteArray) : (⟨s.data.toList.toArray⟩ : ByteArray) = s := rfl
/-- reading a name, at the place of its first sign -/
def nameAt (l : List UInt8) (kind j c : Nat) : Ex.Res Ex :=
  if c = 48 ∨ c = 49 ∨ Ex.ends c = true then .inl (3, j)
  else if Nm.name (Ex.cut l j (Ex.wend l j)) = true then .inr (⟨kind, Ex.cut l j (Ex.wend l j), []⟩, Ex.wend l j)
  else .inl (5, j)
set_option maxHeartbeats 1000000 in
theorem named_any (K kind : Nat) (hK : Makes K kind) (b : Nat) (s : ByteArray) (i d : Nat) (w : World) (h : Rd b s i d w) (hi : i ≤ s.size) (hs : s.size ≤ 2000) :
    Calls Tryz.prog 206 #[.pointer (some ⟨b, 0, none⟩), .func (.func K) #[] #[]] w (Read b s d w (Ex.nameP s.data.toList kind i)) := by
  obtain ⟨hK0, T, hK1, hK2⟩ := hK
  have HK1 := hide hK1
  have HK2 := hide hK2
  clear hK1 hK2
  have HL : Hid (s.data.toList.length = s.size) := by show _ = _; simp
  have H := hide h
  clear h
  have hge := Ex.skip_ge s.data.toList i
  have hle := Ex.skip_le s.data.toList i (by rw [HL.out]; exact hi)
  rw [HL.out] at hle
  have hc := sg_lt256 s.data.toList (Ex.skip s.data.toList i)
  have HP : Hid (Ex.nameP s.data.toList kind i = nameAt s.data.toList kind (Ex.skip s.data.toList i) (Ex.sg s.data.toList (Ex.skip s.data.toList i))) := rfl
  have HS : Hid (∀ W : World, Calls Tryz.prog 84 #[.pointer (some ⟨b, 0, none⟩)] w fun e w' =>
      e = .returned (.int .u8 (Ex.sg s.data.toList (Ex.skip s.data.toList i))) ∧ Rd b s (Ex.skip s.data.toList i) d w' ∧ Keep b w w') := fun _ => sign_any b s i d w H.out hi hs
  have HG : Hid (¬ Ex.skip s.data.toList i < s.size → Ex.ends (Ex.sg s.data.toList (Ex.skip s.data.toList i)) = true) := fun h => by rw [sg_end s _ h]; exact Ex.ends32
  generalize hj : Ex.skip s.data.toList i = j at *
  generalize hcc : Ex.sg s.data.toList j = c at *
  clear hj hcc
  go_enter Tryz.func206, Tryz.ntmps206
  go_wp2_with fail
  refine (HS.out w).mono ?_
  rintro e w1 ⟨rfl, hr1, hk1⟩
  clear HS H
  have HR1 := hide hr1
  have HK := hide hk1
  obtain ⟨c0, c1, c2, f1, f2⟩ := hr1
  clear hk1
  have bad : ∀ (W : World) (err : Nat) (e : Ending) (w' : World), Rd b s j d W → Keep b w W → Ex.nameP s.data.toList kind i = .inl (err, j) → e = .returned (.tuple #[.nilIface, .iface 227 (.pointer (some ⟨W.heap.size, 0, none⟩))]) → w' = W.alloc (.cells #[.int .i64 (err : Int), .int .i64 (j : Int)] 228) → Read b s d w (Ex.nameP s.data.toList kind i) e w' := by
    intro W err e w' hr hk h1 h2 h3
    subst h3
    rw [h1]
    refine ⟨hk.alloc _, _, j, h2, ⟨W.heap.size, by have := hr.lt; omega, rfl, ?_, ?_⟩, hr.below ((Below.refl _ _).alloc (Nat.le_refl _) _)⟩
    · simp [World.cell?_alloc_at]
    · simp [World.cell?_alloc_at]
  have BAD := hide bad
  clear bad
  by_cases q1 : c = 48
  · have HX : Hid (Ex.nameP s.data.toList kind i = .inl (3, j)) := by show _ = _; rw [HP.out, nameAt, if_pos (.inl q1)]
    have e1 : ((c : Int) == 48) = true := beq_iff_eq.2 (by omega)
    clear q1 HP
    go_wp2_with fail
    refine (wrong_any b s j d 3 w1 HR1.out).mono ?_
    rintro e w2 ⟨rfl, rfl⟩
    go_wp2
    go_ret2
    exact BAD.out _ 3 _ _ HR1.out HK.out HX.out rfl rfl
  have e1 : ((c : Int) == 48) = false := beq_eq_false_iff_ne.2 (by omega)
  by_cases q2 : c = 49
  · have HX : Hid (Ex.nameP s.data.toList kind i = .inl (3, j)) := by show _ = _; rw [HP.out, nameAt, if_pos (.inr (.inl q2))]
    have e2 : ((c : Int) == 49) = true := beq_iff_eq.2 (by omega)
    clear q2 HP
    go_wp2_with fail
    refine (wrong_any b s j d 3 w1 HR1.out).mono ?_
    rintro e w2 ⟨rfl, rfl⟩
    go_wp2
    go_ret2
    exact BAD.out _ 3 _ _ HR1.out HK.out HX.out rfl rfl
  have e2 : ((c : Int) == 49) = false := beq_eq_false_iff_ne.2 (by omega)
  cases q3 : Ex.ends c with
  | true =>
    have HX : Hid (Ex.nameP s.data.toList kind i = .inl (3, j)) := by show _ = _; rw [HP.out, nameAt, if_pos (.inr (.inr q3))]
    clear HP
    go_wp2_with fail
    refine (endsWord_any c hc w1).mono ?_
    rintro e w2 ⟨rfl, rfl⟩
    go_wp2_with fail
    refine (wrong_any b s j d 3 w2 HR1.out).mono ?_
    rintro e w3 ⟨rfl, rfl⟩
    go_wp2
    go_ret2
    exact BAD.out _ 3 _ _ HR1.out HK.out HX.out rfl rfl
  | false =>
    have hjs : j < s.size := by
      by_cases hx : j < s.size
      · exact hx
      · have := HG.out hx; rw [q3] at this; cases this
    have HX : Hid (Ex.nameP s.data.toList kind i = if Nm.name (Ex.cut s.data.toList j (Ex.wend s.data.toList j)) = true then .inr (⟨kind, Ex.cut s.data.toList j (Ex.wend s.data.toList j), []⟩, Ex.wend s.data.toList j) else .inl (5, j)) := by
      show _ = _
      rw [HP.out, nameAt, if_neg (by rw [q3]; simp [q1, q2])]
    clear HP
    go_wp2_with fail
    refine (endsWord_any c hc w1).mono ?_
    rintro e w2 ⟨rfl, rfl⟩
    clear q1 q2
    go_wp2_with fail
    go_loop [7] (fun t => ∃ k : Nat, j ≤ k ∧ k ≤ s.size ∧ t = .int .i64 (k : Int) ∧ Ex.wend s.data.toList k = Ex.wend s.data.toList j) (fun t => s.size - (intOf t).toNat)
    case atStart => exact ⟨j, Nat.le_refl _, by omega, rfl, rfl⟩
    case round =>
      obtain ⟨k, hjk, hks, rfl, hw⟩ := hrel
      have HW := hide hw
      clear hw
      by_cases hlt : k < s.size
      · have hlt' : (k : Int) < (s.size : Int) := by omega
        cases hb : Ex.ends s[k].toNat with
        | false =>
          have HN : Hid (Ex.wend s.data.toList (k + 1) = Ex.wend s.data.toList j) := by
            show _ = _
            rw [← HW.out]
            exact (Ex.wend_on s.data.toList k (by rw [HL.out]; exact hlt) (by rw [getD_byte s k hlt]; exact hb)).symm
          go_wp2_with fail
          refine (endsWord_any s[k].toNat (UInt8.toNat_lt _) w2).mono ?_
          rintro e w3 ⟨rfl, rfl⟩
          go_wp2_with fail
          go_round
          case rel => exact ⟨k + 1, by omega, by omega, by go_num, HN.out⟩
          case measure => simp [intOf]; omega
        | true =>
          have HN : Hid (Ex.wend s.data.toList j = k) := by
            show _ = _
            rw [← HW.out]
            exact Ex.wend_stop s.data.toList k (by rw [HL.out]; exact hlt) (by rw [getD_byte s k hlt]; exact hb)
          go_wp2_with fail
          refine (endsWord_any s[k].toNat (UInt8.toNat_lt _) w2).mono ?_
          rintro e w3 ⟨rfl, rfl⟩
          go_wp2_with fail
          go_quiet (fail)
          go_wp2_with fail
          refine (Name_any (s.extract j k) _ (by simp [maxLen]; omega)).mono ?_
          rintro e w4 ⟨rfl, rfl⟩
          cases hnm : Nm.name (s.extract j k).data.toList with
          | false =>
            have HB : Hid (Ex.nameP s.data.toList kind i = .inl (5, j)) := by
              show _ = _
              rw [HX.out, HN.out, ← cut_eq, hnm]; rfl
            go_wp2_with fail
            refine (wrong_any b s j d 5 _ (HR1.out.drewN _)).mono ?_
            rintro e w5 ⟨rfl, rfl⟩
            go_wp2
            go_ret2
            exact BAD.out _ 5 _ _ (HR1.out.drewN _) (HK.out.drewN _) HB.out rfl rfl
          | true =>
            have HB : Hid (Ex.nameP s.data.toList kind i = .inr (⟨kind, (s.extract j k).data.toList, []⟩, k)) := by
              show _ = _
              rw [HX.out, HN.out, ← cut_eq, hnm]; rfl
            have H8 : Hid ((s.extract j k).data.toList.length ≤ 8) := name_len _ hnm
            clear hnm
            go_wp2_with fail
            refine (Clone_any (s.extract j k) _ (by simp; omega)).mono ?_
            rintro e w5 ⟨rfl, hb5⟩
            have HB5 := hide hb5
            clear hb5
            go_wp2_with fail
            refine (HK1.out (s.extract j k) w5).mono ?_
            rintro e w6 ⟨rfl, rfl⟩
            go_wp2_with fail
            go_ret2
            rw [HB.out]
            have HE := HK2.out (fun g => w.heap.size ≤ g) w6 _ H8.out
            rw [arr_eq] at HE
            exact ⟨((HK.out.setCell rfl _).drewN _).trans (Keep.of_below HB5.out), _, rfl, HE, ((HR1.out.set1 k).drewN _).below HB5.out⟩
      · have HN : Hid (Ex.wend s.data.toList j = k) := by
          show _ = _
          rw [← HW.out]
          exact Ex.wend_end s.data.toList k (by rw [HL.out]; omega)
        go_wp2_with fail
        go_quiet (fail)
        go_wp2_with fail
        refine (Name_any (s.extract j k) _ (by simp [maxLen]; omega)).mono ?_
        rintro e w4 ⟨rfl, rfl⟩
        cases hnm : Nm.name (s.extract j k).data.toList with
        | false =>
          have HB : Hid (Ex.nameP s.data.toList kind i = .inl (5, j)) := by
            show _ = _
            rw [HX.out, HN.out, ← cut_eq, hnm]; rfl
          go_wp2_with fail
          refine (wrong_any b s j d 5 _ (HR1.out.drewN _)).mono ?_
          rintro e w5 ⟨rfl, rfl⟩
          go_wp2
          go_ret2
          exact BAD.out _ 5 _ _ (HR1.out.drewN _) (HK.out.drewN _) HB.out rfl rfl
        | true =>
          have HB : Hid (Ex.nameP s.data.toList kind i = .inr (⟨kind, (s.extract j k).data.toList, []⟩, k)) := by
            show _ = _
            rw [HX.out, HN.out, ← cut_eq, hnm]; rfl
          have H8 : Hid ((s.extract j k).data.toList.length ≤ 8) := name_len _ hnm
          clear hnm
          go_wp2_with fail
          refine (Clone_any (s.extract j k) _ (by simp; omega)).mono ?_
          rintro e w5 ⟨rfl, hb5⟩
          have HB5 := hide hb5
          clear hb5
          go_wp2_with fail
          refine (HK1.out (s.extract j k) w5).mono ?_
          rintro e w6 ⟨rfl, rfl⟩
          go_wp2_with fail
          go_ret2
          rw [HB.out]
          have HE := HK2.out (fun g => w.heap.size ≤ g) w6 _ H8.out
          rw [arr_eq] at HE
          exact ⟨((HK.out.setCell rfl _).drewN _).trans (Keep.of_below HB5.out), _, rfl, HE, ((HR1.out.set1 k).drewN _).below HB5.out⟩
end
section
open Go.RowKit
theorem Keep.grown {b : Nat} {a w w' : World} {row : Option Nat} (h : Keep b a w) (hg : w.grownBy w' row) (hr : ∀ k, row = some k → a.heap.size ≤ k) : Keep b a w' :=
  ⟨hg.os.trans h.os, hg.tape.trans h.tape, hg.output.trans h.output, Nat.le_trans h.size hg.size, fun k hk hb => (hg.block k (Nat.lt_of_lt_of_le hk h.size) (fun e => by have := hr k e.symm; omega)).trans (h.block k hk hb)⟩
theorem Keep.toGrown {b : Nat} {w w' : World} (h : Keep b w w') : w.grownBy w' (some b) := ⟨h.os, h.tape, h.output, h.size, fun k hk hb => h.block k hk (fun e => hb (by rw [e]))⟩
theorem Rd.grown {b : Nat} {s : ByteArray} {i d : Nat} {w w' : World} {row : Option Nat} (h : Rd b s i d w) (hg : w.grownBy w' row) (hb : some b ≠ row) : Rd b s i d w' := by
  have e := hg.block b h.lt hb
  exact ⟨(World.cell?_of_block (w := w) e).trans h.c0, (World.cell?_of_block (w := w) e).trans h.c1, (World.cell?_of_block (w := w) e).trans h.c2, (World.frozen?_of_block (w := w) e).trans h.f1, (World.frozen?_of_block (w := w) e).trans h.f2⟩
/-- The list so far: v is a row of the call's own that holds what was read. -/
structure LS (b : Nat) (s : ByteArray) (d : Nat) (w : World) (v : Value) (xs : List Ex) (us : List Value) (i : Nat) (wr : World) : Prop where
  rd : Rd b s i d wr
  keep : Keep b w wr
  hb : b < w.heap.size
  own : wr.ownsRow w.heap.size 27 1 v us.length us
  len : us.length = xs.length
  each : ∀ (j : Nat) (x : Ex) (u : Value), xs[j]? = some x → us[j]? = some u → IsEx (fun g => w.heap.size ≤ g ∧ some g ≠ v.ownBlock) wr x u
namespace LS
variable {b : Nat} {s : ByteArray} {d : Nat} {w : World} {v : Value} {xs : List Ex} {us : List Value} {i : Nat} {wr : World}
theorem start (h : Rd b s i d w) : LS b s d w (.slice none 0 0) [] [] i w := ⟨h, Keep.refl _ _, h.lt, World.ownsRow_nil _ _ _ _, rfl, fun j x u hx => by simp at hx⟩
theorem far (h : LS b s d w v xs us i wr) : v.ownBlock = none ∨ v.ownBlock ≠ some b := by
  cases hv : v.ownBlock with
  | none => exact .inl rfl
  | some k => right; intro e; have := h.own.lt k hv; have h1 := h.hb; simp only [Option.some.injEq] at e; omega
theorem read {m : Nat} {w1 : World} (h : LS b s d w v xs us i wr) (hk : Keep b wr w1) (hr : Rd b s m d w1) : LS b s d w v xs us m w1 :=
  ⟨hr, h.keep.trans hk, h.hb, h.own.kept hk.toGrown h.far, h.len, fun j x u hx hu => IsEx.stay (Stay.keep hk fun g hg e => by have := h.hb; omega) (fun g hg => hg) x u (h.each j x u hx hu)⟩
theorem push {x : Ex} {u v' : Value} {B : Nat} {w2 : World} {o : Obj} (h : LS b s d w v xs us i wr) (hB : w.heap.size ≤ B) (hv : ∀ k, v.ownBlock = some k → k < B) (hx : IsEx (fun g => B ≤ g) wr x u)
    (hg : (wr.alloc o).grownBy w2 v.ownBlock) (hown : w2.ownsRow w.heap.size 27 1 v' (us.length + 1) (us ++ [u])) (hat : v'.ownBlock = v.ownBlock ∨ v'.ownBlock = some (wr.heap.size + 1)) :
    LS b s d w v' (xs ++ [x]) (us ++ [u]) i w2 := by
  have hb0 := h.hb
  have hal : Below wr.heap.size wr (wr.alloc o) := (Below.refl _ _).alloc (Nat.le_refl _) o
  have st : ∀ (ok : Nat → Prop), (∀ g, ok g → some g ≠ v.ownBlock) → Stay ok wr w2 := fun ok hok => (Stay.below hal).trans (Stay.grown hg hok)
  have nb : some b ≠ v.ownBlock := fun e => by rcases h.far with h1 | h1 <;> simp [← e] at h1
  refine ⟨(h.rd.below hal).grown hg nb, (h.keep.alloc o).grown hg (fun k hk => (h.own.lt k hk).1), h.hb, ?_, by simp [h.len], ?_⟩
  · have e : (us ++ [u]).length = us.length + 1 := by simp
    rw [e]; exact hown
  · intro j y z hy hz
    have fin : ∀ (ok : Nat → Prop), (∀ g, ok g → w.heap.size ≤ g ∧ some g ≠ v.ownBlock ∧ g < wr.heap.size) → IsEx ok wr y z → IsEx (fun g => w.heap.size ≤ g ∧ some g ≠ v'.ownBlock) w2 y z := by
      intro ok hok hyz
      refine IsEx.stay (st ok fun g hg => (hok g hg).2.1) (fun g hg => ⟨(hok g hg).1, ?_⟩) y z hyz
      have h3 := hok g hg
      rcases hat with e | e
      · rw [e]; exact h3.2.1
      · rw [e]; intro e2; simp only [Option.some.injEq] at e2; omega
    by_cases hj : j < xs.length
    · rw [List.getElem?_append_left hj] at hy
      rw [List.getElem?_append_left (by rw [h.len]; exact hj)] at hz
      refine fin _ ?_ (IsEx.lt y z (h.each j y z hy hz))
      intro g hg
      exact ⟨hg.1.1, hg.1.2, hg.2⟩
    · have hj2 : j = xs.length := by
        by_cases e : j = xs.length
        · exact e
        · rw [List.getElem?_eq_none (by simp; omega)] at hy; cases hy
      subst hj2
      rw [List.getElem?_append_right (Nat.le_refl _)] at hy
      rw [List.getElem?_append_right (by rw [h.len]; exact Nat.le_refl _)] at hz
      simp only [Nat.sub_self, List.getElem?_cons_zero, Option.some.injEq] at hy
      rw [h.len] at hz
      simp only [Nat.sub_self, List.getElem?_cons_zero, Option.some.injEq] at hz
      subst hy hz
      refine fin _ ?_ (IsEx.lt x u hx)
      intro g hg
      refine ⟨by have := hg.1; omega, fun e => ?_, hg.2⟩
      have := hv g e.symm
      have := hg.1
      omega
theorem set1 (h : LS b s d w v xs us i wr) (j : Nat) : LS b s d w v xs us j (wr.setCell ⟨b, 1, none⟩ (.int .i64 (j : Int))) :=
  h.read (Keep.setCell (b := b) (p := ⟨b, 1, none⟩) (Keep.refl b wr) rfl _) (h.rd.set1 j)
end LS
/-- What reading a list comes to in memory. -/
def ReadL (b : Nat) (s : ByteArray) (d : Nat) (w : World) (r : Ex.Res (List Ex)) (e : Ending) (w' : World) : Prop :=
  match r with
  | .inl (err, p) => ∃ v i, e = .returned (.tuple #[.slice none 0 0, v]) ∧ IsErr b w' v err p ∧ Rd b s i d w' ∧ Keep b w w'
  | .inr (xs, m) => ∃ v us, e = .returned (.tuple #[v, .nilIface]) ∧ LS b s d w v xs us m w'
def comb (xs : List Ex) : Ex.Res (List Ex) → Ex.Res (List Ex)
  | .inl e => .inl e
  | .inr (ys, m) => .inr (xs ++ ys, m)
theorem comb_nil (r : Ex.Res (List Ex)) : comb [] r = r := by
  cases r with
  | inl e => rfl
  | inr p => rfl
theorem listP_err (l : List UInt8) (sep : Nat) (R : Nat → Ex.Res Ex) (f i : Nat) (xs : List Ex) (e : Nat × Nat) (h : R i = .inl e) : comb xs (Ex.listP l sep R (f + 1) i) = .inl e := by
  simp only [Ex.listP, h, comb]
theorem listP_end (l : List UInt8) (sep : Nat) (R : Nat → Ex.Res Ex) (f i : Nat) (xs : List Ex) (x : Ex) (j : Nat) (h : R i = .inr (x, j)) (hc : Ex.sg l (Ex.skip l j) ≠ sep) : comb xs (Ex.listP l sep R (f + 1) i) = .inr (xs ++ [x], Ex.skip l j) := by
  simp only [Ex.listP, h, comb, if_neg hc]
theorem listP_more (l : List UInt8) (sep : Nat) (R : Nat → Ex.Res Ex) (f i : Nat) (xs : List Ex) (x : Ex) (j : Nat) (h : R i = .inr (x, j)) (hc : Ex.sg l (Ex.skip l j) = sep) : comb xs (Ex.listP l sep R (f + 1) i) = comb (xs ++ [x]) (Ex.listP l sep R f (Ex.skip l j + 1)) := by
  simp only [Ex.listP, h, if_pos hc]
  cases Ex.listP l sep R f (Ex.skip l j + 1) with
  | inl e => rfl
  | inr p => simp [comb]
/-- a function that reads: its answer is R's -/
def Reads (K : Nat) (s : ByteArray) (d : Nat) (R : Nat → Ex.Res Ex) : Prop := ∀ (b i : Nat) (w : World), Rd b s i d w → i ≤ s.size → Calls Tryz.prog K #[.pointer (some ⟨b, 0, none⟩)] w (Read b s d w (R i))
theorem Tryz.infoExpr : (Tryz.prog.info? 27).map (fun i => (i.zero, i.size, i.bytes)) = some (some .nilIface, 1, 16) := by kernel_rfl
set_option maxHeartbeats 2000000 in
theorem list_any (K : Nat) (hent : Entered K) (b : Nat) (s : ByteArray) (i d N : Nat) (hN : s.size < N) (sep : Nat) (sepI : Int) (hsep : sepI = (sep : Int)) (hne : sep ≠ 32) (R : Nat → Ex.Res Ex) (hadv : Ex.Adv s.data.toList R) (hR : Reads K s d R) (w : World) (h : Rd b s i d w) (hi : i ≤ s.size) (hs : s.size ≤ 2000) :
    Calls Tryz.prog 133 #[.pointer (some ⟨b, 0, none⟩), .int .u8 sepI, .func (.func K) #[.pointer (some ⟨b, 0, none⟩)] #[]] w (ReadL b s d w (Ex.listP s.data.toList sep R N i)) := by
  obtain ⟨i0, hi0, hz0, hz1, hz2⟩ := info_parts Tryz.infoExpr
  have HR := hide hR
  have HA := hide hadv
  have HL : Hid (s.data.toList.length = s.size) := by show _ = _; simp
  have H := hide h
  have HSEP := hide hsep
  have HNE := hide hne
  have hent' : ∀ (args : Array Value) (w : World), (callFunc K args).run Tryz.prog w = .ok (.enter K args) w := hent
  clear hR hadv h hsep hent hne
  obtain ⟨T, hT⟩ : ∃ T, T = Ex.listP s.data.toList sep R N i := ⟨_, rfl⟩
  rw [← hT]
  have HT : Hid (T = comb [] (Ex.listP s.data.toList sep R N i)) := by
    show _ = _
    rw [comb_nil, hT]
  clear hT
  go_enter Tryz.func133, Tryz.ntmps133
  go_wp2_with fail
  go_loopg [8] N (fun n v wr => ∃ (xs : List Ex) (us : List Value) (j : Nat), j ≤ s.size ∧ s.size - j < n ∧ xs.length ≤ j ∧ LS b s d w v xs us j wr ∧ T = comb xs (Ex.listP s.data.toList sep R n j))
  case atStart => exact ⟨[], [], i, hi, by omega, Nat.zero_le _, LS.start H.out, HT.out⟩
  case round =>
    clear HT
    obtain ⟨xs, us, j, hj, hn, hxs, hls, htot⟩ := hrel
    have HLS := hide hls
    have HTOT := hide htot
    clear hls htot H
    obtain ⟨n, rfl⟩ : ∃ n, gk = n + 1 := ⟨gk - 1, by omega⟩
    go_wp2_with fail
    refine (HR.out b j wr HLS.out.rd hj).mono ?_
    intro e w1 hq
    cases hRj : R j with
    | inl p =>
      obtain ⟨err, pl⟩ := p
      rw [hRj] at hq
      obtain ⟨hk, v, i', rfl, herr, hrd⟩ := hq
      have HF : Hid (T = .inl (err, pl)) := by show _ = _; rw [HTOT.out]; exact listP_err _ _ _ _ _ _ _ hRj
      have HE := hide herr
      have HD := hide hrd
      have HK := hide hk
      obtain ⟨a, ha, hv, hc0, hc1⟩ := herr
      clear hrd hk hRj ha hc0 hc1
      rw [hv] at HE
      rw [hv]
      clear hv
      go_wp2_with fail
      go_ret2
      rw [HF.out]
      exact ⟨_, i', rfl, HE.out, HD.out, HLS.out.keep.trans HK.out⟩
    | inr p =>
      obtain ⟨x, m⟩ := p
      rw [hRj] at hq
      obtain ⟨hk, u, rfl, hx, hrd⟩ := hq
      have hadv := HA.out j x m (by rw [HL.out]; exact hj) hRj
      rw [HL.out] at hadv
      have HRJ := hide hRj
      have HX := hide hx
      have L1 := hide (HLS.out.read hk hrd)
      have HB : Hid (∀ k, u8.ownBlock = some k → k < wr.heap.size) := fun k hk => (HLS.out.own.lt k hk).2
      have HW : Hid (w.heap.size ≤ wr.heap.size) := HLS.out.keep.size
      have hus := HLS.out.len
      obtain ⟨tu, yu, hu⟩ := IsEx.iface x u hx
      clear hrd hk hRj hx
      subst hu
      have HOWN := hide (L1.out.own.alloc (.cells #[.iface tu yu] 27))
      have hul : us.length ≤ 2000 := by rw [hus]; omega
      clear hus
      have hbs : w.heap.size ≤ w1.heap.size := L1.out.keep.size
      go_wp2_with (at_builtin; refine wpList_append_own_at _ rfl (.tmp 19) (.tmp 21) 241 rfl w.heap.size 27 i0 .nilIface 1 16 Tryz.underlying241 hi0 hz0 hz1 hz2 rfl (by decide) _ us.length us rfl HOWN.out ⟨w1.heap.size, 0, none⟩ 1 1 [.iface tu yu] rfl rfl (cell_one_new _ _ _) ?c2 ?c3 ?c4 ?c5 ?_)
      case c2 => intro z hz; simp at hz; subst hz; rfl
      case c3 => unfold maxLen; omega
      case c4 => omega
      case c5 => simp; omega
      intro v' w2 hown' hgrow _ hat
      have L2 := hide (L1.out.push HW.out HB.out HX.out hgrow hown' hat)
      clear hown' hgrow hat HOWN L1 HX HB
      have hge := Ex.skip_ge s.data.toList m
      have hle := Ex.skip_le s.data.toList m (by rw [HL.out]; omega)
      rw [HL.out] at hle
      have HS := hide (sign_any b s m d w2 L2.out.rd (by omega) hs)
      have HEND : Hid (Ex.sg s.data.toList (Ex.skip s.data.toList m) ≠ sep → T = .inr (xs ++ [x], Ex.skip s.data.toList m)) := fun hc => by rw [HTOT.out]; exact listP_end _ _ _ _ _ _ _ _ HRJ.out hc
      have HMORE : Hid (Ex.sg s.data.toList (Ex.skip s.data.toList m) = sep → Ex.skip s.data.toList m < s.size ∧ T = comb (xs ++ [x]) (Ex.listP s.data.toList sep R n (Ex.skip s.data.toList m + 1))) := fun hc =>
        ⟨by have := Ex.sg_lt s.data.toList _ (by rw [hc]; exact HNE.out); rw [HL.out] at this; exact this, by rw [HTOT.out]; exact listP_more _ _ _ _ _ _ _ _ HRJ.out hc⟩
      generalize Ex.skip s.data.toList m = q at *
      generalize Ex.sg s.data.toList q = c at *
      go_wp2_with fail
      refine HS.out.mono ?_
      rintro e w3 ⟨rfl, hr3, hk3⟩
      have L3 := hide (L2.out.read hk3 hr3)
      clear L2 HS
      obtain ⟨c0, c1, c2, f1, f2⟩ := hr3
      clear hk3
      by_cases hc : c = sep
      · have hm := HMORE.out hc
        have hq := hm.1
        have HT2 := hide hm.2
        have e1 : ((c : Int) != sepI) = false := by rw [HSEP.out, hc]; simp
        clear hm hc HMORE HEND
        go_wp2_with fail
        go_roundg n
        case measure => omega
        case rel => exact ⟨xs ++ [x], us ++ [.iface tu yu], q + 1, by omega, by omega, by simp; omega, L3.out.set1 (q + 1), HT2.out⟩
      · have HT2 := hide (HEND.out hc)
        have e1 : ((c : Int) != sepI) = true := by rw [HSEP.out]; simp; omega
        clear hc HMORE HEND
        go_wp2_with fail
        go_ret2
        rw [HT2.out]
        exact ⟨_, _, rfl, L3.out⟩
end
end Go.Proofs.YtgldbliohpfljaaGreatDoor
