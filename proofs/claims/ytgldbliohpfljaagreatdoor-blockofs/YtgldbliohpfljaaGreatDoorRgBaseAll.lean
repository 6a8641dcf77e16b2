/-
  The walk of package machine's Sees. (Out of McSees.) The walk of package machine's Sees where it refuses. Plain: what is told of some names, as a number. The walk of package block's bits. Package block's Of where it refuses at once: no machine; too many names. Plain: names' numbers. The walk of BlockOfs where there are too many names. Slices of slices of numbers in memory. Tables of numbers in memory, row by row, as package block's Of lays them. The walk of slices.Clone at a row of numbers. Plain: rows of where scans lead to. (Out of LwMakes.) Two own rows that grow side by side, in blocks of their own. Laws for a statement whose operations Go may carry out in more than one order, gone through by hand: an operation is taken first, passed by, or comes up.
-/
import Derived.Test.YtgldbliohpfljaaGreatDoorMcFillAll
import Derived.Test.YtgldbliohpfljaaGreatDoorNaEdgesAll
import Derived.Test.YtgldbliohpfljaaGreatDoorLwBareAll
import Derived.Test.YtgldbliohpfljaaGreatDoorLdCheckAll
import Derived.Test.YtgldbliohpfljaaGreatDoorRlEdgesAll
import Derived.Test.YtgldbliohpfljaaGreatDoorRfStateMAll
import Derived.Test.YtgldbliohpfljaaGreatDoorMcOffAll
import Derived.Test.YtgldbliohpfljaaGreatDoorScStepA
import Derived.Test.YtgldbliohpfljaaGreatDoorRows
import Derived.WalkKit
import Derived.Deep.AppendLies
import Derived.Deep.RegionHeld3
namespace Go.Proofs.YtgldbliohpfljaaGreatDoor
section
open Go.RowKit
set_option maxHeartbeats 2000000 in
set_option maxRecDepth 100000 in
/-- what is seen behind a scan: bits of a number of the table -/
theorem Sees_any (bm : Nat) (n : Nat) (nv rv nx : Value) (S I g gS lo s i x : Nat) (us : List Nat) (rows : Nat → List Value) (w : World) (h : MachAt w bm nv rv S I nx (slV g n) (slV gS S)) (ht : LL w gS 36 3 S I lo us rows) (hul : us.length = S) (hs : s < S) (hi : i < I) (hn : n ≤ 12) (hx : (rows s)[i]? = some (.int .i64 (x : Int))) :
    Calls Tryz.prog 37 #[.pointer (some ⟨bm, 0, none⟩), .int .i64 (s : Int), .int .i64 (i : Int)] w fun e w' => ∃ gb, e = .returned (.tuple #[slV gb n, .nilIface]) ∧ RowIs w' gb 4 ((bitsTo x n).map boolV) ∧ w.heap.size ≤ gb ∧ Below w.heap.size w w' := by
  obtain ⟨⟨c0, c1⟩, ⟨c2, c3⟩, c4, c5, c6⟩ := h.cells
  obtain ⟨b, hb⟩ : ∃ b, us[s]? = some b := ⟨_, List.getElem?_eq_getElem (by omega)⟩
  have r0 := ht.cell s b hb
  have r1 := (ht.row s b hb).1.cell i _ hx
  have HTB := hide (fun W => toBools_any (x : Int) n W (by omega))
  have pn := fun w a => ptrNe w a
  have hs' : (s : Int) < (S : Int) := by omega
  have hi' : (i : Int) < (I : Int) := by omega
  have hs0 : ¬ ((s : Int) < 0) := by omega
  have hi0 : ¬ ((i : Int) < 0) := by omega
  unfold slV at c5 c6 r0
  clear h c0 c1 c2 c3 c4 ht hb hul hx
  go_enter Tryz.func37, Tryz.ntmps37
  go_wp2_with fail
  have HK : Hid (∀ W, Below w.heap.size w W → W.cell? ⟨bm, 5, none⟩ = some (.slice (some ⟨g, 0, none⟩) n n) ∧ W.cell? ⟨bm, 6, none⟩ = some (.slice (some ⟨gS, 0, none⟩) S S) ∧ W.cell? ⟨gS, s, none⟩ = some (.slice (some ⟨b, 0, none⟩) I I) ∧ W.cell? ⟨b, i, none⟩ = some (.int .i64 (x : Int))) := fun W hW =>
    have key : ∀ (p : Addr) v, w.cell? p = some v → W.cell? p = some v := fun p v hv => (hW.cell (World.block_lt_of_cell? _ _ hv)).trans hv
    ⟨key _ _ c5, key _ _ c6, key _ _ r0, key _ _ r1⟩
  have HDA : Hid (Below w.heap.size w w.drew) := ⟨rfl, rfl, rfl, Nat.le_refl _, fun _ _ => rfl⟩
  go_region_held3 (fun W => W.cell? ⟨bm, 5, none⟩ = some (.slice (some ⟨g, 0, none⟩) n n) ∧ W.cell? ⟨bm, 6, none⟩ = some (.slice (some ⟨gS, 0, none⟩) S S) ∧ W.cell? ⟨gS, s, none⟩ = some (.slice (some ⟨b, 0, none⟩) I I) ∧ W.cell? ⟨b, i, none⟩ = some (.int .i64 (x : Int))) ((refine HK.out _ ?_; first | exact HDA.out | exact HB2.out | exact Below.refl _ _)) ((go_at_call 89; (with_reducible refine (HTB.out _).mono ?_); rintro e w2 ⟨gb, rfl, hrow, hg, hb2⟩; have HB2 : Hid (Below w.heap.size w w2) := HDA.out.trans hb2; have HROW := hide hrow; clear hrow))
  have hg' : w.heap.size ≤ gb := hg
  clear hb2 hg
  go_wp2_with fail
  refine bodyPost_ret (results_tmp2 rfl _ _ _) rfl ?_
  exact ⟨gb, rfl, HROW.out, hg', HB2.out⟩
end
section
open Go.RowKit
theorem ptrNil (w : World) : (binOp BinOp.eql 22 (.pointer none) (.pointer none)).run Tryz.prog w = .ok (.bool true) w := by kernel_rfl
set_option maxHeartbeats 2000000 in
set_option maxRecDepth 100000 in
theorem Sees_nil (s i : Int) (w : World) :
    Calls Tryz.prog 37 #[.pointer none, .int .i64 s, .int .i64 i] w fun e w' => e = .returned (.tuple #[.slice none 0 0, .iface 40 (.int .i64 7)]) ∧ Below w.heap.size w w' := by
  have pn := ptrNil
  go_enter Tryz.func37, Tryz.ntmps37
  go_wp2_with fail
  refine bodyPost_ret (results_tmp2 rfl _ _ _) rfl ?_
  exact ⟨rfl, Below.refl _ _⟩
set_option maxHeartbeats 2000000 in
set_option maxRecDepth 100000 in
theorem Sees_out (bm : Nat) (nv rv nx pv : Value) (S I gS lo : Nat) (us : List Nat) (rows : Nat → List Value) (s i : Int) (w : World) (h : MachAt w bm nv rv S I nx pv (slV gS S)) (ht : LL w gS 36 3 S I lo us rows) (hul : us.length = S) (hbad : s < 0 ∨ (S : Int) ≤ s ∨ i < 0 ∨ (I : Int) ≤ i) :
    Calls Tryz.prog 37 #[.pointer (some ⟨bm, 0, none⟩), .int .i64 s, .int .i64 i] w fun e w' => e = .returned (.tuple #[.slice none 0 0, .iface 40 (.int .i64 2)]) ∧ Below w.heap.size w w' := by
  obtain ⟨⟨c0, c1⟩, ⟨c2, c3⟩, c4, c5, c6⟩ := h.cells
  have pn := fun w a => ptrNe w a
  unfold slV at c6
  by_cases h1 : s < 0
  · clear h ht hbad c0 c1 c2 c3 c4 c5 hul
    go_enter Tryz.func37, Tryz.ntmps37
    go_wp2_with fail
    refine bodyPost_ret (results_tmp2 rfl _ _ _) rfl ?_
    exact ⟨rfl, Below.refl _ _⟩
  by_cases h2 : (S : Int) ≤ s
  · clear h ht hbad c0 c1 c2 c3 c4 c5 hul
    go_enter Tryz.func37, Tryz.ntmps37
    go_wp2_with fail
    refine bodyPost_ret (results_tmp2 rfl _ _ _) rfl ?_
    exact ⟨rfl, Below.refl _ _⟩
  by_cases h3 : i < 0
  · clear h ht hbad c0 c1 c2 c3 c4 c5 hul
    go_enter Tryz.func37, Tryz.ntmps37
    go_wp2_with fail
    refine bodyPost_ret (results_tmp2 rfl _ _ _) rfl ?_
    exact ⟨rfl, Below.refl _ _⟩
  have h4 : (I : Int) ≤ i := by omega
  obtain ⟨sn, rfl⟩ : ∃ sn : Nat, s = (sn : Int) := ⟨s.toNat, by omega⟩
  obtain ⟨b, hb⟩ : ∃ b, us[sn]? = some b := ⟨_, List.getElem?_eq_getElem (by omega)⟩
  have r0 := ht.cell sn b hb
  unfold slV at r0
  have hsS : (sn : Int) < (S : Int) := by omega
  clear h ht hbad c0 c1 c2 c3 c4 c5 hul hb
  go_enter Tryz.func37, Tryz.ntmps37
  go_wp2_with fail
  refine bodyPost_ret (results_tmp2 rfl _ _ _) rfl ?_
  exact ⟨rfl, Below.refl _ _⟩
end
section
open Go.RowKit
namespace Bo
/-- which of some are true, as a number: bit k is the k-th -/
def tellN (l : List Bool) (ks : List Nat) : Nat := Mc.val (ks.map fun n => l.getD n false)
theorem tell_succ (l : List Bool) (ks : List Nat) (k : Nat) (hk : k < ks.length) : tellN l (ks.take (k + 1)) = tellN l (ks.take k) + (if l.getD ks[k] false then 2 ^ k else 0) := by
  unfold tellN
  rw [List.take_succ_eq_append_getElem hk, List.map_append]
  have h := Mc.val_snoc ((ks.take k).map fun n => l.getD n false) (l.getD ks[k] false)
  have e : ((ks.take k).map fun n => l.getD n false).length = k := by simp; omega
  rw [e] at h
  exact h
theorem tell_lt (l : List Bool) (ks : List Nat) : tellN l ks < 2 ^ ks.length := by
  have h := Mc.val_lt (ks.map fun n => l.getD n false)
  rw [List.length_map] at h
  exact h
theorem tell_small (l : List Bool) (ks : List Nat) (h : ks.length ≤ 12) : tellN l ks ≤ 1000000 := by
  have h1 := tell_lt l ks
  have h2 : (2 : Nat) ^ ks.length ≤ 2 ^ 12 := Nat.pow_le_pow_right (by decide) h
  omega
theorem pow_wrap (k : Nat) (hk : k ≤ 60) : wrap64 ((2 : Int) ^ k) = ((2 ^ k : Nat) : Int) := by
  have hp : (2 : Nat) ^ k ≤ 2 ^ 60 := Nat.pow_le_pow_right (by decide) hk
  unfold wrap64
  have e : ((2 : Int) ^ k) = ((2 ^ k : Nat) : Int) := by rw [Int.natCast_pow]; rfl
  rw [e]
  generalize (2 : Nat) ^ k = y at *
  omega
set_option linter.unusedSimpArgs false
set_option maxHeartbeats 4000000 in
set_option maxRecDepth 100000 in
theorem bits_any (l : List Bool) (ks : List Nat) (gb g : Nat) (w : World) (hl : RowIs w gb 4 (l.map boolV)) (hk : RowIs w g 3 (ks.map intV)) (hn : ks.length ≤ 12) :
    Calls Tryz.prog 61 #[slV gb l.length, slV g ks.length] w fun e w' => e = .returned (.int .i64 (tellN l ks : Int)) ∧ w' = w := by
  have HL := hide hl
  have HK := hide hk
  have hgb := hl.lt
  have hg := hk.lt
  obtain ⟨n, hnn⟩ : ∃ n, n = ks.length := ⟨_, rfl⟩
  obtain ⟨m, hmm⟩ : ∃ m, m = l.length := ⟨_, rfl⟩
  have HN := hide hnn
  have HM := hide hmm
  rw [← hnn] at hn ⊢
  rw [← hmm]
  clear hl hk hnn hmm
  unfold slV
  go_enter Tryz.func61, Tryz.ntmps61
  go_wp2_with fail
  go_loopw [5, 10] (fun x i wr => ∃ k : Nat, k ≤ n ∧ i = .int .i64 (k : Int) ∧ x = .int .i64 (tellN l (ks.take k) : Int) ∧ wr = w) (fun _ i _ => n - (intOf i).toNat)
  case atStart => exact ⟨0, Nat.zero_le _, rfl, rfl, rfl⟩
  case round =>
    obtain ⟨k, hk, rfl, rfl, rfl⟩ := hrel
    by_cases hlt : k < n
    · have hkl : k < ks.length := by rw [← HN.out]; exact hlt
      have hki : (k : Int) < (n : Int) := by omega
      have c0 : wr.cell? ⟨g, k, none⟩ = some (.int .i64 (ks[k] : Int)) := HK.out.cell k _ (by rw [List.getElem?_map, List.getElem?_eq_getElem hkl]; rfl)
      have hlk : (ks.take k).length = k := by simp; omega
      have hv := tell_lt l (ks.take k)
      rw [hlk] at hv
      have HS := hide (tell_succ l ks k hkl)
      have HOR := hide (Mc.or_pow (tellN l (ks.take k)) k hv (by omega))
      have HP := hide (pow_wrap k (by omega))
      have hsh : (k : Int) < 64 := by omega
      have hsm : tellN l (ks.take k) < 2 ^ 12 := Nat.lt_of_lt_of_le hv (Nat.pow_le_pow_right (by decide) (by omega))
      generalize hT1 : tellN l (ks.take (k + 1)) = T1 at *
      have HT1 := hide hT1
      generalize tellN l (ks.take k) = T0 at *
      generalize hx : ks[k] = x at *
      clear hlk hv hx hT1
      by_cases hxm : x < m
      · have hxl : x < l.length := by rw [← HM.out]; exact hxm
        have hxi : (x : Int) < (m : Int) := by omega
        have hx0 : (0 : Int) ≤ (x : Int) := by omega
        have c1 : wr.cell? ⟨gb, x, none⟩ = some (.bool l[x]) := HL.out.cell x _ (by rw [List.getElem?_map, List.getElem?_eq_getElem hxl]; rfl)
        have HG : Hid (l.getD x false = l[x]) := by show _ = _; simp [List.getD_eq_getElem?_getD, List.getElem?_eq_getElem hxl]
        rw [HG.out] at HS
        generalize l[x] = y at *
        cases y with
        | true =>
          go_wp2_with fail
          go_roundw
          case rel => exact ⟨k + 1, by omega, by go_num, by rw [HP.out, HOR.out, HT1.out, HS.out, if_pos rfl], trivial⟩
          case measure => simp [intOf]; omega
        | false =>
          go_wp2_with fail
          go_roundw
          case rel => exact ⟨k + 1, by omega, by go_num, by rw [HT1.out, HS.out]; simp, trivial⟩
          case measure => simp [intOf]; omega
      · have hxi : ¬ (x : Int) < (m : Int) := by omega
        have HG : Hid (l.getD x false = false) := by show _ = _; rw [List.getD_eq_getElem?_getD, List.getElem?_eq_none (by rw [← HM.out]; omega)]; rfl
        rw [HG.out] at HS
        go_wp2_with fail
        go_roundw
        case rel => exact ⟨k + 1, by omega, by go_num, by rw [HT1.out, HS.out]; simp, trivial⟩
        case measure => simp [intOf]; omega
    · obtain rfl : k = n := by omega
      go_wp2_with fail
      go_ret
      rw [List.take_of_length_le (by rw [← HN.out]; exact Nat.le_refl _)]
      exact ⟨rfl, rfl⟩
end Bo
end
section
open Go.RowKit
namespace Bo
theorem strs_cells {w : World} {sv : Value} {os : List (List UInt8)} (h : Strs w sv (os.map toBA)) : ∃ sa sc, sv = .slice sa os.length sc ∧ os.length ≤ 1000000 ∧ ∀ j (hj : j < os.length), ∃ gs o, sa = some ⟨gs, o, none⟩ ∧ os.length ≤ sc ∧ w.cell? ⟨gs, o + j, none⟩ = some (.string ⟨os[j].toArray⟩) := by
  rcases h with ⟨h0, a, cap, rfl⟩ | ⟨gs, o, cap, rfl, h1, h2, h3⟩
  · have h4 : os = [] := by simpa using h0
    subst h4
    exact ⟨a, cap, rfl, by simp, fun j hj => by simp at hj⟩
  · rw [List.length_map] at h1 h2 ⊢
    exact ⟨_, cap, rfl, h2, fun j hj => ⟨gs, o, rfl, h1, h3 j (toBA os[j]) (by rw [List.getElem?_map, List.getElem?_eq_getElem hj]; rfl)⟩⟩
/-- names' numbers -/
def nums (ns : List Ld.Nme) (names : List (List UInt8)) : List Int := names.map (Ld.number ns)
theorem nums_len (ns : List Ld.Nme) (names : List (List UInt8)) : (nums ns names).length = names.length := by simp [nums]
/-- none is missing: they are numbers of names -/
theorem nums_all (ns : List Ld.Nme) (names : List (List UInt8)) (h : (nums ns names).contains (-1) = false) : ∃ ks : List Nat, nums ns names = ks.map (fun n : Nat => (n : Int)) ∧ ks.length = names.length ∧ ∀ n, n ∈ ks → n < ns.length := by
  have hn : ∀ x, x ∈ nums ns names → 0 ≤ x ∧ x < (ns.length : Int) := fun x hx => by
    obtain ⟨s, _, rfl⟩ := List.mem_map.1 hx
    have h1 := Ld.number_lt ns s
    have h2 := Ld.number_ge ns s
    have h3 : Ld.number ns s ≠ -1 := fun e => by
      rw [e] at hx
      rw [List.contains_iff_mem.2 hx] at h
      cases h
    omega
  refine ⟨(nums ns names).map Int.toNat, ?_, by simp [nums], fun n hn2 => ?_⟩
  · rw [List.map_map]
    have : List.map ((fun n : Nat => (n : Int)) ∘ Int.toNat) (nums ns names) = List.map id (nums ns names) := List.map_congr_left fun x hx => by
      have := (hn x hx).1
      show ((x.toNat : Nat) : Int) = x
      omega
    rw [this, List.map_id]
  · obtain ⟨x, hx, rfl⟩ := List.mem_map.1 hn2
    have := hn x hx
    omega
theorem Of_nil (sv : Value) (w : World) :
    Calls Tryz.prog 22 #[.pointer none, sv] w fun e w' => e = .returned (.tuple #[.agg #[.slice none 0 0, .slice none 0 0], .iface 40 (.int .i64 7)]) ∧ Below w.heap.size w w' := by
  have pn := ptrNil w
  obtain ⟨wA, hwA⟩ : ∃ wA, wA = w.alloc (.cells #[.slice none 0 0, .slice none 0 0] 67) := ⟨_, rfl⟩
  have hb : Below w.heap.size w wA := by rw [hwA]; exact (Below.refl _ _).alloc (Nat.le_refl _) _
  have hA : wA.heap[w.heap.size]? = some (.cells #[.slice none 0 0, .slice none 0 0] 67 (0, 0)) := by rw [hwA]; exact heap_alloc_new _ _
  obtain ⟨k0, k1, _, _⟩ := two_cells hA
  have HLO := hide hb
  have HWA := hide hwA
  clear hb hA hwA
  go_enter Tryz.func22, Tryz.ntmps22
  go_wp2_with fail
  refine bodyPost_ret_by (v := .tuple #[.agg #[.slice none 0 0, .slice none 0 0], .iface 40 (.int .i64 7)]) ?_ rfl ?_
  · rw [← HWA.out]; simp [results, Tryz.results22, go_sem, k0, k1]
  · rw [← HWA.out]; exact ⟨rfl, HLO.out⟩
theorem Of_many (bm : Nat) (sv : Value) (a : Option Addr) (u c : Nat) (w : World) (hs : sv = .slice a u c) (hu : 12 < u) :
    Calls Tryz.prog 22 #[.pointer (some ⟨bm, 0, none⟩), sv] w fun e w' => e = .returned (.tuple #[.agg #[.slice none 0 0, .slice none 0 0], .iface 40 (.int .i64 4)]) ∧ Below w.heap.size w w' := by
  subst hs
  have pn := fun w a => ptrNe w a
  have hui : (12 : Int) < (u : Int) := by omega
  obtain ⟨wA, hwA⟩ : ∃ wA, wA = w.alloc (.cells #[.slice none 0 0, .slice none 0 0] 67) := ⟨_, rfl⟩
  have hb : Below w.heap.size w wA := by rw [hwA]; exact (Below.refl _ _).alloc (Nat.le_refl _) _
  have hA : wA.heap[w.heap.size]? = some (.cells #[.slice none 0 0, .slice none 0 0] 67 (0, 0)) := by rw [hwA]; exact heap_alloc_new _ _
  obtain ⟨k0, k1, _, _⟩ := two_cells hA
  have HLO := hide hb
  have HWA := hide hwA
  clear hb hA hwA
  go_enter Tryz.func22, Tryz.ntmps22
  go_wp2_with fail
  refine bodyPost_ret_by (v := .tuple #[.agg #[.slice none 0 0, .slice none 0 0], .iface 40 (.int .i64 4)]) ?_ rfl ?_
  · rw [← HWA.out]; simp [results, Tryz.results22, go_sem, k0, k1]
  · rw [← HWA.out]; exact ⟨rfl, HLO.out⟩
end Bo
end
section
open Go.RowKit
namespace Bo
theorem errEq4 (w : World) : (binOp BinOp.eql 40 (.int .i64 4) (.int .i64 0)).run Tryz.prog w = .ok (.bool false) w := by kernel_rfl
theorem errNe4 (w : World) : (binOp BinOp.neq 40 (.int .i64 4) (.int .i64 0)).run Tryz.prog w = .ok (.bool true) w := by kernel_rfl
set_option maxHeartbeats 16000000 in
set_option maxRecDepth 100000 in
theorem blockOfs_many (hbo : ∀ (s : ByteArray) (w : World), s.size ≤ maxLen → Laid w → PLaid w → Calls Tryz.prog 28 #[.string s] w (Sl.Both s w)) (s : ByteArray) (sa : Option Addr) (u sc : Nat) (w : World) (hs : s.size ≤ maxLen) (hL : Laid w) (hP : PLaid w) (hu : 12 < u) :
    Calls Tryz.prog 6 #[.string s, .slice sa u sc] w fun e w' => e = .returned (.bool true) ∧ Below w.heap.size w w' := by
  have HMS := hide (Rf.machines_of hbo s 40 w hs hL hP)
  have HL := hide hL
  clear hL hP
  have pn := fun w a => ptrNe w a
  have ee := fun w => errEq4 w
  have en := fun w => errNe4 w
  have hu12 : (12 : Int) < (u : Int) := by omega
  by_cases h30 : 30 < u
  · have hu30 : (30 : Int) < (u : Int) := by omega
    go_enter Tryz.func6, Tryz.ntmps6
    go_wp2_with fail
    refine HMS.out.mono ?_
    rintro e w1 ⟨hb1, he⟩
    have HB1 := hide hb1
    clear HMS hb1
    rcases he with rfl | ⟨p, bm, bx, rfl, _⟩
    all_goals
      go_wp2_with fail
      go_ret
      exact ⟨rfl, HB1.out⟩
  have hu30 : ¬ (30 : Int) < (u : Int) := by omega
  go_enter Tryz.func6, Tryz.ntmps6
  go_wp2_with fail
  refine HMS.out.mono ?_
  rintro e w1 ⟨hb1, he⟩
  have HB1 := hide hb1
  clear HMS hb1
  rcases he with rfl | ⟨p, bm, bx, rfl, _⟩
  · go_wp2_with fail
    go_ret
    exact ⟨rfl, HB1.out⟩
  have HOM := hide (Of_many bm _ sa u sc w1 rfl hu)
  go_wp2_with fail
  refine HOM.out.mono ?_
  rintro e w2 ⟨rfl, hb2⟩
  obtain ⟨wA, hwA⟩ : ∃ wA, wA = w2.alloc (.cells #[.slice none 0 0, .slice none 0 0] 67) := ⟨_, rfl⟩
  have hA : wA.heap[w2.heap.size]? = some (.cells #[.slice none 0 0, .slice none 0 0] 67 (0, 0)) := by rw [hwA]; exact heap_alloc_new _ _
  have hltA := (Array.getElem?_eq_some_iff.1 hA).1
  have hbA : Below w1.heap.size w1 wA := by rw [hwA]; exact hb2.alloc hb2.size _
  have HA := hide (fun W (hW : Below wA.heap.size wA W) => (hW.block _ hltA).trans hA)
  have HBA := hide (HB1.out.trans (hbA.mono HB1.out.size))
  have HON := hide (Of_nil (.slice sa u sc) wA)
  rw [hwA] at HON
  have HWA := hide hwA
  clear hb2 hwA hA hbA HOM
  go_wp2_with fail
  refine HON.out.mono ?_
  rintro e w3 ⟨rfl, hb3⟩
  rw [← HWA.out] at hb3
  have HB3 : Hid (Below wA.heap.size wA (w3.alloc (.cells #[.slice none 0 0, .slice none 0 0] 67))) := hb3.alloc hb3.size _
  have HBA1 := hide (Sl.lbare_any 7 (w3.alloc (.cells #[.slice none 0 0, .slice none 0 0] 67)) (HL.out.below (HBA.out.trans (HB3.out.mono HBA.out.size))).door)
  clear hb3 HON
  go_wp2_with fail
  refine HBA1.out.mono ?_
  rintro e w4 ⟨rfl, hb4⟩
  have HB4 : Hid (Below wA.heap.size wA w4) := HB3.out.trans (hb4.mono HB3.out.size)
  have HB4w := hide (HBA.out.trans (HB4.out.mono HBA.out.size))
  have HBA2 := hide (Sl.lbare_any 4 w4 (HL.out.below HB4w.out).door)
  clear hb4 HBA1
  go_wp2_with fail
  have hu0 : (0 : Int) < (u : Int) := by omega
  go_loopw [14, 12] (fun i e wr => i = .int .i64 0 ∧ e = .int .i64 4 ∧ wr = w4) (fun _ _ _ => 0)
  case atStart => exact ⟨rfl, rfl, rfl⟩
  case round =>
    obtain ⟨rfl, rfl, rfl⟩ := hrel
    go_wp2_with fail
    refine HBA2.out.mono ?_
    rintro e w5 ⟨rfl, hb5⟩
    have HB5 : Hid (Below wA.heap.size wA w5) := HB4.out.trans (hb5.mono HB4.out.size)
    have HF := hide (HBA.out.trans (HB5.out.mono HBA.out.size))
    obtain ⟨y0, y1, _, _⟩ := two_cells (HA.out w5 HB5.out)
    clear hb5 HBA2
    go_wp2_with fail
    go_ret
    exact ⟨rfl, HF.out⟩
end Bo
end
section
namespace Rf
open Go.RowKit
def RowsI (W : World) (v : Value) (L : List (List Int)) : Prop :=
  (L = [] ∧ ∃ a cap, v = .slice a 0 cap) ∨ ∃ g cap, v = .slice (some ⟨g, 0, none⟩) L.length cap ∧ L.length ≤ cap ∧ ∀ (k : Nat) r, L[k]? = some r → ∃ u, W.cell? ⟨g, k, none⟩ = some u ∧ Ints W u r
theorem RowsI.below {W W' : World} {v : Value} {L : List (List Int)} (h : RowsI W v L) (hb : Below W.heap.size W W') : RowsI W' v L := by
  rcases h with h | ⟨g, cap, h1, h2, h3⟩
  · exact .inl h
  · refine .inr ⟨g, cap, h1, h2, fun k r hr => ?_⟩
    obtain ⟨u, h4, h5⟩ := h3 k r hr
    exact ⟨u, (hb.cell (World.block_lt_of_cell? _ _ h4)).trans h4, h5.below hb⟩
theorem RowsI.slice {W : World} {v : Value} {L : List (List Int)} (h : RowsI W v L) : ∃ a c, v = .slice a L.length c := by
  rcases h with ⟨rfl, a, c, rfl⟩ | ⟨g, cap, h1, _⟩
  · exact ⟨a, c, rfl⟩
  · exact ⟨_, _, h1⟩
theorem RowsI.at_ {W : World} {a : Option Addr} {n c : Nat} {L : List (List Int)} (h : RowsI W (.slice a n c) L) (k : Nat) (r : List Int) (hr : L[k]? = some r) : ∃ g u, a = some ⟨g, 0, none⟩ ∧ n ≤ c ∧ W.cell? ⟨g, k, none⟩ = some u ∧ Ints W u r := by
  rcases h with ⟨h0, _⟩ | ⟨g, cap, h1, h2, h3⟩
  · rw [h0] at hr; simp at hr
  · simp only [Value.slice.injEq] at h1
    obtain ⟨u, h4, h5⟩ := h3 k r hr
    exact ⟨g, u, h1.1, by rw [h1.2.1, h1.2.2]; exact h2, h4, h5⟩
def asI (l : List Nat) : List Int := l.map fun i : Nat => (i : Int)
theorem ints_nat {W : World} {q : Nat} {v : Value} {l : List Nat} (h : W.ownsRow q 3 1 v l.length (l.map intV)) (hl : ∀ i, i ∈ l → i ≤ 1000000) : Ints W v (asI l) := by
  rcases h.2 with ⟨rfl, h0⟩ | ⟨g, cap, cur, rfl, _, hcur, hcap, _, _, htk⟩
  · exact .inl ⟨by rw [List.length_eq_zero_iff.1 h0]; rfl, _, _, rfl⟩
  · refine .inr ⟨g, 0, cap, by simp [asI], by simpa [asI] using hcap, fun k x hx => ?_⟩
    unfold asI at hx
    rw [List.getElem?_map] at hx
    cases hk : l[k]? with
    | none => rw [hk] at hx; cases hx
    | some i =>
      rw [hk] at hx
      simp only [Option.map_some, Option.some.injEq] at hx
      subst hx
      have := hl i (List.mem_of_getElem? hk)
      exact ⟨by rw [Nat.zero_add]; exact row_cell hcur htk (by rw [List.getElem?_map, hk]; rfl), by unfold I64; omega⟩
theorem IntR.rowsI {q : Nat} {W : World} {o : Value} {us : List Value} {bs : List (List Nat)} (h : IntR q W o us bs) (hl : ∀ b, b ∈ bs → ∀ i, i ∈ b → i ≤ 1000000) : RowsI W o (bs.map asI) := by
  rcases h.own.2 with ⟨rfl, h0⟩ | ⟨g, cap, cur, rfl, _, hcur, hcap, _, _, htk⟩
  · exact .inl ⟨by rw [List.length_eq_zero_iff.1 h0]; rfl, _, _, rfl⟩
  · refine .inr ⟨g, cap, by simp, by simpa using hcap, fun i b hb => ?_⟩
    rw [List.getElem?_map] at hb
    cases hk : bs[i]? with
    | none => rw [hk] at hb; cases hb
    | some x =>
      rw [hk] at hb
      simp only [Option.map_some, Option.some.injEq] at hb
      subst hb
      have hil : i < us.length := by rw [h.len]; exact (List.getElem?_eq_some_iff.1 hk).1
      exact ⟨us[i], row_cell hcur htk (List.getElem?_eq_getElem hil), ints_nat (h.at_ i _ x (List.getElem?_eq_getElem hil) hk) (hl x (List.mem_of_getElem? hk))⟩
/-- a table of rows tells lists -/
theorem LL.rowsI {W : World} {g m n lo : Nat} {us : List Nat} {rows : Nat → List Value} {L : List (List Nat)} (h : LL W g 36 3 m n lo us rows) (hul : us.length = m) (hm : L.length = m) (hr : ∀ (s : Nat) (r : List Nat), L[s]? = some r → rows s = r.map intV ∧ r.length = n) (hl : ∀ b, b ∈ L → ∀ i, i ∈ b → i ≤ 1000000) : RowsI W (slV g m) (L.map asI) := by
  refine .inr ⟨g, m, by simp [slV, hm], by simp [hm], fun i b hb => ?_⟩
  rw [List.getElem?_map] at hb
  cases hk : L[i]? with
  | none => rw [hk] at hb; cases hb
  | some x =>
    rw [hk] at hb
    simp only [Option.map_some, Option.some.injEq] at hb
    subst hb
    have hil : i < us.length := by have := (List.getElem?_eq_some_iff.1 hk).1; omega
    obtain ⟨e1, e2⟩ := hr i x hk
    have hc := h.cell i us[i] (List.getElem?_eq_getElem hil)
    refine ⟨_, hc, ?_⟩
    have hrow := (h.row i us[i] (List.getElem?_eq_getElem hil)).1
    rw [e1] at hrow
    refine .inr ⟨us[i], 0, n, by simp [slV, asI, e2], by simp [asI, e2], fun k y hy => ?_⟩
    unfold asI at hy
    rw [List.getElem?_map] at hy
    cases hk2 : x[k]? with
    | none => rw [hk2] at hy; cases hy
    | some j =>
      rw [hk2] at hy
      simp only [Option.map_some, Option.some.injEq] at hy
      subst hy
      have := hl x (List.mem_of_getElem? hk) j (List.mem_of_getElem? hk2)
      exact ⟨by rw [Nat.zero_add]; exact hrow.cell k _ (by rw [List.getElem?_map, hk2]; rfl), by unfold I64; omega⟩
end Rf
end
section
open Go.RowKit
namespace Bo
/-- a row of numbers that lies in block g -/
def RG (W : World) (g : Nat) (u : Value) (l : List Nat) : Prop := ∃ c, u = .slice (some ⟨g, 0, none⟩) l.length c ∧ l.length ≤ c ∧ g < W.heap.size ∧ ∀ (j x : Nat), l[j]? = some x → W.cell? ⟨g, j, none⟩ = some (.int .i64 (x : Int))
theorem RG.kept {W W' : World} {g : Nat} {u : Value} {l : List Nat} (h : RG W g u l) (e : W'.heap[g]? = W.heap[g]?) : RG W' g u l := by
  obtain ⟨c, h1, h2, h3, h4⟩ := h
  refine ⟨c, h1, h2, ?_, fun j x hx => (Rf.cell_of_block e none).trans (h4 j x hx)⟩
  rw [Array.getElem?_eq_getElem h3] at e
  exact (Array.getElem?_eq_some_iff.1 e).1
theorem RG.row {W : World} {g : Nat} {l : List Nat} (h : RowIs W g 3 (l.map intV)) : RG W g (slV g l.length) l :=
  ⟨_, rfl, Nat.le_refl _, h.lt, fun j x hx => h.cell j _ (by rw [List.getElem?_map, hx]; rfl)⟩
theorem RG.ints {W : World} {g : Nat} {u : Value} {l : List Nat} (h : RG W g u l) (hl : ∀ i, i ∈ l → i ≤ 1000000) : Ints W u (Rf.asI l) := by
  obtain ⟨c, h1, h2, h3, h4⟩ := h
  refine .inr ⟨g, 0, c, by simp [h1, Rf.asI], by simpa [Rf.asI] using h2, fun k y hy => ?_⟩
  unfold Rf.asI at hy
  rw [List.getElem?_map] at hy
  cases hk : l[k]? with
  | none => rw [hk] at hy; cases hy
  | some j =>
    rw [hk] at hy
    simp only [Option.map_some, Option.some.injEq] at hy
    subst hy
    have := hl j (List.mem_of_getElem? hk)
    exact ⟨by rw [Nat.zero_add]; exact h4 k j hk, by unfold I64; omega⟩
/-- of m rows in a row of slices the first ones are laid; their blocks are such -/
structure TB (W : World) (g m : Nat) (P : Nat → Prop) (us : List Value) (L : List (List Nat)) : Prop where
  len : us.length = L.length
  top : RowIs W g 36 (us ++ List.replicate (m - us.length) (.slice none 0 0))
  row : ∀ (j : Nat) (u : Value) (l : List Nat), us[j]? = some u → L[j]? = some l → ∃ b, P b ∧ RG W b u l
theorem TB.empty {W : World} {g m : Nat} {P : Nat → Prop} (h : RowIs W g 36 (List.replicate m (.slice none 0 0))) : TB W g m P [] [] := ⟨rfl, h, fun j u l h => by simp at h⟩
theorem TB.moved {W W' : World} {g m : Nat} {P Q : Nat → Prop} {us : List Value} {L : List (List Nat)} (h : TB W g m P us L) (hg : W'.heap[g]? = W.heap[g]?) (hk : ∀ k, P k → k < W.heap.size → W'.heap[k]? = W.heap[k]?) (hP : ∀ k, P k → k < W.heap.size → Q k) : TB W' g m Q us L :=
  ⟨h.len, hg.trans h.top, fun j u l h1 h2 => by
    obtain ⟨b, h3, h4⟩ := h.row j u l h1 h2
    have hlt : b < W.heap.size := by obtain ⟨_, _, _, h5, _⟩ := h4; exact h5
    exact ⟨b, hP b h3 hlt, h4.kept (hk b h3 hlt)⟩⟩
theorem TB.below {W W' : World} {g m : Nat} {P : Nat → Prop} {us : List Value} {L : List (List Nat)} (h : TB W g m P us L) (hb : Below W.heap.size W W') : TB W' g m P us L :=
  h.moved (hb.block _ h.top.lt) (fun _ _ hk => hb.block _ hk) (fun _ h _ => h)
theorem TB.put {W W' : World} {g m b : Nat} {P Q : Nat → Prop} {us : List Value} {L : List (List Nat)} {u : Value} {l : List Nat} (h : TB W g m P us L) (hm : us.length < m) (htop : RowIs W' g 36 ((us ++ List.replicate (m - us.length) (Value.slice none 0 0)).set us.length u))
    (hk : ∀ k, P k → k < W.heap.size → W'.heap[k]? = W.heap[k]?) (hP : ∀ k, P k → k < W.heap.size → Q k) (hb : Q b) (hu : RG W' b u l) : TB W' g m Q (us ++ [u]) (L ++ [l]) := by
  have h2 := fill_set us (Value.slice none 0 0) u m hm
  rw [h2] at htop
  refine ⟨by simp [h.len], by simpa using htop, fun j v r h3 h4 => ?_⟩
  by_cases hjl : j < us.length
  · rw [List.getElem?_append_left hjl] at h3
    rw [List.getElem?_append_left (by rw [← h.len]; exact hjl)] at h4
    obtain ⟨c, h5, h6⟩ := h.row j v r h3 h4
    have hlt : c < W.heap.size := by obtain ⟨_, _, _, h7, _⟩ := h6; exact h7
    exact ⟨c, hP c h5 hlt, h6.kept (hk c h5 hlt)⟩
  · have hj2 : j < (us ++ [u]).length := (List.getElem?_eq_some_iff.1 h3).1
    have : j = us.length := by simp at hj2; omega
    subst this
    rw [List.getElem?_append_right (Nat.le_refl _)] at h3
    rw [List.getElem?_append_right (by rw [h.len]; exact Nat.le_refl _), h.len] at h4
    simp only [Nat.sub_self, List.getElem?_cons_zero, Option.some.injEq] at h3 h4
    subst h3; subst h4
    exact ⟨b, hb, hu⟩
theorem TB.next {W : World} {g m : Nat} {P : Nat → Prop} {us : List Value} {L : List (List Nat)} (h : TB W g m P us L) (hm : us.length < m) : W.cell? ⟨g, us.length, none⟩ = some (.slice none 0 0) ∧ W.frozen? ⟨g, us.length, none⟩ = false :=
  ⟨h.top.cell _ _ (by rw [List.getElem?_append_right (Nat.le_refl _), List.getElem?_replicate, if_pos (by simp; omega)]), h.top.frozen _⟩
theorem TB.rowsI {W : World} {g m : Nat} {P : Nat → Prop} {us : List Value} {L : List (List Nat)} (h : TB W g m P us L) (hm : L.length = m) (hl : ∀ b, b ∈ L → ∀ i, i ∈ b → i ≤ 1000000) : Rf.RowsI W (slV g m) (L.map Rf.asI) := by
  refine .inr ⟨g, m, by simp [slV, hm], by simp [hm], fun i b hb => ?_⟩
  rw [List.getElem?_map] at hb
  cases hk : L[i]? with
  | none => rw [hk] at hb; cases hb
  | some x =>
    rw [hk] at hb
    simp only [Option.map_some, Option.some.injEq] at hb
    subst hb
    have hil : i < us.length := by rw [h.len]; exact (List.getElem?_eq_some_iff.1 hk).1
    obtain ⟨c, _, h2⟩ := h.row i us[i] x (List.getElem?_eq_getElem hil) hk
    exact ⟨us[i], h.top.cell i _ (by rw [List.getElem?_append_left hil, List.getElem?_eq_getElem hil]), h2.ints (hl x (List.mem_of_getElem? hk))⟩
/-- a round of Of lays a row of both tables: what has been done of it, in whatever order -/
structure Mk (V : World) (gN gS I s : Nat) (cN cS : List Value) (l : List Nat) (u : Value) (a b : Nat) (fc fm fn ft : Bool) (W : World) : Prop where
  size : V.heap.size ≤ W.heap.size
  old : ∀ k, k < V.heap.size → k ≠ gN → k ≠ gS → W.heap[k]? = V.heap[k]?
  os : W.os = V.os ∧ W.tape = V.tape ∧ W.output = V.output
  tN : RowIs W gN 36 (if fn then cN.set s u else cN)
  tS : RowIs W gS 36 (if ft then cS.set s (slV b I) else cS)
  rc : fc = true → V.heap.size ≤ a ∧ RG W a u l
  rm : fm = true → V.heap.size ≤ b ∧ RowIs W b 3 (List.replicate I (.int .i64 0))
  ne : fc = true → fm = true → a ≠ b
variable {V W W' : World} {gN gS I s a b a' b' : Nat} {cN cS : List Value} {l : List Nat} {u u' : Value} {fc fm fn ft : Bool}
theorem Mk.start (hN : RowIs V gN 36 cN) (hS : RowIs V gS 36 cS) (l : List Nat) (u : Value) (a b : Nat) : Mk V gN gS I s cN cS l u a b false false false false V :=
  ⟨Nat.le_refl _, fun _ _ _ _ => rfl, ⟨rfl, rfl, rfl⟩, hN, hS, (nomatch ·), (nomatch ·), (nomatch ·)⟩
theorem Mk.drew (h : Mk V gN gS I s cN cS l u a b fc fm fn ft W) : Mk V gN gS I s cN cS l u a b fc fm fn ft W.drew := ⟨h.size, h.old, h.os, h.tN, h.tS, h.rc, h.rm, h.ne⟩
theorem Mk.clone (h : Mk V gN gS I s cN cS l u a b false fm false ft W) (hb : Below W.heap.size W W') (ha : W.heap.size ≤ a') (hr : RG W' a' u' l) : Mk V gN gS I s cN cS l u' a' b true fm false ft W' := by
  obtain ⟨h1, h2, h3, h4, h5, _, h7, _⟩ := h
  refine ⟨Nat.le_trans h1 hb.size, fun k hk e1 e2 => (hb.block k (by omega)).trans (h2 k hk e1 e2), ⟨hb.os.trans h3.1, hb.tape.trans h3.2.1, hb.output.trans h3.2.2⟩, h4.below hb, h5.below hb, fun _ => ⟨by omega, hr⟩, fun e => ⟨(h7 e).1, (h7 e).2.below hb⟩, fun _ e => ?_⟩
  have := (h7 e).2.lt
  omega
theorem Mk.make (h : Mk V gN gS I s cN cS l u a b fc false fn false W) (c : List Value) (hc : c = List.replicate I (.int .i64 0)) : Mk V gN gS I s cN cS l u a W.heap.size fc true fn false (W.alloc (.cells ⟨c⟩ 3)) := by
  obtain ⟨h1, h2, h3, h4, h5, h6, _, _⟩ := h
  have hb : Below W.heap.size W (W.alloc (.cells ⟨c⟩ 3)) := (Below.refl _ _).alloc (Nat.le_refl _) _
  refine ⟨Nat.le_trans h1 hb.size, fun k hk e1 e2 => (hb.block k (by omega)).trans (h2 k hk e1 e2), ⟨hb.os.trans h3.1, hb.tape.trans h3.2.1, hb.output.trans h3.2.2⟩, h4.below hb, h5.below hb, fun e => ?_, fun e => ⟨h1, by rw [← hc]; exact RowIs.new _ _ _⟩, fun e _ => ?_⟩
  · obtain ⟨h7, h8⟩ := h6 e
    have hlt : a < W.heap.size := by obtain ⟨_, _, _, h9, _⟩ := h8; exact h9
    exact ⟨h7, h8.kept (hb.block _ hlt)⟩
  · obtain ⟨_, h8⟩ := h6 e
    obtain ⟨_, _, _, h9, _⟩ := h8
    omega
theorem Mk.stN (h : Mk V gN gS I s cN cS l u a b true fm false ft W) (e1 : gN < V.heap.size) (e2 : gS ≠ gN) : Mk V gN gS I s cN cS l u a b true fm true ft (W.setCell ⟨gN, s, none⟩ u) := by
  obtain ⟨h1, h2, h3, h4, h5, h6, h7, h8⟩ := h
  obtain ⟨h9, h10⟩ := h6 rfl
  have ho : ∀ k, k ≠ gN → (W.setCell ⟨gN, s, none⟩ u).heap[k]? = W.heap[k]? := fun k hk => Below.heap_setCell _ _ _ _ (fun e => hk e)
  refine ⟨by simpa [World.setCell] using h1, fun k hk e3 e4 => (ho k e3).trans (h2 k hk e3 e4), h3, h4.set s u, h5.other gN s u e2, fun _ => ⟨h9, h10.kept (ho a (by omega))⟩, fun e => ⟨(h7 e).1, (h7 e).2.other gN s u (by have := (h7 e).1; omega)⟩, h8⟩
theorem Mk.stS (h : Mk V gN gS I s cN cS l u a b fc true fn false W) (e1 : gS < V.heap.size) (e2 : gN ≠ gS) : Mk V gN gS I s cN cS l u a b fc true fn true (W.setCell ⟨gS, s, none⟩ (slV b I)) := by
  obtain ⟨h1, h2, h3, h4, h5, h6, h7, h8⟩ := h
  obtain ⟨h9, h10⟩ := h7 rfl
  have ho : ∀ k, k ≠ gS → (W.setCell ⟨gS, s, none⟩ (slV b I)).heap[k]? = W.heap[k]? := fun k hk => Below.heap_setCell _ _ _ _ (fun e => hk e)
  refine ⟨by simpa [World.setCell] using h1, fun k hk e3 e4 => (ho k e4).trans (h2 k hk e3 e4), h3, h4.other gS s _ e2, h5.set s _, fun e => ⟨(h6 e).1, (h6 e).2.kept (ho a (by have := (h6 e).1; omega))⟩, fun _ => ⟨h9, h10.other gS s _ (by omega)⟩, h8⟩
/-- the tells' row is stored ahead of its making (worlds are written so) -/
theorem Mk.stS0 (h : Mk V gN gS I s cN cS l u a b fc false fn false W) (e1 : gS < V.heap.size) (e2 : gN ≠ gS) (y : Nat) : Mk V gN gS I s cN cS l u a y fc false fn true (W.setCell ⟨gS, s, none⟩ (slV y I)) := by
  obtain ⟨h1, h2, h3, h4, h5, h6, _, _⟩ := h
  have ho : ∀ k, k ≠ gS → (W.setCell ⟨gS, s, none⟩ (slV y I)).heap[k]? = W.heap[k]? := fun k hk => Below.heap_setCell _ _ _ _ (fun e => hk e)
  exact ⟨by simpa [World.setCell] using h1, fun k hk e3 e4 => (ho k e4).trans (h2 k hk e3 e4), h3, h4.other gS s _ e2, h5.set s _, fun e => ⟨(h6 e).1, (h6 e).2.kept (ho a (by have := (h6 e).1; omega))⟩, (nomatch ·), fun _ e => nomatch e⟩
theorem Mk.makeL (h : Mk V gN gS I s cN cS l u a b fc false fn ft W) (hy : b = W.heap.size) (c : List Value) (hc : c = List.replicate I (.int .i64 0)) : Mk V gN gS I s cN cS l u a b fc true fn ft (W.alloc (.cells ⟨c⟩ 3)) := by
  obtain ⟨h1, h2, h3, h4, h5, h6, _, _⟩ := h
  have hb : Below W.heap.size W (W.alloc (.cells ⟨c⟩ 3)) := (Below.refl _ _).alloc (Nat.le_refl _) _
  refine ⟨Nat.le_trans h1 hb.size, fun k hk e1 e2 => (hb.block k (by omega)).trans (h2 k hk e1 e2), ⟨hb.os.trans h3.1, hb.tape.trans h3.2.1, hb.output.trans h3.2.2⟩, h4.below hb, h5.below hb, fun e => ?_, fun e => ⟨by omega, by rw [← hc, hy]; exact RowIs.new _ _ _⟩, fun e _ => ?_⟩
  · obtain ⟨h7, h8⟩ := h6 e
    have hlt : a < W.heap.size := by obtain ⟨_, _, _, h9, _⟩ := h8; exact h9
    exact ⟨h7, h8.kept (hb.block _ hlt)⟩
  · obtain ⟨_, h8⟩ := h6 e
    obtain ⟨_, _, _, h9, _⟩ := h8
    omega
theorem Mk.cells (h : Mk V gN gS I s cN cS l u a b fc fm false ft W) (hs : cN[s]? = some (.slice none 0 0)) (hs2 : cS[s]? = some (.slice none 0 0)) : W.cell? ⟨gN, s, none⟩ = some (.slice none 0 0) ∧ W.frozen? ⟨gN, s, none⟩ = false ∧ (∃ v, W.cell? ⟨gS, s, none⟩ = some v) ∧ W.frozen? ⟨gS, s, none⟩ = false := by
  refine ⟨h.tN.cell s _ hs, h.tN.frozen s, ?_, h.tS.frozen s⟩
  have h1 := h.tS
  cases ft with
  | false => exact ⟨_, h1.cell s _ hs2⟩
  | true =>
    have hlt := (List.getElem?_eq_some_iff.1 hs2).1
    exact ⟨_, h1.cell s (slV b I) (by simp [hlt])⟩
/-- all but two blocks stand -/
def Sm (V : World) (gN gS : Nat) (W : World) : Prop := V.heap.size ≤ W.heap.size ∧ ∀ k, k < V.heap.size → k ≠ gN → k ≠ gS → W.heap[k]? = V.heap[k]?
theorem Sm.refl (V : World) (gN gS : Nat) : Sm V gN gS V := ⟨Nat.le_refl _, fun _ _ _ _ => rfl⟩
theorem Sm.drew (h : Sm V gN gS W) : Sm V gN gS W.drew := h
theorem Sm.alloc (h : Sm V gN gS W) (o : Obj) : Sm V gN gS (W.alloc o) := ⟨by have := h.1; simp; omega, fun k hk e1 e2 => (Below.heap_alloc _ _ _ (by have := h.1; omega)).trans (h.2 k hk e1 e2)⟩
theorem Sm.set (h : Sm V gN gS W) (g i : Nat) (x : Value) (hg : g = gN ∨ g = gS) : Sm V gN gS (W.setCell ⟨g, i, none⟩ x) :=
  ⟨by simpa [World.setCell] using h.1, fun k hk e1 e2 => (Below.heap_setCell _ _ _ _ (fun e => by rcases hg with rfl | rfl; exact e1 e; exact e2 e)).trans (h.2 k hk e1 e2)⟩
theorem Mk.sm (h : Mk V gN gS I s cN cS l u a b fc fm fn ft W) : Sm V gN gS W := ⟨h.size, h.old⟩
end Bo
end
section
open Go.RowKit
namespace Bo
theorem eqNilI_some (w : World) (a : Addr) (n c : Nat) : (binOp BinOp.eql 36 (.slice (some a) n c) (.slice none 0 0)).run Tryz.prog w = .ok (.bool false) w := by kernel_rfl
theorem add_plain (g o j : Nat) : (⟨g, o, none⟩ : Addr).add j = ⟨g, o + j, none⟩ := by unfold Addr.add; split <;> simp_all
set_option maxHeartbeats 2000000 in
set_option maxRecDepth 100000 in
theorem clone_any (l : List Nat) (g : Nat) (w : World) (hr : RowIs w g 3 (l.map intV)) (hl : l.length ≤ 1000) (h0 : 0 < l.length) :
    Calls Tryz.prog 60 #[slV g l.length] w fun e w' => ∃ u a, e = .returned u ∧ w.heap.size ≤ a ∧ RG w' a u l ∧ Below w.heap.size w w' := by
  obtain ⟨i0, hi0, hz0, hz1, hz2⟩ := info_parts Tryz.infoInt
  have q1 := fun a n c => eqNilI_some w a n c
  have HBA : Hid (Below w.heap.size w (w.alloc (.cells #[] 3))) := (Below.refl _ w).alloc (Nat.le_refl _) _
  have HOWN : Hid ((w.alloc (.cells #[] 3)).ownsRow w.heap.size 3 1 (.slice (some ⟨w.heap.size, 0, none⟩) 0 0) 0 []) := own_zero w w.heap.size 3 1 (Nat.le_refl _)
  have HNEW : Hid (∀ j u, (l.map intV)[j]? = some u → (w.alloc (.cells #[] 3)).cell? ((⟨g, 0, none⟩ : Addr).add j) = some u) := fun j u hu => by
    rw [add_plain, Nat.zero_add]
    exact (hr.alloc _).cell j u hu
  have HONE : Hid (∀ u ∈ l.map intV, u.oneCell' = true) := by
    intro u hu
    obtain ⟨x, _, rfl⟩ := List.mem_map.1 hu
    rfl
  have HLC : Hid ((l.map intV).length = l.length * 1) := by show _ = _; simp
  have HFIN : Hid (∀ (g2 cap2 : Nat) (wC : World), wC.ownsRow w.heap.size 3 1 (.slice (some ⟨g2, 0, none⟩) (0 + l.length) cap2) (0 + l.length) ([] ++ l.map intV) → w.heap.size ≤ g2 ∧ RG wC g2 (.slice (some ⟨g2, 0, none⟩) l.length cap2) l) := fun g2 cap2 wC h => by
    rw [Nat.zero_add, List.nil_append] at h
    rcases h.2 with ⟨hx, _⟩ | ⟨g3, cap3, cur, hx, hlo, hcur, hc3, _, _, htk⟩
    · cases hx
    · simp only [Value.slice.injEq, Option.some.injEq, Addr.mk.injEq] at hx
      obtain ⟨⟨rfl, _⟩, _, rfl⟩ := hx
      exact ⟨hlo, _, rfl, hc3, (Array.getElem?_eq_some_iff.1 hcur).1, fun j x hx => row_cell hcur htk (by rw [List.getElem?_map, hx]; rfl)⟩
  obtain ⟨n, hn⟩ : ∃ n, n = l.length := ⟨_, rfl⟩
  rw [← hn] at hl h0 HLC HFIN ⊢
  have hgl := hr.lt
  clear hn hr
  unfold slV
  go_enter Tryz.func60, Tryz.ntmps60
  go_wp2_with (at_builtin; refine wpList_append_lies _ rfl (.tmp 5) (.tmp 6) 36 rfl w.heap.size 3 i0 _ 1 8 Tryz.underlying36 hi0 hz0 hz1 hz2 rfl (by decide) (.slice (some ⟨w.heap.size, 0, none⟩) 0 0) 0 [] rfl HOWN.out ⟨g, 0, none⟩ n n (l.map intV) rfl HLC.out HNEW.out HONE.out h0 (by unfold maxLen; omega) (by omega) (by simp) (w.heap.size + 1) (by simp) ?_; intro g2 cap2 wC hown hgrow hat2 hltg; have HF := hide (HFIN.out g2 cap2 wC hown); have HGR := hide hgrow; clear hown hgrow hat2)
  go_ret
  exact ⟨_, _, rfl, HF.out.1, HF.out.2, HBA.out.grown HGR.out (by simp) (fun j e => by simp only [Value.ownBlock, Option.some.injEq] at e; omega)⟩
end Bo
end
section
open Go.RowKit
namespace Rf
theorem nexts_small (p : Ld.Prg) (hck : Ld.check p = none) (S I : Nat) (hS : Mc.total (Mc.parts p) ≤ 4096) : ∀ b, b ∈ nextsL p S I → ∀ i, i ∈ b → i ≤ 1000000 := fun b hb i hi => by
  obtain ⟨s, _, rfl⟩ := List.mem_map.1 hb
  obtain ⟨j, _, rfl⟩ := List.mem_map.1 hi
  have h := (nxt_small p hck s j hS).1 0 (Nat.zero_le _)
  rw [numAt_zero] at h
  exact h
theorem nexts_row (p : Ld.Prg) (hck : Ld.check p = none) (S I s : Nat) (r : List Nat) (h : (nextsL p S I)[s]? = some r) : Mc.nextRow p (Ld.kindL p.names 1).length I s = r.map intV ∧ r.length = I := by
  have hs : s < S := by have := (List.getElem?_eq_some_iff.1 h).1; rw [nextsL_len] at this; exact this
  have e : r = nextL p I s := by
    unfold nextsL at h
    rw [List.getElem?_map, List.getElem?_range hs] at h
    exact (Option.some.inj h).symm
  subst e
  refine ⟨?_, nextL_len p I s⟩
  unfold Mc.nextRow nextL
  rw [List.map_map]
  refine List.map_congr_left fun i _ => ?_
  show _ = intV (nxt p s i)
  rw [nxt_is p hck]
  rfl
end Rf
end
section
namespace Rf
open Go.RowKit
/-- two own rows, in blocks of their own -/
structure T2 (q : Nat) (W : World) (t1 t2 : TypeId) (v1 v2 : Value) (l1 l2 : List Value) : Prop where
  o1 : W.ownsRow q t1 1 v1 l1.length l1
  o2 : W.ownsRow q t2 1 v2 l2.length l2
  d12 : ∀ g, v1.ownBlock = some g → v2.ownBlock ≠ some g
theorem T2.rot {q : Nat} {W : World} {t1 t2 : TypeId} {v1 v2 : Value} {l1 l2 : List Value} (h : T2 q W t1 t2 v1 v2 l1 l2) : T2 q W t2 t1 v2 v1 l2 l1 := ⟨h.o2, h.o1, fun g e1 e2 => h.d12 g e2 e1⟩
theorem T2.below {q : Nat} {W W' : World} {t1 t2 : TypeId} {v1 v2 : Value} {l1 l2 : List Value} (h : T2 q W t1 t2 v1 v2 l1 l2) (hb : Below W.heap.size W W') : T2 q W' t1 t2 v1 v2 l1 l2 := ⟨own_below h.o1 hb, own_below h.o2 hb, h.d12⟩
theorem own_lt {W : World} {q : Nat} {e : TypeId} {s : Nat} {v : Value} {n : Nat} {xs : List Value} (h : W.ownsRow q e s v n xs) {g : Nat} (hg : v.ownBlock = some g) : q ≤ g ∧ g < W.heap.size := by
  rcases h.2 with ⟨h1, _⟩ | ⟨g', cap, cur, h1, h2, h3, _⟩
  · rw [h1] at hg; cases hg
  · rw [h1] at hg
    cases hg
    exact ⟨h2, (Array.getElem?_eq_some_iff.1 h3).1⟩
/-- the first has grown, behind what was laid new -/
theorem T2.app {q : Nat} {W Wx W' : World} {t1 t2 : TypeId} {v1 v2 : Value} {l1 l2 : List Value} {p : Value} {n g cap : Nat} (h : T2 q W t1 t2 v1 v2 l1 l2) (hq : q ≤ W.heap.size) (hn : l1.length = n) (hx : Below W.heap.size W Wx)
    (ho : W'.ownsRow q t1 1 (.slice (some ⟨g, 0, none⟩) (n + 1) cap) (n + 1) (l1 ++ [p])) (hg : Wx.grownBy W' v1.ownBlock) (hat : v1.ownBlock = some g ∨ W.heap.size ≤ g) :
    T2 q W' t1 t2 (.slice (some ⟨g, 0, none⟩) (n + 1) cap) v2 (l1 ++ [p]) l2 ∧ Below q W W' ∧ ∀ b, b < Wx.heap.size → W.heap.size ≤ b → W'.heap[b]? = Wx.heap[b]? := by
  subst hn
  have hxs := hx.size
  have hs := hg.size
  refine ⟨⟨by rw [List.length_append]; exact ho, ?_, fun g' e1 e2 => ?_⟩, ⟨hg.os.trans hx.os, hg.tape.trans hx.tape, hg.output.trans hx.output, by omega, fun k hk => ?_⟩, fun b hb hb2 => hg.block b hb (fun e => by have := (own_lt h.o1 e.symm).2; omega)⟩
  · refine (own_below h.o2 hx).kept hg ?_
    cases hv1 : v1.ownBlock with
    | none => cases hvv : v2.ownBlock with
      | none => exact .inl rfl
      | some k => exact .inr (by intro e; cases e)
    | some k => exact .inr (h.d12 k hv1)
  · have e3 : g = g' := by simpa [Value.ownBlock] using e1
    subst e3
    rcases hat with h1 | h1
    · exact h.d12 g h1 e2
    · have := (own_lt h.o2 e2).2
      omega
  · refine (hg.block k (by omega) (fun e => ?_)).trans (hx.block k (by omega))
    have := (own_lt h.o1 e.symm).1
    omega
end Rf
end
section
namespace Rg
open Go.RowKit
section
variable {P : Program} {md : Region.Mode} {ops : Array Oper} {Q : Exit → Act → World → Prop} {S : World → Prop}
theorem wpOp_in {i : Nat} {o : Oper} {K : Act → World → Prop} {a : Act} {w : World} (ho : ops[i]? = some o) (hw : Region.wanted o (yielded ops a.tmps) = true) (h : o.wp P a w K Q) : wpOp P ops Q i K a w := by
  unfold wpOp
  rw [ho]
  simp only [hw, if_true]
  exact .inl h
theorem wpOp_k {i : Nat} {o : Oper} {K : Act → World → Prop} {a : Act} {w : World} (ho : ops[i]? = some o) (hw : Region.wanted o (yielded ops a.tmps) = true) (h : ∀ K' : Act → World → Prop, (∀ a w, K a w → K' a w) → o.wp P a w K' Q) : wpOp P ops Q i K a w := wpOp_in ho hw (h K fun _ _ h => h)
theorem take_at (i d : Nat) (v : Value) {oi : Oper} {fuel : Nat} {listed : Array Bool} {tm : Array Value} {df : _} {w : World} (hi : ops[i]? = some oi) (hd : oi.dst = some d) (hs : Region.noSelect ops = true) (hf : Region.free md ops listed i = true) (hr : (Region.ready md ops listed).contains i = true) (hQ : ∀ c a w, ¬ Q (.panic c) a w) (hS : S w) (hy : YieldsIf P ops S oi v ⟨tm, df⟩) (h : wpAnyH P md ops Q S fuel (listed.setIfInBounds i true) ⟨tm.setIfInBounds d v, df⟩ w) : wpAnyH P md ops Q S (fuel + 1) listed ⟨tm, df⟩ w := by
  refine wpAnyH_take hi hs hf hr (fun c a w h => (hQ c _ w h).elim) hy hS ?_
  rw [hd]
  exact h
theorem skip_at (i d j : Nat) (want : Bool) {oi : Oper} {fuel : Nat} {listed : Array Bool} {tm : Array Value} {df : _} {w : World} (hi : ops[i]? = some oi) (hd : oi.dst = some d) (hg : oi.guard = some (j, want)) (hj : yielded ops tm j = some (!want)) (hs : Region.noSelect ops = true) (hf : Region.free md ops listed i = true) (hr : (Region.ready md ops listed).contains i = true) (hQ : ∀ c a w, ¬ Q (.panic c) a w) (hS : S w) (h : wpAnyH P md ops Q S fuel (listed.setIfInBounds i true) ⟨tm.setIfInBounds d undef, df⟩ w) : wpAnyH P md ops Q S (fuel + 1) listed ⟨tm, df⟩ w := by
  refine take_at i d undef hi hd hs hf hr hQ hS (Or.inr ⟨?_, rfl⟩) h
  unfold Region.wanted
  rw [hg]
  show (yielded ops tm j == some want) = false
  rw [hj]
  cases want <;> rfl
theorem skipU_at (i d j : Nat) (want : Bool) {oi : Oper} {fuel : Nat} {listed : Array Bool} {tm : Array Value} {df : _} {w : World} (hi : ops[i]? = some oi) (hd : oi.dst = some d) (hg : oi.guard = some (j, want)) (hj : yielded ops tm j = none) (hs : Region.noSelect ops = true) (hf : Region.free md ops listed i = true) (hr : (Region.ready md ops listed).contains i = true) (hQ : ∀ c a w, ¬ Q (.panic c) a w) (hS : S w) (h : wpAnyH P md ops Q S fuel (listed.setIfInBounds i true) ⟨tm.setIfInBounds d undef, df⟩ w) : wpAnyH P md ops Q S (fuel + 1) listed ⟨tm, df⟩ w := by
  refine take_at i d undef hi hd hs hf hr hQ hS (Or.inr ⟨?_, rfl⟩) h
  unfold Region.wanted
  rw [hg]
  show (yielded ops tm j == some want) = false
  rw [hj]
  rfl
theorem wpOp_skip (i d j : Nat) (want : Bool) {o : Oper} {K : Act → World → Prop} {tm : Array Value} {df : _} {w : World} (ho : ops[i]? = some o) (hd : o.dst = some d) (hg : o.guard = some (j, want)) (hj : yielded ops tm j = some (!want)) (h : K ⟨tm.setIfInBounds d undef, df⟩ w) : wpOp P ops Q i K ⟨tm, df⟩ w := by
  have hw : Region.wanted o (yielded ops tm) = false := by
    unfold Region.wanted
    rw [hg]
    show (yielded ops tm j == some want) = false
    rw [hj]
    cases want <;> rfl
  unfold wpOp
  rw [ho]
  simp only [hw]
  rw [hd]
  exact h
/-- those that may come up, one by one -/
theorem ready_at {rs : List Nat} {f : Nat} {l : Array Bool} {a : Act} {w : World} (hr : Region.ready md ops l = rs) (hne : rs ≠ []) (h : ∀ i ∈ rs, wpOp P ops Q i (fun a' w' => S w' ∧ wpAnyH P md ops Q S f (l.setIfInBounds i true) a' w') a w) : wpAnyH P md ops Q S (f + 1) l a w :=
  ⟨fun h0 => absurd (hr ▸ h0) hne, hr ▸ h⟩
theorem ready_one {i : Nat} {f : Nat} {l : Array Bool} {a : Act} {w : World} (hr : Region.ready md ops l = [i]) (h : wpOp P ops Q i (fun a' w' => S w' ∧ wpAnyH P md ops Q S f (l.setIfInBounds i true) a' w') a w) : wpAnyH P md ops Q S (f + 1) l a w :=
  ready_at hr (by simp) (fun j hj => by obtain rfl := List.mem_singleton.1 hj; exact h)
theorem ready_two {i j : Nat} {f : Nat} {l : Array Bool} {a : Act} {w : World} (hr : Region.ready md ops l = [i, j]) (h : wpOp P ops Q i (fun a' w' => S w' ∧ wpAnyH P md ops Q S f (l.setIfInBounds i true) a' w') a w) (h2 : wpOp P ops Q j (fun a' w' => S w' ∧ wpAnyH P md ops Q S f (l.setIfInBounds j true) a' w') a w) : wpAnyH P md ops Q S (f + 1) l a w :=
  ready_at hr (by simp) (fun k hk => by
    rcases List.mem_cons.1 hk with rfl | hk
    · exact h
    · obtain rfl := List.mem_singleton.1 hk; exact h2)
end
end Rg
end
end Go.Proofs.YtgldbliohpfljaaGreatDoor
