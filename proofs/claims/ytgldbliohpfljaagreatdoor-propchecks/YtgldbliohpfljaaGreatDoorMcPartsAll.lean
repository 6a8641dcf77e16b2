/-
  The walk of package ladder's Edges: the names whose edges some rung asks for. The walks of package machine's partsOf and states.
-/
import Derived.Test.YtgldbliohpfljaaGreatDoorNaEdgesAll
import Derived.Test.YtgldbliohpfljaaGreatDoorRlStayAll
import Derived.Test.YtgldbliohpfljaaGreatDoorLdKindAll
import Derived.Test.YtgldbliohpfljaaGreatDoorRtParseAll
import Derived.Test.YtgldbliohpfljaaGreatDoorLdCheckAll
import Derived.Test.YtgldbliohpfljaaGreatDoorRdListAll
import Derived.Test.YtgldbliohpfljaaGreatDoorLdWordsAll
import Derived.Test.YtgldbliohpfljaaGreatDoorShelf2
import Derived.Laws.OwnMore
import Derived.Lib.AppendZeros
import Derived.Deep.RegionLaw
import Derived.Maps.AppendAt
namespace Go.Proofs.YtgldbliohpfljaaGreatDoor
section
open Go.RowKit
theorem Tryz.infoStrL : (Tryz.prog.info? 9).map (fun i => (i.zero, i.size, i.bytes)) = some (some (.string ⟨#[]⟩), 1, 16) := by kernel_rfl
/-- strings are appended to an own row -/
theorem append_strs {W : World} (base : Nat) (ty : TypeId) (v sv : Value) (xs ss : List ByteArray) (hown : W.ownsRow base 9 1 v xs.length (xs.map .string)) (hs : Strs W sv ss) (hb : base ≤ W.heap.size) (hx : xs.length ≤ 100000000) :
    ∃ v' W', (Builtin.append_ #[65, 65] ty #[v, sv]).run Tryz.prog W = .ok v' W' ∧ W'.ownsRow base 9 1 v' (xs ++ ss).length ((xs ++ ss).map .string) ∧ W.grownBy W' v.ownBlock := by
  obtain ⟨i0, hi0, hz0, hz1, hz2⟩ := info_parts Tryz.infoStrL
  rcases hs with ⟨rfl, a, c, rfl⟩ | ⟨g, o, cap, rfl, hcap, hl, hcell⟩
  · exact ⟨v, W, append_zero base _ ty _ i0 1 Tryz.underlying65 hi0 v _ _ hown a c, by simpa using hown, ⟨rfl, rfl, rfl, Nat.le_refl _, fun _ _ _ => rfl⟩⟩
  · obtain ⟨v', W', h1, h2, h3, _⟩ := run_append_own_at (P := Tryz.prog) W base 65 ty 9 i0 _ 1 16 Tryz.underlying65 hi0 hz0 hz1 hz2 rfl (by decide) v xs.length (xs.map .string) hown ⟨g, o, none⟩ ss.length cap (ss.map .string) (by simp) (fun j u hu => by
        rw [List.getElem?_map] at hu
        cases hj : ss[j]? with
        | none => rw [hj] at hu; cases hu
        | some b =>
          rw [hj] at hu
          cases hu
          have := hcell j b hj
          cases j <;> simpa [Addr.add] using this) (fun u hu => by
        obtain ⟨b, _, rfl⟩ := List.mem_map.1 hu
        rfl) (by unfold maxLen; omega) (by omega) hb
    exact ⟨v', W', h1, by rw [List.length_append, List.map_append]; exact h2, h3⟩
namespace Ld
/-- the names whose edges the first k rungs ask for, rung by rung in order -/
def askedTo (p : Prg) (k : Nat) : List ByteArray := ((p.rungs.take k).map fun r => (ordered (asksR r)).map toBA).flatten
theorem askedTo_succ (p : Prg) (k : Nat) (hk : k < p.rungs.length) : askedTo p (k + 1) = askedTo p k ++ (ordered (asksR p.rungs[k])).map toBA := by
  unfold askedTo
  rw [List.take_succ_eq_append_getElem hk, List.map_append, List.flatten_append]
  simp
theorem mem_askedTo (p : Prg) (s : List UInt8) : toBA s ∈ askedTo p p.rungs.length ↔ s ∈ asked p := by
  unfold askedTo asked
  rw [List.take_length]
  constructor
  · intro h
    obtain ⟨l, hl, hs⟩ := List.mem_flatten.1 h
    obtain ⟨r, hr, rfl⟩ := List.mem_map.1 hl
    obtain ⟨t, ht, e⟩ := List.mem_map.1 hs
    have e2 : t = s := by
      have := congrArg (fun b : ByteArray => b.data.toList) e
      simpa [toBA] using this
    subst e2
    exact List.mem_flatten.2 ⟨_, List.mem_map.2 ⟨r, hr, rfl⟩, (mem_ordered _ _).1 ht⟩
  · intro h
    obtain ⟨l, hl, hs⟩ := List.mem_flatten.1 h
    obtain ⟨r, hr, rfl⟩ := List.mem_map.1 hl
    exact List.mem_flatten.2 ⟨_, List.mem_map.2 ⟨r, hr, rfl⟩, List.mem_map.2 ⟨s, (mem_ordered _ _).2 hs, rfl⟩⟩
end Ld
namespace Ld
theorem askedTo_len (p : Prg) (B : Nat) (h : ∀ r, r ∈ p.rungs → (asksR r).length ≤ B) : ∀ k, k ≤ p.rungs.length → (askedTo p k).length ≤ k * B
  | 0, _ => by simp [askedTo]
  | k + 1, hk => by
    have ih := askedTo_len p B h k (by omega)
    have h1 := h p.rungs[k] (List.getElem_mem _)
    have h2 := ordered_le (asksR p.rungs[k])
    rw [askedTo_succ p k (by omega), List.length_append, List.length_map, Nat.add_mul, Nat.one_mul]
    omega
theorem asks_len {w : World} {sv : Value} {p : Prg} (hr : RungsAt w sv p.rungs) : ∀ r, r ∈ p.rungs → (asksR r).length ≤ 1000000 := by
  intro r hm
  rcases hr with ⟨h0, _⟩ | ⟨g, cap, _, _, _, h9⟩
  · rw [h0] at hm; simp at hm
  · obtain ⟨i, hi⟩ := List.getElem?_of_mem hm
    obtain ⟨u, _, _, _, _, _, hcd⟩ := h9 i r hi
    unfold asksR
    cases hc : r.cond with
    | none => simp
    | some x =>
      rw [hc] at hcd
      exact Nat.le_trans (Ex.named_le false x) hcd.2.1
end Ld
theorem contains_any (q : Nat) (sv : Value) (ss : List ByteArray) (x : ByteArray) (w : World) (h : w.ownsRow q 9 1 sv ss.length (ss.map .string)) (hl : ss.length ≤ 100000000) :
    Calls Tryz.prog 162 #[sv, .string x] w fun e w' => e = .returned (.bool (Lib.containsS ss x)) ∧ w' = w := by
  rcases h.2 with ⟨rfl, h0⟩ | ⟨g, cap, cur, rfl, _, hcur, _, _, _, htk⟩
  · refine (Tryz.slices_Contains_string_empty none 0 x w).mono ?_
    rintro e w' ⟨rfl, rfl⟩
    rw [List.length_eq_zero_iff.1 h0]
    exact ⟨rfl, rfl⟩
  · refine (Tryz.slices_Contains_string g 0 ss.length cap ss x w (Nat.le_refl _) (by omega) (fun j hj => ?_)).mono ?_
    · rw [Nat.zero_add]
      exact row_cell hcur htk (by rw [List.getElem?_map, List.getElem?_eq_getElem hj]; simp [hj])
    · rintro e w' ⟨rfl, rfl⟩
      rw [List.take_length]
      exact ⟨rfl, rfl⟩
set_option maxHeartbeats 2000000 in
theorem edges1_ask (q b : Nat) (ss : List ByteArray) (n : Ld.Nme) (w : World) (sv : Value) (hc : w.cell? ⟨b, 0, none⟩ = some sv) (h : w.ownsRow q 9 1 sv ss.length (ss.map .string)) (hl : ss.length ≤ 100000000) :
    Calls Tryz.prog 161 #[.agg #[.string ⟨n.name.toArray⟩, .int .i64 n.kind, .int .i64 n.count], .pointer (some ⟨b, 0, none⟩)] w fun e w' => e = .returned (.bool (Lib.containsS ss (toBA n.name))) ∧ Below w.heap.size w w' := by
  obtain ⟨nm, k, c⟩ := n
  have hlt : b < w.heap.size := World.block_lt_of_cell? _ _ hc
  have HC := hide (contains_any q sv ss (toBA nm) _ (h.alloc (.cells #[.string ⟨nm.toArray⟩, .int .i64 k, .int .i64 c] 201)) hl)
  obtain ⟨sa, sc, rfl⟩ := own_slice h
  clear h
  go_enter Tryz.func161, Tryz.ntmps161
  go_wp2_with fail
  refine HC.out.mono ?_
  rintro e w' ⟨rfl, rfl⟩
  go_wp2_with fail
  go_ret
  exact ⟨rfl, (Below.refl _ _).alloc (Nat.le_refl _) _⟩
set_option maxHeartbeats 8000000 in
set_option maxRecDepth 100000 in
theorem LEdges_any (p : Ld.Prg) (v : Value) (w : World) (h : IsPrg w p v) (hck : Ld.check p = none) :
    Calls Tryz.prog 122 #[v] w fun e w' => ∃ u, e = .returned u ∧ w'.ownsRow w.heap.size 3 1 u (Ld.edges p).length ((Ld.edges p).map intV) ∧ Below w.heap.size w w' := by
  have hmf : ∀ (fn : Fn) (first cap : Array Value) (w : World), (Instr.makeFunc fn first cap).run Tryz.prog w = .ok (.func fn first cap) w := fun _ _ _ _ => rfl
  have HPR := hide h
  have HCK := hide hck
  obtain ⟨nv, rv, rfl, hn, hr⟩ := h
  have HNA := hide hn
  have HRA := hide hr
  obtain ⟨na, nc, rfl, _⟩ := hn.slice
  obtain ⟨ra, rc, rfl, _⟩ := hr.slice
  have h40 := (Ld.check_names p hck).2.1
  have HLEN : Hid (∀ k, k ≤ p.rungs.length → (Ld.askedTo p k).length ≤ 100000000) := fun k hk => by have := Ld.askedTo_len p 1000000 (Ld.asks_len hr) k hk; omega
  obtain ⟨n, hnn⟩ : ∃ n, n = p.names.length := ⟨_, rfl⟩
  obtain ⟨m, hmm⟩ : ∃ m, m = p.rungs.length := ⟨_, rfl⟩
  have HN := hide hnn
  have HM := hide hmm
  rw [← hnn] at HPR HNA ⊢
  rw [← hmm] at HPR HRA h40 HLEN ⊢
  clear hn hr hnn hmm hck
  obtain ⟨wA, hwA⟩ : ∃ wA, wA = w.alloc (.cells #[.slice na n nc, .slice ra m rc] 83) := ⟨_, rfl⟩
  have hbA : Below w.heap.size w wA := by rw [hwA]; exact (Below.refl _ _).alloc (Nat.le_refl _) _
  have hsA : wA.heap.size = w.heap.size + 1 := by rw [hwA]; simp
  have hA : wA.heap[w.heap.size]? = some (.cells #[.slice na n nc, .slice ra m rc] 83 (0, 0)) := by rw [hwA]; exact heap_alloc_new _ _
  have HBX : Hid (∀ (W : World), Below wA.heap.size wA W → W.cell? ⟨w.heap.size, 0, none⟩ = some (.slice na n nc) ∧ W.cell? ⟨w.heap.size, 1, none⟩ = some (.slice ra m rc) ∧ Below w.heap.size w W) := by
    intro W hW
    have e0 := (hW.block w.heap.size (by omega)).trans hA
    exact ⟨by rw [Lib.cell_of_heap e0]; rfl, by rw [Lib.cell_of_heap e0]; rfl, hbA.trans (hW.mono (by omega))⟩
  have HKC := hide (Check_any p _ wA (HPR.out.below hbA))
  rw [HCK.out, hwA] at HKC
  have HWA := hide hwA
  have HSA := hide hsA
  clear hwA hbA hA hsA
  go_enter Tryz.func122, Tryz.ntmps122
  go_wp2_with fail
  refine HKC.out.mono ?_
  rintro e w1 ⟨er, rfl, her, hb1⟩
  obtain rfl : er = .nilIface := her
  rw [← HWA.out] at hb1
  have HB1 := hide hb1
  obtain ⟨c0, c1, hw1⟩ := HBX.out w1 hb1
  have hw1l : w.heap.size < w1.heap.size := World.block_lt_of_cell? _ _ c0
  clear hb1 HKC hw1
  obtain ⟨w2, hw2⟩ : ∃ w2, w2 = w1.alloc (.cells #[.slice none 0 0] 65) := ⟨_, rfl⟩
  have hb2 : Below w1.heap.size w1 w2 := by rw [hw2]; exact (Below.refl _ _).alloc (Nat.le_refl _) _
  have hv2 : w2.heap[w1.heap.size]? = some (.cells #[.slice none 0 0] 65 (0, 0)) := by rw [hw2]; exact heap_alloc_new _ _
  have hs2 : w2.heap.size = w1.heap.size + 1 := by rw [hw2]; simp
  have HV2 := hide hv2
  have HB2 := hide hb2
  clear hv2 hb2
  go_wp2_with fail
  rw [← hw2]
  clear hw2
  go_loopw [12] (fun i wr => ∃ k : Nat, k ≤ m ∧ i = .int .i64 (k : Int) ∧ Hid (∃ sv, wr.heap[w1.heap.size]? = some (.cells #[sv] 65 (0, 0)) ∧ wr.ownsRow (w1.heap.size + 1) 9 1 sv (Ld.askedTo p k).length ((Ld.askedTo p k).map .string)) ∧ Hid (Below w1.heap.size w1 wr) ∧ w1.heap.size < wr.heap.size) (fun i _ => m - (intOf i).toNat)
  case atStart => exact ⟨0, Nat.zero_le _, rfl, ⟨_, HV2.out, World.ownsRow_nil _ _ _ _⟩, HB2.out, by omega⟩
  case round =>
    obtain ⟨k, hk, rfl, HI, HBR, hzr⟩ := hrel
    obtain ⟨sv, hvr, hown⟩ := HI.out
    obtain ⟨sva, svc, rfl⟩ := own_slice hown
    have hbr' : Below wA.heap.size wA wr := HB1.out.trans (HBR.out.mono HB1.out.size)
    obtain ⟨d0, d1, hbw⟩ := HBX.out wr hbr'
    have HBW := hide hbw
    have HBA := hide hbr'
    clear HI hbw hbr' c0 c1
    by_cases hlt : k < m
    · have hkl : k < p.rungs.length := by rw [← HM.out]; exact hlt
      obtain ⟨g, hra, hca, u, e1, e2, e3, _, _, e6⟩ : ∃ g, ra = some ⟨g, 0, none⟩ ∧ m ≤ rc ∧ RungAt wr g k p.rungs[k] := by
        rcases HRA.out.below HBW.out with ⟨h0, _⟩ | ⟨g, cap, h1, h2, h3, h4⟩
        · rw [h0] at hkl; simp at hkl
        · simp only [Value.slice.injEq] at h1
          exact ⟨g, h1.1, by rw [h1.2.2, h1.2.1]; exact h2, h4 k _ (List.getElem?_eq_getElem hkl)⟩
      subst hra
      obtain ⟨_, _, _, x, q4, _⟩ := (Ld.check_names p HCK.out).2.2.2 _ (List.getElem_mem hkl)
      have HSU0 := hide (Ld.askedTo_succ p k hkl)
      have hak := HLEN.out k hk
      generalize p.rungs[k] = y at *
      obtain ⟨yk, ynm, yc⟩ := y
      simp only at e1 e2 e3 q4 e6
      subst q4
      have HSU : Hid (Ld.askedTo p (k + 1) = Ld.askedTo p k ++ (ordered (x.named false)).map toBA) := HSU0.out
      clear HSU0
      obtain ⟨hx, hxs, hxt⟩ := e6
      obtain ⟨tu, yu, hiu⟩ := IsEx.iface x u hx
      subst hiu
      have hgl : g < wr.heap.size := World.block_lt_of_cell? _ _ e1
      obtain ⟨wR, hwR⟩ : ∃ wR, wR = wr.alloc (.cells #[.int .i64 yk, .string ⟨ynm.toArray⟩, .iface tu yu] 230) := ⟨_, rfl⟩
      have hbR : Below wr.heap.size wr wR := by rw [hwR]; exact (Below.refl _ _).alloc (Nat.le_refl _) _
      have hR : wR.heap[wr.heap.size]? = some (.cells #[.int .i64 yk, .string ⟨ynm.toArray⟩, .iface tu yu] 230 (0, 0)) := by rw [hwR]; exact heap_alloc_new _ _
      have x0 : wR.cell? ⟨w1.heap.size, 0, none⟩ = some (.slice sva (Ld.askedTo p k).length svc) := by rw [hbR.cell (p := ⟨w1.heap.size, 0, none⟩) hzr, Lib.cell_of_heap hvr]; rfl
      have x1 : wR.cell? ⟨wr.heap.size, 2, none⟩ = some (.iface tu yu) := by rw [Lib.cell_of_heap hR]; rfl
      have hbRd : Below wr.heap.size wr wR.drew := ⟨hbR.os, hbR.tape, hbR.output, hbR.size, hbR.block⟩
      have HED := hide (Edges_any _ x _ wR.drew (hx.aft hbRd) hxs)
      have HBR2 := hide hbRd
      have HCALL : Hid (∀ (w3 : World) (sv2 : Value), Strs w3 sv2 ((ordered (x.named false)).map toBA) → Below wR.drew.heap.size wR.drew w3 → ∃ va vc w4, (Builtin.append_ #[65, 65] 65 #[.slice sva (Ld.askedTo p k).length svc, sv2]).run Tryz.prog w3 = .ok (.slice va (Ld.askedTo p (k + 1)).length vc) w4 ∧
          (w3.cell? ⟨w1.heap.size, 0, none⟩ = some (.slice sva (Ld.askedTo p k).length svc) ∧ w3.frozen? ⟨w1.heap.size, 0, none⟩ = false) ∧ (w4.cell? ⟨w1.heap.size, 0, none⟩ = some (.slice sva (Ld.askedTo p k).length svc) ∧ w4.frozen? ⟨w1.heap.size, 0, none⟩ = false) ∧
          ((w4.setCell ⟨w1.heap.size, 0, none⟩ (.slice va (Ld.askedTo p (k + 1)).length vc)).heap[w1.heap.size]? = some (.cells #[(.slice va (Ld.askedTo p (k + 1)).length vc)] 65 (0, 0)) ∧ (w4.setCell ⟨w1.heap.size, 0, none⟩ (.slice va (Ld.askedTo p (k + 1)).length vc)).ownsRow (w1.heap.size + 1) 9 1 (.slice va (Ld.askedTo p (k + 1)).length vc) (Ld.askedTo p (k + 1)).length ((Ld.askedTo p (k + 1)).map .string) ∧ Below w1.heap.size w1 (w4.setCell ⟨w1.heap.size, 0, none⟩ (.slice va (Ld.askedTo p (k + 1)).length vc)) ∧ w1.heap.size < (w4.setCell ⟨w1.heap.size, 0, none⟩ (.slice va (Ld.askedTo p (k + 1)).length vc)).heap.size)) := by
        intro w3 sv2 hss hb3
        have hb03 : Below wr.heap.size wr w3 := hbRd.trans (hb3.mono hbRd.size)
        have hz3 := hb03.size
        obtain ⟨v', w4, h1, h2, h3⟩ := append_strs (w1.heap.size + 1) 65 _ sv2 _ _ (own_below hown hb03) hss (by omega) hak
        have hv3 : w3.heap[w1.heap.size]? = some (.cells #[.slice sva (Ld.askedTo p k).length svc] 65 (0, 0)) := (hb03.block _ hzr).trans hvr
        have hlb : ∀ j, (Value.slice sva (Ld.askedTo p k).length svc).ownBlock = some j → w1.heap.size + 1 ≤ j := fun j e => (hown.lt j e).1
        have hv4 : w4.heap[w1.heap.size]? = some (.cells #[.slice sva (Ld.askedTo p k).length svc] 65 (0, 0)) := (h3.block _ (by omega) (fun e => by have := hlb _ e.symm; omega)).trans hv3
        have hz4 := h3.size
        rw [← HSU.out] at h2
        obtain ⟨va, vc, rfl⟩ := own_slice h2
        refine ⟨va, vc, w4, h1, ⟨by rw [Lib.cell_of_heap hv3]; rfl, Lib.frozen_of_heap hv3 0⟩, ⟨by rw [Lib.cell_of_heap hv4]; rfl, Lib.frozen_of_heap hv4 0⟩, ?_, ?_, ?_, ?_⟩
        · simp [World.setCell, Array.getElem?_modify, hv4]
        · exact own_moved h2 (fun j hj _ => Below.heap_setCell _ _ _ _ (fun e => by simp at e; omega))
        · have hb04 : Below w1.heap.size w1 w4 := (HBR.out.trans (hb03.mono HBR.out.size)).grown h3 (by omega) (fun j e => by have := hlb j e; omega)
          exact hb04.setCell (p := ⟨w1.heap.size, 0, none⟩) (Nat.le_refl _) _
        · simp [World.setCell]; omega
      clear hbR hbRd hR hx hown
      go_wp2_with fail
      rw [← hwR]
      clear hwR
      go_region_law (first | (refine step_append_run w3 rfl (.tmp 16) (.tmp 19) 65 65 rfl (.slice sva (Ld.askedTo p k).length svc) sv2 rfl rfl (.slice va (Ld.askedTo p (k + 1)).length vc) w4 HAPP.out ?_) | (go_simp; go_at_call 160; refine HED.out.mono ?_; rintro e w3 ⟨sv2, rfl, hss, hb3⟩; obtain ⟨va, vc, w4, happ, ⟨y0, y1⟩, ⟨y2, y3⟩, hfin⟩ := HCALL.out w3 sv2 hss hb3; have HAPP := hide happ; have HFIN := hide hfin; clear hss hb3 hfin happ))
      all_goals go_wp2_with fail
      all_goals
        obtain ⟨r1, r2, r3, r4⟩ := HFIN.out
        exact ⟨⟨k + 1, by omega, by go_num, ⟨_, r1, r2⟩, r3, r4⟩, by simp [intOf]; omega⟩
    · have hkm : k = m := by omega
      have hak := HLEN.out k hk
      have HED : Hid (∀ y : Ld.Nme, Lib.containsS (Ld.askedTo p k) (toBA y.name) = (Ld.asked p).contains y.name) := by
        intro y
        rw [Bool.eq_iff_iff, Lib.containsS_iff, List.contains_iff_mem, hkm, HM.out]
        exact Ld.mem_askedTo p y.name
      have HNU := hide (numbers_any p.names (.slice na n nc) (.slice ra m rc) (.func (.func 161) #[] #[.pointer (some ⟨w1.heap.size, 0, none⟩)]) (fun y => (Ld.asked p).contains y.name) wr (HNA.out.below HBW.out) ⟨_, _, _, rfl⟩
        ⟨161, _, rfl, fun _ _ => by kernel_rfl, fun y W hW hy => by
          have h1 := edges1_ask (w1.heap.size + 1) w1.heap.size (Ld.askedTo p k) y W _ ((hW.cell (p := ⟨w1.heap.size, 0, none⟩) hzr).trans (by rw [Lib.cell_of_heap hvr]; rfl)) (own_below hown hW) hak
          rw [HED.out y] at h1
          exact h1⟩)
      clear hown hvr
      subst hkm
      go_wp2_with fail
      refine HNU.out.mono ?_
      rintro e w3 ⟨u, rfl, hown, hb3⟩
      have hown' : w3.ownsRow w.heap.size 3 1 u (Ld.edges p).length ((Ld.edges p).map intV) := own_mono hown HBW.out.size
      have HO := hide hown'
      have HB3 := hide (HBW.out.trans (hb3.mono HBW.out.size))
      obtain ⟨ua, uc, rfl⟩ := own_slice hown'
      clear hown hown' hb3 HNU
      go_wp2_with fail
      go_ret
      exact ⟨_, rfl, HO.out, HB3.out⟩
end
section
open Go.RowKit
def ptCells (x : Nat × Bool) : List Value := [.int .i64 (x.1 : Int), .bool x.2]
theorem makeP (w : World) : ∀ n : Nat, n ≤ 12 → (Instr.makeSlice 100 (.int .i64 (n : Int)) (.int .i64 (n : Int))).run Tryz.prog w = .ok (.slice (some ⟨w.heap.size, 0, none⟩) n n) (w.alloc (.cells ⟨(List.replicate n [Value.int .i64 0, .bool false]).flatten⟩ 234)) := by
  apply upto12 <;> kernel_rfl
/-- a row of pairs that is filled from the head: the next pair's first, its second, its first again -/
theorem fill_fst (A : List Value) (z0 z1 u : Value) (d : Nat) : (A ++ (List.replicate (d + 1) [z0, z1]).flatten).set A.length u = A ++ [u, z1] ++ (List.replicate d [z0, z1]).flatten := by
  rw [List.replicate_succ, List.flatten_cons, List.set_append_right _ _ (Nat.le_refl _), Nat.sub_self]
  simp
theorem fill_fst' (A R : List Value) (u v u' : Value) : (A ++ [u, v] ++ R).set A.length u' = A ++ [u', v] ++ R := by
  rw [List.append_assoc, List.set_append_right _ _ (Nat.le_refl _), Nat.sub_self]
  simp
theorem fill_snd (A R : List Value) (u v v' : Value) : (A ++ [u, v] ++ R).set (A.length + 1) v' = A ++ [u, v'] ++ R := by
  rw [List.append_assoc, List.set_append_right _ _ (by omega), show A.length + 1 - A.length = 1 by omega]
  simp
theorem pt_len (l : List (Nat × Bool)) : (l.flatMap ptCells).length = l.length * 2 := by
  induction l with
  | nil => rfl
  | cons a r ih => rw [List.flatMap_cons, List.length_append, ih, List.length_cons]; simp [ptCells]; omega
/-- the row of parts, the first k of them laid -/
def partRow (p : Ld.Prg) (k : Nat) : List Value := ((Mc.parts p).take k).flatMap ptCells ++ (List.replicate (p.names.length - k) [Value.int .i64 0, .bool false]).flatten
theorem partRow_zero (p : Ld.Prg) : partRow p 0 = (List.replicate p.names.length [Value.int .i64 0, .bool false]).flatten := by simp [partRow]
theorem partRow_all (p : Ld.Prg) : partRow p p.names.length = (Mc.parts p).flatMap ptCells := by
  unfold partRow
  rw [Nat.sub_self, List.take_of_length_le (by rw [Mc.parts_len]; exact Nat.le_refl _)]
  simp
theorem partRow_set (p : Ld.Prg) (k : Nat) (hk : k < p.names.length) (u : Value) :
    ∃ R, (partRow p k).set (k * 2) u = ((Mc.parts p).take k).flatMap ptCells ++ [u, .bool false] ++ R ∧ partRow p (k + 1) = ((Mc.parts p).take k).flatMap ptCells ++ ptCells (Mc.part p k) ++ R ∧ (((Mc.parts p).take k).flatMap ptCells).length = k * 2 ∧ (partRow p k)[k * 2]? = some (.int .i64 0) ∧ (partRow p k)[k * 2 + 1]? = some (.bool false) := by
  have hl : (((Mc.parts p).take k).flatMap ptCells).length = k * 2 := by rw [pt_len, List.length_take, Mc.parts_len]; omega
  obtain ⟨d, hd⟩ : ∃ d, p.names.length - k = d + 1 := ⟨p.names.length - k - 1, by omega⟩
  refine ⟨(List.replicate d [Value.int .i64 0, .bool false]).flatten, ?_, ?_, hl, ?_, ?_⟩
  · unfold partRow
    rw [hd, ← hl, fill_fst]
  · unfold partRow
    have hkl : k < (Mc.parts p).length := by rw [Mc.parts_len]; exact hk
    have e : (Mc.parts p)[k] = Mc.part p k := by
      have := Mc.parts_at p k hk
      rw [List.getElem?_eq_getElem hkl] at this
      exact Option.some.inj this
    rw [List.take_succ_eq_append_getElem hkl, List.flatMap_append, e, show p.names.length - (k + 1) = d by omega]
    simp
  · unfold partRow
    rw [hd, List.getElem?_append_right (by omega), hl, Nat.sub_self, List.replicate_succ]
    rfl
  · unfold partRow
    rw [hd, List.getElem?_append_right (by omega), hl, show k * 2 + 1 - k * 2 = 1 by omega, List.replicate_succ]
    rfl
theorem partRow_edit (p : Ld.Prg) (k : Nat) (hk : k < p.names.length) {W : World} {g : Nat} (h : RowIs W g 234 (partRow p k)) :
    (∀ (a : Nat), Mc.part p k = (a, false) → RowIs (W.setCell ⟨g, k * 2, none⟩ (.int .i64 (a : Int))) g 234 (partRow p (k + 1))) ∧
    (∀ (a : Nat), Mc.part p k = (a, true) → RowIs ((W.setCell ⟨g, k * 2, none⟩ (.int .i64 (a : Int))).setCell ⟨g, k * 2 + 1, none⟩ (.bool true)) g 234 (partRow p (k + 1))) ∧
    (∀ (a : Nat) (b : Int), Mc.part p k = (a, false) → RowIs ((W.setCell ⟨g, k * 2, none⟩ (.int .i64 b)).setCell ⟨g, k * 2, none⟩ (.int .i64 (a : Int))) g 234 (partRow p (k + 1))) ∧
    W.cell? ⟨g, k * 2, none⟩ = some (.int .i64 0) ∧ W.cell? ⟨g, k * 2 + 1, none⟩ = some (.bool false) := by
  obtain ⟨R, e1, e2, hl, c0, c1⟩ := partRow_set p k hk (.int .i64 0)
  have key : ∀ u, (partRow p k).set (k * 2) u = ((Mc.parts p).take k).flatMap ptCells ++ [u, .bool false] ++ R := fun u => by
    have h1 : ((partRow p k).set (k * 2) (.int .i64 0)).set (k * 2) u = (partRow p k).set (k * 2) u := List.set_set _
    rw [← h1, e1]
    have h2 := fill_fst' (((Mc.parts p).take k).flatMap ptCells) R (.int .i64 0) (.bool false) u
    rw [hl] at h2
    exact h2
  refine ⟨fun a ha => ?_, fun a ha => ?_, fun a b ha => ?_, h.cell _ _ c0, h.cell _ _ c1⟩
  · have h1 := h.set (k * 2) (.int .i64 (a : Int))
    rw [key] at h1
    rw [e2, ha]
    exact h1
  · have h1 := (h.set (k * 2) (.int .i64 (a : Int))).set (k * 2 + 1) (.bool true)
    have h2 := fill_snd (((Mc.parts p).take k).flatMap ptCells) R (.int .i64 (a : Int)) (.bool false) (.bool true)
    rw [hl] at h2
    rw [key, h2] at h1
    rw [e2, ha]
    exact h1
  · have h1 := (h.set (k * 2) (.int .i64 b)).set (k * 2) (.int .i64 (a : Int))
    rw [List.set_set, key] at h1
    rw [e2, ha]
    exact h1
theorem contains_int_any (q : Nat) (sv : Value) (ns : List Nat) (x : Nat) (w : World) (h : w.ownsRow q 3 1 sv ns.length (ns.map intV)) (hl : ns.length ≤ 100000000) :
    Calls Tryz.prog 59 #[sv, .int .i64 (x : Int)] w fun e w' => e = .returned (.bool (ns.contains x)) ∧ w' = w := by
  rcases h.2 with ⟨rfl, h0⟩ | ⟨g, cap, cur, rfl, _, hcur, _, _, _, htk⟩
  · refine (Tryz.slices_Contains_int_empty none 0 x w).mono ?_
    rintro e w' ⟨rfl, rfl⟩
    rw [List.length_eq_zero_iff.1 h0]
    exact ⟨rfl, rfl⟩
  · refine (Tryz.slices_Contains_int g 0 ns.length cap (ns.map fun (i : Nat) => (i : Int)) x w (by simp) (by omega) (fun j hj => ?_)).mono ?_
    · rw [Nat.zero_add]
      have hj' : j < ns.length := by simpa using hj
      exact row_cell hcur htk (by rw [List.getElem?_map, List.getElem?_eq_getElem hj']; simp [hj', intV])
    · rintro e w' ⟨rfl, rfl⟩
      have e1 : ((ns.map fun (i : Nat) => (i : Int)).take ns.length).contains (x : Int) = ns.contains x := by
        rw [List.take_of_length_le (by simp), Bool.eq_iff_iff, List.contains_iff_mem, List.contains_iff_mem]
        constructor
        · intro h
          obtain ⟨i, hi, e⟩ := List.mem_map.1 h
          have : i = x := by omega
          rw [← this]; exact hi
        · intro h
          exact List.mem_map.2 ⟨x, h, rfl⟩
      rw [e1]
      exact ⟨rfl, rfl⟩
/-- what partsOf comes to in memory -/
def Parted (w : World) (p : Ld.Prg) (e : Ending) (w' : World) : Prop := ∃ g, e = .returned (slV g p.names.length) ∧ RowIs w' g 234 ((Mc.parts p).flatMap ptCells) ∧ w.heap.size ≤ g ∧ Below w.heap.size w w'
set_option maxHeartbeats 8000000 in
set_option maxRecDepth 100000 in
theorem partsOf_any (p : Ld.Prg) (v : Value) (w : World) (h : IsPrg w p v) (hck : Ld.check p = none) :
    Calls Tryz.prog 75 #[v] w (Parted w p) := by
  have HPR := hide h
  have HCK := hide hck
  obtain ⟨nv, rv, rfl, hn, hr⟩ := h
  have HNA := hide hn
  obtain ⟨na, nc, rfl, _⟩ := hn.slice
  obtain ⟨ra, rc, rfl, _⟩ := hr.slice
  have h12 := (Ld.check_names p hck).1
  have mk := fun w => makeP w p.names.length h12
  rw [← partRow_zero] at mk
  obtain ⟨n, hnn⟩ : ∃ n, n = p.names.length := ⟨_, rfl⟩
  obtain ⟨m, hmm⟩ : ∃ m, m = p.rungs.length := ⟨_, rfl⟩
  have HN := hide hnn
  rw [← hnn] at HPR HNA h12 mk ⊢
  rw [← hmm] at HPR ⊢
  clear hn hr hnn hmm hck
  obtain ⟨wA, hwA⟩ : ∃ wA, wA = w.alloc (.cells #[.slice na n nc, .slice ra m rc] 83) := ⟨_, rfl⟩
  have hbA : Below w.heap.size w wA := by rw [hwA]; exact (Below.refl _ _).alloc (Nat.le_refl _) _
  have hsA : wA.heap.size = w.heap.size + 1 := by rw [hwA]; simp
  have hA : wA.heap[w.heap.size]? = some (.cells #[.slice na n nc, .slice ra m rc] 83 (0, 0)) := by rw [hwA]; exact heap_alloc_new _ _
  have HBX : Hid (∀ (W : World), Below wA.heap.size wA W → W.cell? ⟨w.heap.size, 0, none⟩ = some (.slice na n nc) ∧ W.cell? ⟨w.heap.size, 1, none⟩ = some (.slice ra m rc) ∧ Below w.heap.size w W) := by
    intro W hW
    have e0 := (hW.block w.heap.size (by omega)).trans hA
    exact ⟨by rw [Lib.cell_of_heap e0]; rfl, by rw [Lib.cell_of_heap e0]; rfl, hbA.trans (hW.mono (by omega))⟩
  have HED := hide (LEdges_any p _ wA (HPR.out.below hbA) HCK.out)
  rw [hwA] at HED
  have HWA := hide hwA
  have HSA := hide hsA
  clear hwA hbA hA hsA
  go_enter Tryz.func75, Tryz.ntmps75
  go_wp2_with fail
  refine HED.out.mono ?_
  rintro e w1 ⟨ev, rfl, hown, hb1⟩
  rw [← HWA.out] at hown hb1
  have HO := hide hown
  obtain ⟨ea, ec, rfl⟩ := own_slice hown
  have HB1 := hide hb1
  obtain ⟨c0, c1, hw1⟩ := HBX.out w1 hb1
  have hlt1 : w.heap.size < w1.heap.size := World.block_lt_of_cell? _ _ c0
  have HW1 := hide hw1
  clear hown hb1 HED hw1
  obtain ⟨ps, hps⟩ : ∃ ps, ps = partRow p 0 := ⟨_, rfl⟩
  rw [← hps] at mk
  obtain ⟨w2, hw2⟩ : ∃ w2, w2 = w1.alloc (.cells ⟨ps⟩ 234) := ⟨_, rfl⟩
  have HR2 : Hid (RowIs w2 w1.heap.size 234 (partRow p 0)) := by rw [hw2, ← hps]; exact RowIs.new _ _ _
  have HB2 : Hid (Below w1.heap.size w1 w2) := by rw [hw2]; exact (Below.refl _ _).alloc (Nat.le_refl _) _
  have hs2 : w2.heap.size = w1.heap.size + 1 := by rw [hw2]; simp
  clear hps
  go_wp2_with fail
  rw [← hw2]
  clear hw2 mk
  go_loopw [16] (fun i wr => ∃ k : Nat, k ≤ n ∧ i = .int .i64 (k : Int) ∧ Hid (RowIs wr w1.heap.size 234 (partRow p k)) ∧ Hid (Below w1.heap.size w1 wr) ∧ w1.heap.size < wr.heap.size) (fun i _ => n - (intOf i).toNat)
  case atStart => exact ⟨0, Nat.zero_le _, rfl, HR2.out, HB2.out, by omega⟩
  case round =>
    obtain ⟨k, hk, rfl, HR, HBR, hzr⟩ := hrel
    have hbr' : Below wA.heap.size wA wr := HB1.out.trans (HBR.out.mono HB1.out.size)
    obtain ⟨d0, d1, hbw⟩ := HBX.out wr hbr'
    have HBW := hide hbw
    clear hbw hbr' c0 c1
    by_cases hlt : k < n
    · have hkl : k < p.names.length := by rw [← HN.out]; exact hlt
      obtain ⟨gn, hna, hcn, y1, y2, y3, y4, y5, y6⟩ : ∃ g, na = some ⟨g, 0, none⟩ ∧ n ≤ nc ∧ NameAt wr g k p.names[k] := by
        rcases HNA.out.below HBW.out with ⟨h0, _⟩ | ⟨g, cap, h1, h2, h3, h4⟩
        · rw [h0] at hkl; simp at hkl
        · simp only [Value.slice.injEq] at h1
          exact ⟨g, h1.1, by rw [h1.2.2, h1.2.1]; exact h2, h4 k _ (List.getElem?_eq_getElem hkl)⟩
      subst hna
      have hgn : gn < wr.heap.size := World.block_lt_of_cell? _ _ y1
      obtain ⟨m1, m2, m3, m4⟩ := Sc.may p HCK.out k hkl
      have hpt : Mc.part p k = if p.names[k].kind = 3 ∨ p.names[k].kind = 4 then (p.names[k].count.toNat + 1, true) else if p.names[k].kind = 2 then (2, false) else if (Ld.edges p).contains k then (2, false) else (1, false) := by
        unfold Mc.part; rw [List.getElem?_eq_getElem hkl]
      generalize p.names[k] = y at *
      obtain ⟨ynm, yk, yc⟩ := y
      simp only at y1 y2 y3 y4 y5 y6 m1 m2 m3 m4 hpt
      obtain ⟨E1, E2, E3, r0, r1⟩ := partRow_edit p k hkl HR.out
      have f0 := HR.out.frozen (k * 2)
      have f1 := HR.out.frozen (k * 2 + 1)
      have HE1 := hide E1
      have HE2 := hide E2
      have HE3 := hide E3
      have HFB : Hid (∀ (W : World) (o : Obj), Below w1.heap.size w1 W → wr.heap.size ≤ W.heap.size → Below w1.heap.size w1 (W.alloc o) ∧ w1.heap.size < (W.alloc o).heap.size) := fun W o hW hs => ⟨hW.alloc (by omega) o, by simp; omega⟩
      have HFS : Hid (∀ (W : World) (j : Nat) (v : Value), Below w1.heap.size w1 W → Below w1.heap.size w1 (W.setCell ⟨w1.heap.size, j, none⟩ v)) := fun W j v hW => hW.setCell (p := ⟨w1.heap.size, j, none⟩) (Nat.le_refl _) v
      clear E1 E2 E3
      rcases (show yk = 1 ∨ yk = 2 ∨ yk = 3 ∨ yk = 4 by omega) with rfl | rfl | rfl | rfl
      · obtain rfl : yc = 0 := m4 (by decide)
        have hle : (Ld.edges p).length ≤ 12 := Nat.le_trans (Ld.placesTo_le _ _ _) (by rw [← HN.out]; exact h12)
        have HCT := hide (contains_int_any _ _ (Ld.edges p) k ((wr.setCell ⟨w1.heap.size, k * 2, none⟩ (.int .i64 1)).alloc (.cells #[.string ⟨ynm.toArray⟩, .int .i64 1, .int .i64 0] 201)) (own_below HO.out (HFB.out _ _ (HFS.out _ _ _ HBR.out) (by simp [World.setCell])).1) (by omega))
        have HP2 : Hid ((Ld.edges p).contains k = true → Mc.part p k = (2, false)) := fun h => by rw [hpt, if_neg (by decide), if_neg (by decide), if_pos h]
        have HP1 : Hid ((Ld.edges p).contains k = false → Mc.part p k = (1, false)) := fun h => by rw [hpt, if_neg (by decide), if_neg (by decide), h]; rfl
        clear hpt
        go_wp2_with fail
        refine HCT.out.mono ?_
        rintro e w3 ⟨rfl, rfl⟩
        clear HCT
        cases hct : (Ld.edges p).contains k with
        | true =>
          go_wp2_with fail
          go_roundw
          case rel => exact ⟨k + 1, by omega, by go_num, (HE3.out 2 1 (HP2.out hct)).alloc _, (HFB.out _ _ (HFS.out _ _ _ (HFS.out _ _ _ HBR.out)) (by simp [World.setCell])).1, (HFB.out _ _ (HFS.out _ _ _ (HFS.out _ _ _ HBR.out)) (by simp [World.setCell])).2⟩
          case measure => simp [intOf]; omega
        | false =>
          go_wp2_with fail
          go_roundw
          case rel => exact ⟨k + 1, by omega, by go_num, (HE1.out 1 (HP1.out hct)).alloc _, (HFB.out _ _ (HFS.out _ _ _ HBR.out) (by simp [World.setCell])).1, (HFB.out _ _ (HFS.out _ _ _ HBR.out) (by simp [World.setCell])).2⟩
          case measure => simp [intOf]; omega
      · have HPT : Hid (Mc.part p k = (2, false)) := hpt
        clear hpt
        go_wp2_with fail
        go_roundw
        case rel => exact ⟨k + 1, by omega, by go_num, (HE1.out 2 HPT.out).alloc _, (HFB.out _ _ (HFS.out _ _ _ HBR.out) (by simp [World.setCell])).1, (HFB.out _ _ (HFS.out _ _ _ HBR.out) (by simp [World.setCell])).2⟩
        case measure => simp [intOf]; omega
      · have m5 := m3 (by omega)
        obtain ⟨c, hc⟩ : ∃ c : Nat, yc = (c : Int) := ⟨yc.toNat, by omega⟩
        subst hc
        have HPT : Hid (Mc.part p k = (c + 1, true)) := by
          show _ = _
          rw [hpt, if_pos (by decide)]
          simp
        clear hpt
        go_wp2_with fail
        go_roundw
        case rel =>
          refine ⟨k + 1, by omega, by go_num, ?_, (HFB.out _ _ (HFS.out _ _ _ (HFS.out _ _ _ HBR.out)) (by simp [World.setCell])).1, (HFB.out _ _ (HFS.out _ _ _ (HFS.out _ _ _ HBR.out)) (by simp [World.setCell])).2⟩
          have h1 := HE2.out (c + 1) HPT.out
          rw [Int.natCast_add] at h1
          exact h1.alloc _
        case measure => simp [intOf]; omega
      · have m5 := m3 (by omega)
        obtain ⟨c, hc⟩ : ∃ c : Nat, yc = (c : Int) := ⟨yc.toNat, by omega⟩
        subst hc
        have HPT : Hid (Mc.part p k = (c + 1, true)) := by
          show _ = _
          rw [hpt, if_pos (by decide)]
          simp
        clear hpt
        go_wp2_with fail
        go_roundw
        case rel =>
          refine ⟨k + 1, by omega, by go_num, ?_, (HFB.out _ _ (HFS.out _ _ _ (HFS.out _ _ _ HBR.out)) (by simp [World.setCell])).1, (HFB.out _ _ (HFS.out _ _ _ (HFS.out _ _ _ HBR.out)) (by simp [World.setCell])).2⟩
          have h1 := HE2.out (c + 1) HPT.out
          rw [Int.natCast_add] at h1
          exact h1.alloc _
        case measure => simp [intOf]; omega
    · have hkn : k = n := by omega
      have HRA : Hid (RowIs wr w1.heap.size 234 ((Mc.parts p).flatMap ptCells)) := by
        have h1 := HR.out
        rw [hkn, HN.out, partRow_all] at h1
        exact h1
      subst hkn
      go_wp2_with fail
      go_ret
      exact ⟨w1.heap.size, by rw [← HN.out]; rfl, HRA.out, by omega, HBW.out⟩
end
end Go.Proofs.YtgldbliohpfljaaGreatDoor
