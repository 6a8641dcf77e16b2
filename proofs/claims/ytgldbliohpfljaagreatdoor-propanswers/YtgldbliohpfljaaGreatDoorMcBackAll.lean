/-
  The walk of package ladder's Edges: the names whose edges some rung asks for. The walks of package machine's partsOf and states. The walks of package machine's states and state. The law for 'for .. := range f' once more: the iterator may lean on what the body's own invariant says of the memory ('Kf'); and what is handed on may be laid into new blocks ('lay') ahead of the body. A region that draws its order inside a round of 'for .. := range f': what holds of it outside of every round holds there. slices.Backward over parts, as an iterator.
-/
import Derived.Test.YtgldbliohpfljaaGreatDoorNaEdgesAll
import Derived.Test.YtgldbliohpfljaaGreatDoorRlStayAll
import Derived.Test.YtgldbliohpfljaaGreatDoorLdKindAll
import Derived.Test.YtgldbliohpfljaaGreatDoorRtParseAll
import Derived.Test.YtgldbliohpfljaaGreatDoorLdCheckAll
import Derived.Test.YtgldbliohpfljaaGreatDoorRdListAll
import Derived.Test.YtgldbliohpfljaaGreatDoorLdWordsAll
import Derived.Test.YtgldbliohpfljaaGreatDoorShelf2
import Derived.Laws.OwnMore
import Derived.Lib.AppendZeros
import Derived.Deep.RegionLaw
import Derived.Maps.AppendAt
import Derived.Deep.DeepCutAuto
import Derived.OrdersHeld
import Derived.OrdersIn
namespace Go.Proofs.YtgldbliohpfljaaGreatDoor
section
open Go.RowKit
theorem Tryz.infoStrL : (Tryz.prog.info? 9).map (fun i => (i.zero, i.size, i.bytes)) = some (some (.string ⟨#[]⟩), 1, 16) := by kernel_rfl
/-- strings are appended to an own row -/
theorem append_strs {W : World} (base : Nat) (ty : TypeId) (v sv : Value) (xs ss : List ByteArray) (hown : W.ownsRow base 9 1 v xs.length (xs.map .string)) (hs : Strs W sv ss) (hb : base ≤ W.heap.size) (hx : xs.length ≤ 100000000) :
    ∃ v' W', (Builtin.append_ #[65, 65] ty #[v, sv]).run Tryz.prog W = .ok v' W' ∧ W'.ownsRow base 9 1 v' (xs ++ ss).length ((xs ++ ss).map .string) ∧ W.grownBy W' v.ownBlock := by
  obtain ⟨i0, hi0, hz0, hz1, hz2⟩ := info_parts Tryz.infoStrL
  rcases hs with ⟨rfl, a, c, rfl⟩ | ⟨g, o, cap, rfl, hcap, hl, hcell⟩
  · exact ⟨v, W, append_zero base _ ty _ i0 1 Tryz.underlying65 hi0 v _ _ hown a c, by simpa using hown, ⟨rfl, rfl, rfl, Nat.le_refl _, fun _ _ _ => rfl⟩⟩
  · obtain ⟨v', W', h1, h2, h3, _⟩ := run_append_own_at (P := Tryz.prog) W base 65 ty 9 i0 _ 1 16 Tryz.underlying65 hi0 hz0 hz1 hz2 rfl (by decide) v xs.length (xs.map .string) hown ⟨g, o, none⟩ ss.length cap (ss.map .string) (by simp) (fun j u hu => by
        rw [List.getElem?_map] at hu
        cases hj : ss[j]? with
        | none => rw [hj] at hu; cases hu
        | some b =>
          rw [hj] at hu
          cases hu
          have := hcell j b hj
          cases j <;> simpa [Addr.add] using this) (fun u hu => by
        obtain ⟨b, _, rfl⟩ := List.mem_map.1 hu
        rfl) (by unfold maxLen; omega) (by omega) hb
    exact ⟨v', W', h1, by rw [List.length_append, List.map_append]; exact h2, h3⟩
namespace Ld
/-- the names whose edges the first k rungs ask for, rung by rung in order -/
def askedTo (p : Prg) (k : Nat) : List ByteArray := ((p.rungs.take k).map fun r => (ordered (asksR r)).map toBA).flatten
theorem askedTo_succ (p : Prg) (k : Nat) (hk : k < p.rungs.length) : askedTo p (k + 1) = askedTo p k ++ (ordered (asksR p.rungs[k])).map toBA := by
  unfold askedTo
  rw [List.take_succ_eq_append_getElem hk, List.map_append, List.flatten_append]
  simp
theorem mem_askedTo (p : Prg) (s : List UInt8) : toBA s ∈ askedTo p p.rungs.length ↔ s ∈ asked p := by
  unfold askedTo asked
  rw [List.take_length]
  constructor
  · intro h
    obtain ⟨l, hl, hs⟩ := List.mem_flatten.1 h
    obtain ⟨r, hr, rfl⟩ := List.mem_map.1 hl
    obtain ⟨t, ht, e⟩ := List.mem_map.1 hs
    have e2 : t = s := by
      have := congrArg (fun b : ByteArray => b.data.toList) e
      simpa [toBA] using this
    subst e2
    exact List.mem_flatten.2 ⟨_, List.mem_map.2 ⟨r, hr, rfl⟩, (mem_ordered _ _).1 ht⟩
  · intro h
    obtain ⟨l, hl, hs⟩ := List.mem_flatten.1 h
    obtain ⟨r, hr, rfl⟩ := List.mem_map.1 hl
    exact List.mem_flatten.2 ⟨_, List.mem_map.2 ⟨r, hr, rfl⟩, List.mem_map.2 ⟨s, (mem_ordered _ _).2 hs, rfl⟩⟩
end Ld
namespace Ld
theorem askedTo_len (p : Prg) (B : Nat) (h : ∀ r, r ∈ p.rungs → (asksR r).length ≤ B) : ∀ k, k ≤ p.rungs.length → (askedTo p k).length ≤ k * B
  | 0, _ => by simp [askedTo]
  | k + 1, hk => by
    have ih := askedTo_len p B h k (by omega)
    have h1 := h p.rungs[k] (List.getElem_mem _)
    have h2 := ordered_le (asksR p.rungs[k])
    rw [askedTo_succ p k (by omega), List.length_append, List.length_map, Nat.add_mul, Nat.one_mul]
    omega
theorem asks_len {w : World} {sv : Value} {p : Prg} (hr : RungsAt w sv p.rungs) : ∀ r, r ∈ p.rungs → (asksR r).length ≤ 1000000 := by
  intro r hm
  rcases hr with ⟨h0, _⟩ | ⟨g, cap, _, _, _, h9⟩
  · rw [h0] at hm; simp at hm
  · obtain ⟨i, hi⟩ := List.getElem?_of_mem hm
    obtain ⟨u, _, _, _, _, _, hcd⟩ := h9 i r hi
    unfold asksR
    cases hc : r.cond with
    | none => simp
    | some x =>
      rw [hc] at hcd
      exact Nat.le_trans (Ex.named_le false x) hcd.2.1
end Ld
theorem contains_any (q : Nat) (sv : Value) (ss : List ByteArray) (x : ByteArray) (w : World) (h : w.ownsRow q 9 1 sv ss.length (ss.map .string)) (hl : ss.length ≤ 100000000) :
    Calls Tryz.prog 162 #[sv, .string x] w fun e w' => e = .returned (.bool (Lib.containsS ss x)) ∧ w' = w := by
  rcases h.2 with ⟨rfl, h0⟩ | ⟨g, cap, cur, rfl, _, hcur, _, _, _, htk⟩
  · refine (Tryz.slices_Contains_string_empty none 0 x w).mono ?_
    rintro e w' ⟨rfl, rfl⟩
    rw [List.length_eq_zero_iff.1 h0]
    exact ⟨rfl, rfl⟩
  · refine (Tryz.slices_Contains_string g 0 ss.length cap ss x w (Nat.le_refl _) (by omega) (fun j hj => ?_)).mono ?_
    · rw [Nat.zero_add]
      exact row_cell hcur htk (by rw [List.getElem?_map, List.getElem?_eq_getElem hj]; simp [hj])
    · rintro e w' ⟨rfl, rfl⟩
      rw [List.take_length]
      exact ⟨rfl, rfl⟩
set_option maxHeartbeats 2000000 in
theorem edges1_ask (q b : Nat) (ss : List ByteArray) (n : Ld.Nme) (w : World) (sv : Value) (hc : w.cell? ⟨b, 0, none⟩ = some sv) (h : w.ownsRow q 9 1 sv ss.length (ss.map .string)) (hl : ss.length ≤ 100000000) :
    Calls Tryz.prog 161 #[.agg #[.string ⟨n.name.toArray⟩, .int .i64 n.kind, .int .i64 n.count], .pointer (some ⟨b, 0, none⟩)] w fun e w' => e = .returned (.bool (Lib.containsS ss (toBA n.name))) ∧ Below w.heap.size w w' := by
  obtain ⟨nm, k, c⟩ := n
  have hlt : b < w.heap.size := World.block_lt_of_cell? _ _ hc
  have HC := hide (contains_any q sv ss (toBA nm) _ (h.alloc (.cells #[.string ⟨nm.toArray⟩, .int .i64 k, .int .i64 c] 201)) hl)
  obtain ⟨sa, sc, rfl⟩ := own_slice h
  clear h
  go_enter Tryz.func161, Tryz.ntmps161
  go_wp2_with fail
  refine HC.out.mono ?_
  rintro e w' ⟨rfl, rfl⟩
  go_wp2_with fail
  go_ret
  exact ⟨rfl, (Below.refl _ _).alloc (Nat.le_refl _) _⟩
set_option maxHeartbeats 8000000 in
set_option maxRecDepth 100000 in
theorem LEdges_any (p : Ld.Prg) (v : Value) (w : World) (h : IsPrg w p v) (hck : Ld.check p = none) :
    Calls Tryz.prog 122 #[v] w fun e w' => ∃ u, e = .returned u ∧ w'.ownsRow w.heap.size 3 1 u (Ld.edges p).length ((Ld.edges p).map intV) ∧ Below w.heap.size w w' := by
  have hmf : ∀ (fn : Fn) (first cap : Array Value) (w : World), (Instr.makeFunc fn first cap).run Tryz.prog w = .ok (.func fn first cap) w := fun _ _ _ _ => rfl
  have HPR := hide h
  have HCK := hide hck
  obtain ⟨nv, rv, rfl, hn, hr⟩ := h
  have HNA := hide hn
  have HRA := hide hr
  obtain ⟨na, nc, rfl, _⟩ := hn.slice
  obtain ⟨ra, rc, rfl, _⟩ := hr.slice
  have h40 := (Ld.check_names p hck).2.1
  have HLEN : Hid (∀ k, k ≤ p.rungs.length → (Ld.askedTo p k).length ≤ 100000000) := fun k hk => by have := Ld.askedTo_len p 1000000 (Ld.asks_len hr) k hk; omega
  obtain ⟨n, hnn⟩ : ∃ n, n = p.names.length := ⟨_, rfl⟩
  obtain ⟨m, hmm⟩ : ∃ m, m = p.rungs.length := ⟨_, rfl⟩
  have HN := hide hnn
  have HM := hide hmm
  rw [← hnn] at HPR HNA ⊢
  rw [← hmm] at HPR HRA h40 HLEN ⊢
  clear hn hr hnn hmm hck
  obtain ⟨wA, hwA⟩ : ∃ wA, wA = w.alloc (.cells #[.slice na n nc, .slice ra m rc] 83) := ⟨_, rfl⟩
  have hbA : Below w.heap.size w wA := by rw [hwA]; exact (Below.refl _ _).alloc (Nat.le_refl _) _
  have hsA : wA.heap.size = w.heap.size + 1 := by rw [hwA]; simp
  have hA : wA.heap[w.heap.size]? = some (.cells #[.slice na n nc, .slice ra m rc] 83 (0, 0)) := by rw [hwA]; exact heap_alloc_new _ _
  have HBX : Hid (∀ (W : World), Below wA.heap.size wA W → W.cell? ⟨w.heap.size, 0, none⟩ = some (.slice na n nc) ∧ W.cell? ⟨w.heap.size, 1, none⟩ = some (.slice ra m rc) ∧ Below w.heap.size w W) := by
    intro W hW
    have e0 := (hW.block w.heap.size (by omega)).trans hA
    exact ⟨by rw [Lib.cell_of_heap e0]; rfl, by rw [Lib.cell_of_heap e0]; rfl, hbA.trans (hW.mono (by omega))⟩
  have HKC := hide (Check_any p _ wA (HPR.out.below hbA))
  rw [HCK.out, hwA] at HKC
  have HWA := hide hwA
  have HSA := hide hsA
  clear hwA hbA hA hsA
  go_enter Tryz.func122, Tryz.ntmps122
  go_wp2_with fail
  refine HKC.out.mono ?_
  rintro e w1 ⟨er, rfl, her, hb1⟩
  obtain rfl : er = .nilIface := her
  rw [← HWA.out] at hb1
  have HB1 := hide hb1
  obtain ⟨c0, c1, hw1⟩ := HBX.out w1 hb1
  have hw1l : w.heap.size < w1.heap.size := World.block_lt_of_cell? _ _ c0
  clear hb1 HKC hw1
  obtain ⟨w2, hw2⟩ : ∃ w2, w2 = w1.alloc (.cells #[.slice none 0 0] 65) := ⟨_, rfl⟩
  have hb2 : Below w1.heap.size w1 w2 := by rw [hw2]; exact (Below.refl _ _).alloc (Nat.le_refl _) _
  have hv2 : w2.heap[w1.heap.size]? = some (.cells #[.slice none 0 0] 65 (0, 0)) := by rw [hw2]; exact heap_alloc_new _ _
  have hs2 : w2.heap.size = w1.heap.size + 1 := by rw [hw2]; simp
  have HV2 := hide hv2
  have HB2 := hide hb2
  clear hv2 hb2
  go_wp2_with fail
  rw [← hw2]
  clear hw2
  go_loopw [12] (fun i wr => ∃ k : Nat, k ≤ m ∧ i = .int .i64 (k : Int) ∧ Hid (∃ sv, wr.heap[w1.heap.size]? = some (.cells #[sv] 65 (0, 0)) ∧ wr.ownsRow (w1.heap.size + 1) 9 1 sv (Ld.askedTo p k).length ((Ld.askedTo p k).map .string)) ∧ Hid (Below w1.heap.size w1 wr) ∧ w1.heap.size < wr.heap.size) (fun i _ => m - (intOf i).toNat)
  case atStart => exact ⟨0, Nat.zero_le _, rfl, ⟨_, HV2.out, World.ownsRow_nil _ _ _ _⟩, HB2.out, by omega⟩
  case round =>
    obtain ⟨k, hk, rfl, HI, HBR, hzr⟩ := hrel
    obtain ⟨sv, hvr, hown⟩ := HI.out
    obtain ⟨sva, svc, rfl⟩ := own_slice hown
    have hbr' : Below wA.heap.size wA wr := HB1.out.trans (HBR.out.mono HB1.out.size)
    obtain ⟨d0, d1, hbw⟩ := HBX.out wr hbr'
    have HBW := hide hbw
    have HBA := hide hbr'
    clear HI hbw hbr' c0 c1
    by_cases hlt : k < m
    · have hkl : k < p.rungs.length := by rw [← HM.out]; exact hlt
      obtain ⟨g, hra, hca, u, e1, e2, e3, _, _, e6⟩ : ∃ g, ra = some ⟨g, 0, none⟩ ∧ m ≤ rc ∧ RungAt wr g k p.rungs[k] := by
        rcases HRA.out.below HBW.out with ⟨h0, _⟩ | ⟨g, cap, h1, h2, h3, h4⟩
        · rw [h0] at hkl; simp at hkl
        · simp only [Value.slice.injEq] at h1
          exact ⟨g, h1.1, by rw [h1.2.2, h1.2.1]; exact h2, h4 k _ (List.getElem?_eq_getElem hkl)⟩
      subst hra
      obtain ⟨_, _, _, x, q4, _⟩ := (Ld.check_names p HCK.out).2.2.2 _ (List.getElem_mem hkl)
      have HSU0 := hide (Ld.askedTo_succ p k hkl)
      have hak := HLEN.out k hk
      generalize p.rungs[k] = y at *
      obtain ⟨yk, ynm, yc⟩ := y
      simp only at e1 e2 e3 q4 e6
      subst q4
      have HSU : Hid (Ld.askedTo p (k + 1) = Ld.askedTo p k ++ (ordered (x.named false)).map toBA) := HSU0.out
      clear HSU0
      obtain ⟨hx, hxs, hxt⟩ := e6
      obtain ⟨tu, yu, hiu⟩ := IsEx.iface x u hx
      subst hiu
      have hgl : g < wr.heap.size := World.block_lt_of_cell? _ _ e1
      obtain ⟨wR, hwR⟩ : ∃ wR, wR = wr.alloc (.cells #[.int .i64 yk, .string ⟨ynm.toArray⟩, .iface tu yu] 230) := ⟨_, rfl⟩
      have hbR : Below wr.heap.size wr wR := by rw [hwR]; exact (Below.refl _ _).alloc (Nat.le_refl _) _
      have hR : wR.heap[wr.heap.size]? = some (.cells #[.int .i64 yk, .string ⟨ynm.toArray⟩, .iface tu yu] 230 (0, 0)) := by rw [hwR]; exact heap_alloc_new _ _
      have x0 : wR.cell? ⟨w1.heap.size, 0, none⟩ = some (.slice sva (Ld.askedTo p k).length svc) := by rw [hbR.cell (p := ⟨w1.heap.size, 0, none⟩) hzr, Lib.cell_of_heap hvr]; rfl
      have x1 : wR.cell? ⟨wr.heap.size, 2, none⟩ = some (.iface tu yu) := by rw [Lib.cell_of_heap hR]; rfl
      have hbRd : Below wr.heap.size wr wR.drew := ⟨hbR.os, hbR.tape, hbR.output, hbR.size, hbR.block⟩
      have HED := hide (Edges_any _ x _ wR.drew (hx.aft hbRd) hxs)
      have HBR2 := hide hbRd
      have HCALL : Hid (∀ (w3 : World) (sv2 : Value), Strs w3 sv2 ((ordered (x.named false)).map toBA) → Below wR.drew.heap.size wR.drew w3 → ∃ va vc w4, (Builtin.append_ #[65, 65] 65 #[.slice sva (Ld.askedTo p k).length svc, sv2]).run Tryz.prog w3 = .ok (.slice va (Ld.askedTo p (k + 1)).length vc) w4 ∧
          (w3.cell? ⟨w1.heap.size, 0, none⟩ = some (.slice sva (Ld.askedTo p k).length svc) ∧ w3.frozen? ⟨w1.heap.size, 0, none⟩ = false) ∧ (w4.cell? ⟨w1.heap.size, 0, none⟩ = some (.slice sva (Ld.askedTo p k).length svc) ∧ w4.frozen? ⟨w1.heap.size, 0, none⟩ = false) ∧
          ((w4.setCell ⟨w1.heap.size, 0, none⟩ (.slice va (Ld.askedTo p (k + 1)).length vc)).heap[w1.heap.size]? = some (.cells #[(.slice va (Ld.askedTo p (k + 1)).length vc)] 65 (0, 0)) ∧ (w4.setCell ⟨w1.heap.size, 0, none⟩ (.slice va (Ld.askedTo p (k + 1)).length vc)).ownsRow (w1.heap.size + 1) 9 1 (.slice va (Ld.askedTo p (k + 1)).length vc) (Ld.askedTo p (k + 1)).length ((Ld.askedTo p (k + 1)).map .string) ∧ Below w1.heap.size w1 (w4.setCell ⟨w1.heap.size, 0, none⟩ (.slice va (Ld.askedTo p (k + 1)).length vc)) ∧ w1.heap.size < (w4.setCell ⟨w1.heap.size, 0, none⟩ (.slice va (Ld.askedTo p (k + 1)).length vc)).heap.size)) := by
        intro w3 sv2 hss hb3
        have hb03 : Below wr.heap.size wr w3 := hbRd.trans (hb3.mono hbRd.size)
        have hz3 := hb03.size
        obtain ⟨v', w4, h1, h2, h3⟩ := append_strs (w1.heap.size + 1) 65 _ sv2 _ _ (own_below hown hb03) hss (by omega) hak
        have hv3 : w3.heap[w1.heap.size]? = some (.cells #[.slice sva (Ld.askedTo p k).length svc] 65 (0, 0)) := (hb03.block _ hzr).trans hvr
        have hlb : ∀ j, (Value.slice sva (Ld.askedTo p k).length svc).ownBlock = some j → w1.heap.size + 1 ≤ j := fun j e => (hown.lt j e).1
        have hv4 : w4.heap[w1.heap.size]? = some (.cells #[.slice sva (Ld.askedTo p k).length svc] 65 (0, 0)) := (h3.block _ (by omega) (fun e => by have := hlb _ e.symm; omega)).trans hv3
        have hz4 := h3.size
        rw [← HSU.out] at h2
        obtain ⟨va, vc, rfl⟩ := own_slice h2
        refine ⟨va, vc, w4, h1, ⟨by rw [Lib.cell_of_heap hv3]; rfl, Lib.frozen_of_heap hv3 0⟩, ⟨by rw [Lib.cell_of_heap hv4]; rfl, Lib.frozen_of_heap hv4 0⟩, ?_, ?_, ?_, ?_⟩
        · simp [World.setCell, Array.getElem?_modify, hv4]
        · exact own_moved h2 (fun j hj _ => Below.heap_setCell _ _ _ _ (fun e => by simp at e; omega))
        · have hb04 : Below w1.heap.size w1 w4 := (HBR.out.trans (hb03.mono HBR.out.size)).grown h3 (by omega) (fun j e => by have := hlb j e; omega)
          exact hb04.setCell (p := ⟨w1.heap.size, 0, none⟩) (Nat.le_refl _) _
        · simp [World.setCell]; omega
      clear hbR hbRd hR hx hown
      go_wp2_with fail
      rw [← hwR]
      clear hwR
      go_region_law (first | (refine step_append_run w3 rfl (.tmp 16) (.tmp 19) 65 65 rfl (.slice sva (Ld.askedTo p k).length svc) sv2 rfl rfl (.slice va (Ld.askedTo p (k + 1)).length vc) w4 HAPP.out ?_) | (go_simp; go_at_call 160; refine HED.out.mono ?_; rintro e w3 ⟨sv2, rfl, hss, hb3⟩; obtain ⟨va, vc, w4, happ, ⟨y0, y1⟩, ⟨y2, y3⟩, hfin⟩ := HCALL.out w3 sv2 hss hb3; have HAPP := hide happ; have HFIN := hide hfin; clear hss hb3 hfin happ))
      all_goals go_wp2_with fail
      all_goals
        obtain ⟨r1, r2, r3, r4⟩ := HFIN.out
        exact ⟨⟨k + 1, by omega, by go_num, ⟨_, r1, r2⟩, r3, r4⟩, by simp [intOf]; omega⟩
    · have hkm : k = m := by omega
      have hak := HLEN.out k hk
      have HED : Hid (∀ y : Ld.Nme, Lib.containsS (Ld.askedTo p k) (toBA y.name) = (Ld.asked p).contains y.name) := by
        intro y
        rw [Bool.eq_iff_iff, Lib.containsS_iff, List.contains_iff_mem, hkm, HM.out]
        exact Ld.mem_askedTo p y.name
      have HNU := hide (numbers_any p.names (.slice na n nc) (.slice ra m rc) (.func (.func 161) #[] #[.pointer (some ⟨w1.heap.size, 0, none⟩)]) (fun y => (Ld.asked p).contains y.name) wr (HNA.out.below HBW.out) ⟨_, _, _, rfl⟩
        ⟨161, _, rfl, fun _ _ => by kernel_rfl, fun y W hW hy => by
          have h1 := edges1_ask (w1.heap.size + 1) w1.heap.size (Ld.askedTo p k) y W _ ((hW.cell (p := ⟨w1.heap.size, 0, none⟩) hzr).trans (by rw [Lib.cell_of_heap hvr]; rfl)) (own_below hown hW) hak
          rw [HED.out y] at h1
          exact h1⟩)
      clear hown hvr
      subst hkm
      go_wp2_with fail
      refine HNU.out.mono ?_
      rintro e w3 ⟨u, rfl, hown, hb3⟩
      have hown' : w3.ownsRow w.heap.size 3 1 u (Ld.edges p).length ((Ld.edges p).map intV) := own_mono hown HBW.out.size
      have HO := hide hown'
      have HB3 := hide (HBW.out.trans (hb3.mono HBW.out.size))
      obtain ⟨ua, uc, rfl⟩ := own_slice hown'
      clear hown hown' hb3 HNU
      go_wp2_with fail
      go_ret
      exact ⟨_, rfl, HO.out, HB3.out⟩
end
section
open Go.RowKit
def ptCells (x : Nat × Bool) : List Value := [.int .i64 (x.1 : Int), .bool x.2]
theorem makeP (w : World) : ∀ n : Nat, n ≤ 12 → (Instr.makeSlice 100 (.int .i64 (n : Int)) (.int .i64 (n : Int))).run Tryz.prog w = .ok (.slice (some ⟨w.heap.size, 0, none⟩) n n) (w.alloc (.cells ⟨(List.replicate n [Value.int .i64 0, .bool false]).flatten⟩ 234)) := by
  apply upto12 <;> kernel_rfl
/-- a row of pairs that is filled from the head: the next pair's first, its second, its first again -/
theorem fill_fst (A : List Value) (z0 z1 u : Value) (d : Nat) : (A ++ (List.replicate (d + 1) [z0, z1]).flatten).set A.length u = A ++ [u, z1] ++ (List.replicate d [z0, z1]).flatten := by
  rw [List.replicate_succ, List.flatten_cons, List.set_append_right _ _ (Nat.le_refl _), Nat.sub_self]
  simp
theorem fill_fst' (A R : List Value) (u v u' : Value) : (A ++ [u, v] ++ R).set A.length u' = A ++ [u', v] ++ R := by
  rw [List.append_assoc, List.set_append_right _ _ (Nat.le_refl _), Nat.sub_self]
  simp
theorem fill_snd (A R : List Value) (u v v' : Value) : (A ++ [u, v] ++ R).set (A.length + 1) v' = A ++ [u, v'] ++ R := by
  rw [List.append_assoc, List.set_append_right _ _ (by omega), show A.length + 1 - A.length = 1 by omega]
  simp
theorem pt_len (l : List (Nat × Bool)) : (l.flatMap ptCells).length = l.length * 2 := by
  induction l with
  | nil => rfl
  | cons a r ih => rw [List.flatMap_cons, List.length_append, ih, List.length_cons]; simp [ptCells]; omega
/-- the row of parts, the first k of them laid -/
def partRow (p : Ld.Prg) (k : Nat) : List Value := ((Mc.parts p).take k).flatMap ptCells ++ (List.replicate (p.names.length - k) [Value.int .i64 0, .bool false]).flatten
theorem partRow_zero (p : Ld.Prg) : partRow p 0 = (List.replicate p.names.length [Value.int .i64 0, .bool false]).flatten := by simp [partRow]
theorem partRow_all (p : Ld.Prg) : partRow p p.names.length = (Mc.parts p).flatMap ptCells := by
  unfold partRow
  rw [Nat.sub_self, List.take_of_length_le (by rw [Mc.parts_len]; exact Nat.le_refl _)]
  simp
theorem partRow_set (p : Ld.Prg) (k : Nat) (hk : k < p.names.length) (u : Value) :
    ∃ R, (partRow p k).set (k * 2) u = ((Mc.parts p).take k).flatMap ptCells ++ [u, .bool false] ++ R ∧ partRow p (k + 1) = ((Mc.parts p).take k).flatMap ptCells ++ ptCells (Mc.part p k) ++ R ∧ (((Mc.parts p).take k).flatMap ptCells).length = k * 2 ∧ (partRow p k)[k * 2]? = some (.int .i64 0) ∧ (partRow p k)[k * 2 + 1]? = some (.bool false) := by
  have hl : (((Mc.parts p).take k).flatMap ptCells).length = k * 2 := by rw [pt_len, List.length_take, Mc.parts_len]; omega
  obtain ⟨d, hd⟩ : ∃ d, p.names.length - k = d + 1 := ⟨p.names.length - k - 1, by omega⟩
  refine ⟨(List.replicate d [Value.int .i64 0, .bool false]).flatten, ?_, ?_, hl, ?_, ?_⟩
  · unfold partRow
    rw [hd, ← hl, fill_fst]
  · unfold partRow
    have hkl : k < (Mc.parts p).length := by rw [Mc.parts_len]; exact hk
    have e : (Mc.parts p)[k] = Mc.part p k := by
      have := Mc.parts_at p k hk
      rw [List.getElem?_eq_getElem hkl] at this
      exact Option.some.inj this
    rw [List.take_succ_eq_append_getElem hkl, List.flatMap_append, e, show p.names.length - (k + 1) = d by omega]
    simp
  · unfold partRow
    rw [hd, List.getElem?_append_right (by omega), hl, Nat.sub_self, List.replicate_succ]
    rfl
  · unfold partRow
    rw [hd, List.getElem?_append_right (by omega), hl, show k * 2 + 1 - k * 2 = 1 by omega, List.replicate_succ]
    rfl
theorem partRow_edit (p : Ld.Prg) (k : Nat) (hk : k < p.names.length) {W : World} {g : Nat} (h : RowIs W g 234 (partRow p k)) :
    (∀ (a : Nat), Mc.part p k = (a, false) → RowIs (W.setCell ⟨g, k * 2, none⟩ (.int .i64 (a : Int))) g 234 (partRow p (k + 1))) ∧
    (∀ (a : Nat), Mc.part p k = (a, true) → RowIs ((W.setCell ⟨g, k * 2, none⟩ (.int .i64 (a : Int))).setCell ⟨g, k * 2 + 1, none⟩ (.bool true)) g 234 (partRow p (k + 1))) ∧
    (∀ (a : Nat) (b : Int), Mc.part p k = (a, false) → RowIs ((W.setCell ⟨g, k * 2, none⟩ (.int .i64 b)).setCell ⟨g, k * 2, none⟩ (.int .i64 (a : Int))) g 234 (partRow p (k + 1))) ∧
    W.cell? ⟨g, k * 2, none⟩ = some (.int .i64 0) ∧ W.cell? ⟨g, k * 2 + 1, none⟩ = some (.bool false) := by
  obtain ⟨R, e1, e2, hl, c0, c1⟩ := partRow_set p k hk (.int .i64 0)
  have key : ∀ u, (partRow p k).set (k * 2) u = ((Mc.parts p).take k).flatMap ptCells ++ [u, .bool false] ++ R := fun u => by
    have h1 : ((partRow p k).set (k * 2) (.int .i64 0)).set (k * 2) u = (partRow p k).set (k * 2) u := List.set_set _
    rw [← h1, e1]
    have h2 := fill_fst' (((Mc.parts p).take k).flatMap ptCells) R (.int .i64 0) (.bool false) u
    rw [hl] at h2
    exact h2
  refine ⟨fun a ha => ?_, fun a ha => ?_, fun a b ha => ?_, h.cell _ _ c0, h.cell _ _ c1⟩
  · have h1 := h.set (k * 2) (.int .i64 (a : Int))
    rw [key] at h1
    rw [e2, ha]
    exact h1
  · have h1 := (h.set (k * 2) (.int .i64 (a : Int))).set (k * 2 + 1) (.bool true)
    have h2 := fill_snd (((Mc.parts p).take k).flatMap ptCells) R (.int .i64 (a : Int)) (.bool false) (.bool true)
    rw [hl] at h2
    rw [key, h2] at h1
    rw [e2, ha]
    exact h1
  · have h1 := (h.set (k * 2) (.int .i64 b)).set (k * 2) (.int .i64 (a : Int))
    rw [List.set_set, key] at h1
    rw [e2, ha]
    exact h1
theorem contains_int_any (q : Nat) (sv : Value) (ns : List Nat) (x : Nat) (w : World) (h : w.ownsRow q 3 1 sv ns.length (ns.map intV)) (hl : ns.length ≤ 100000000) :
    Calls Tryz.prog 59 #[sv, .int .i64 (x : Int)] w fun e w' => e = .returned (.bool (ns.contains x)) ∧ w' = w := by
  rcases h.2 with ⟨rfl, h0⟩ | ⟨g, cap, cur, rfl, _, hcur, _, _, _, htk⟩
  · refine (Tryz.slices_Contains_int_empty none 0 x w).mono ?_
    rintro e w' ⟨rfl, rfl⟩
    rw [List.length_eq_zero_iff.1 h0]
    exact ⟨rfl, rfl⟩
  · refine (Tryz.slices_Contains_int g 0 ns.length cap (ns.map fun (i : Nat) => (i : Int)) x w (by simp) (by omega) (fun j hj => ?_)).mono ?_
    · rw [Nat.zero_add]
      have hj' : j < ns.length := by simpa using hj
      exact row_cell hcur htk (by rw [List.getElem?_map, List.getElem?_eq_getElem hj']; simp [hj', intV])
    · rintro e w' ⟨rfl, rfl⟩
      have e1 : ((ns.map fun (i : Nat) => (i : Int)).take ns.length).contains (x : Int) = ns.contains x := by
        rw [List.take_of_length_le (by simp), Bool.eq_iff_iff, List.contains_iff_mem, List.contains_iff_mem]
        constructor
        · intro h
          obtain ⟨i, hi, e⟩ := List.mem_map.1 h
          have : i = x := by omega
          rw [← this]; exact hi
        · intro h
          exact List.mem_map.2 ⟨x, h, rfl⟩
      rw [e1]
      exact ⟨rfl, rfl⟩
/-- what partsOf comes to in memory -/
def Parted (w : World) (p : Ld.Prg) (e : Ending) (w' : World) : Prop := ∃ g, e = .returned (slV g p.names.length) ∧ RowIs w' g 234 ((Mc.parts p).flatMap ptCells) ∧ w.heap.size ≤ g ∧ Below w.heap.size w w'
set_option maxHeartbeats 8000000 in
set_option maxRecDepth 100000 in
theorem partsOf_any (p : Ld.Prg) (v : Value) (w : World) (h : IsPrg w p v) (hck : Ld.check p = none) :
    Calls Tryz.prog 75 #[v] w (Parted w p) := by
  have HPR := hide h
  have HCK := hide hck
  obtain ⟨nv, rv, rfl, hn, hr⟩ := h
  have HNA := hide hn
  obtain ⟨na, nc, rfl, _⟩ := hn.slice
  obtain ⟨ra, rc, rfl, _⟩ := hr.slice
  have h12 := (Ld.check_names p hck).1
  have mk := fun w => makeP w p.names.length h12
  rw [← partRow_zero] at mk
  obtain ⟨n, hnn⟩ : ∃ n, n = p.names.length := ⟨_, rfl⟩
  obtain ⟨m, hmm⟩ : ∃ m, m = p.rungs.length := ⟨_, rfl⟩
  have HN := hide hnn
  rw [← hnn] at HPR HNA h12 mk ⊢
  rw [← hmm] at HPR ⊢
  clear hn hr hnn hmm hck
  obtain ⟨wA, hwA⟩ : ∃ wA, wA = w.alloc (.cells #[.slice na n nc, .slice ra m rc] 83) := ⟨_, rfl⟩
  have hbA : Below w.heap.size w wA := by rw [hwA]; exact (Below.refl _ _).alloc (Nat.le_refl _) _
  have hsA : wA.heap.size = w.heap.size + 1 := by rw [hwA]; simp
  have hA : wA.heap[w.heap.size]? = some (.cells #[.slice na n nc, .slice ra m rc] 83 (0, 0)) := by rw [hwA]; exact heap_alloc_new _ _
  have HBX : Hid (∀ (W : World), Below wA.heap.size wA W → W.cell? ⟨w.heap.size, 0, none⟩ = some (.slice na n nc) ∧ W.cell? ⟨w.heap.size, 1, none⟩ = some (.slice ra m rc) ∧ Below w.heap.size w W) := by
    intro W hW
    have e0 := (hW.block w.heap.size (by omega)).trans hA
    exact ⟨by rw [Lib.cell_of_heap e0]; rfl, by rw [Lib.cell_of_heap e0]; rfl, hbA.trans (hW.mono (by omega))⟩
  have HED := hide (LEdges_any p _ wA (HPR.out.below hbA) HCK.out)
  rw [hwA] at HED
  have HWA := hide hwA
  have HSA := hide hsA
  clear hwA hbA hA hsA
  go_enter Tryz.func75, Tryz.ntmps75
  go_wp2_with fail
  refine HED.out.mono ?_
  rintro e w1 ⟨ev, rfl, hown, hb1⟩
  rw [← HWA.out] at hown hb1
  have HO := hide hown
  obtain ⟨ea, ec, rfl⟩ := own_slice hown
  have HB1 := hide hb1
  obtain ⟨c0, c1, hw1⟩ := HBX.out w1 hb1
  have hlt1 : w.heap.size < w1.heap.size := World.block_lt_of_cell? _ _ c0
  have HW1 := hide hw1
  clear hown hb1 HED hw1
  obtain ⟨ps, hps⟩ : ∃ ps, ps = partRow p 0 := ⟨_, rfl⟩
  rw [← hps] at mk
  obtain ⟨w2, hw2⟩ : ∃ w2, w2 = w1.alloc (.cells ⟨ps⟩ 234) := ⟨_, rfl⟩
  have HR2 : Hid (RowIs w2 w1.heap.size 234 (partRow p 0)) := by rw [hw2, ← hps]; exact RowIs.new _ _ _
  have HB2 : Hid (Below w1.heap.size w1 w2) := by rw [hw2]; exact (Below.refl _ _).alloc (Nat.le_refl _) _
  have hs2 : w2.heap.size = w1.heap.size + 1 := by rw [hw2]; simp
  clear hps
  go_wp2_with fail
  rw [← hw2]
  clear hw2 mk
  go_loopw [16] (fun i wr => ∃ k : Nat, k ≤ n ∧ i = .int .i64 (k : Int) ∧ Hid (RowIs wr w1.heap.size 234 (partRow p k)) ∧ Hid (Below w1.heap.size w1 wr) ∧ w1.heap.size < wr.heap.size) (fun i _ => n - (intOf i).toNat)
  case atStart => exact ⟨0, Nat.zero_le _, rfl, HR2.out, HB2.out, by omega⟩
  case round =>
    obtain ⟨k, hk, rfl, HR, HBR, hzr⟩ := hrel
    have hbr' : Below wA.heap.size wA wr := HB1.out.trans (HBR.out.mono HB1.out.size)
    obtain ⟨d0, d1, hbw⟩ := HBX.out wr hbr'
    have HBW := hide hbw
    clear hbw hbr' c0 c1
    by_cases hlt : k < n
    · have hkl : k < p.names.length := by rw [← HN.out]; exact hlt
      obtain ⟨gn, hna, hcn, y1, y2, y3, y4, y5, y6⟩ : ∃ g, na = some ⟨g, 0, none⟩ ∧ n ≤ nc ∧ NameAt wr g k p.names[k] := by
        rcases HNA.out.below HBW.out with ⟨h0, _⟩ | ⟨g, cap, h1, h2, h3, h4⟩
        · rw [h0] at hkl; simp at hkl
        · simp only [Value.slice.injEq] at h1
          exact ⟨g, h1.1, by rw [h1.2.2, h1.2.1]; exact h2, h4 k _ (List.getElem?_eq_getElem hkl)⟩
      subst hna
      have hgn : gn < wr.heap.size := World.block_lt_of_cell? _ _ y1
      obtain ⟨m1, m2, m3, m4⟩ := Sc.may p HCK.out k hkl
      have hpt : Mc.part p k = if p.names[k].kind = 3 ∨ p.names[k].kind = 4 then (p.names[k].count.toNat + 1, true) else if p.names[k].kind = 2 then (2, false) else if (Ld.edges p).contains k then (2, false) else (1, false) := by
        unfold Mc.part; rw [List.getElem?_eq_getElem hkl]
      generalize p.names[k] = y at *
      obtain ⟨ynm, yk, yc⟩ := y
      simp only at y1 y2 y3 y4 y5 y6 m1 m2 m3 m4 hpt
      obtain ⟨E1, E2, E3, r0, r1⟩ := partRow_edit p k hkl HR.out
      have f0 := HR.out.frozen (k * 2)
      have f1 := HR.out.frozen (k * 2 + 1)
      have HE1 := hide E1
      have HE2 := hide E2
      have HE3 := hide E3
      have HFB : Hid (∀ (W : World) (o : Obj), Below w1.heap.size w1 W → wr.heap.size ≤ W.heap.size → Below w1.heap.size w1 (W.alloc o) ∧ w1.heap.size < (W.alloc o).heap.size) := fun W o hW hs => ⟨hW.alloc (by omega) o, by simp; omega⟩
      have HFS : Hid (∀ (W : World) (j : Nat) (v : Value), Below w1.heap.size w1 W → Below w1.heap.size w1 (W.setCell ⟨w1.heap.size, j, none⟩ v)) := fun W j v hW => hW.setCell (p := ⟨w1.heap.size, j, none⟩) (Nat.le_refl _) v
      clear E1 E2 E3
      rcases (show yk = 1 ∨ yk = 2 ∨ yk = 3 ∨ yk = 4 by omega) with rfl | rfl | rfl | rfl
      · obtain rfl : yc = 0 := m4 (by decide)
        have hle : (Ld.edges p).length ≤ 12 := Nat.le_trans (Ld.placesTo_le _ _ _) (by rw [← HN.out]; exact h12)
        have HCT := hide (contains_int_any _ _ (Ld.edges p) k ((wr.setCell ⟨w1.heap.size, k * 2, none⟩ (.int .i64 1)).alloc (.cells #[.string ⟨ynm.toArray⟩, .int .i64 1, .int .i64 0] 201)) (own_below HO.out (HFB.out _ _ (HFS.out _ _ _ HBR.out) (by simp [World.setCell])).1) (by omega))
        have HP2 : Hid ((Ld.edges p).contains k = true → Mc.part p k = (2, false)) := fun h => by rw [hpt, if_neg (by decide), if_neg (by decide), if_pos h]
        have HP1 : Hid ((Ld.edges p).contains k = false → Mc.part p k = (1, false)) := fun h => by rw [hpt, if_neg (by decide), if_neg (by decide), h]; rfl
        clear hpt
        go_wp2_with fail
        refine HCT.out.mono ?_
        rintro e w3 ⟨rfl, rfl⟩
        clear HCT
        cases hct : (Ld.edges p).contains k with
        | true =>
          go_wp2_with fail
          go_roundw
          case rel => exact ⟨k + 1, by omega, by go_num, (HE3.out 2 1 (HP2.out hct)).alloc _, (HFB.out _ _ (HFS.out _ _ _ (HFS.out _ _ _ HBR.out)) (by simp [World.setCell])).1, (HFB.out _ _ (HFS.out _ _ _ (HFS.out _ _ _ HBR.out)) (by simp [World.setCell])).2⟩
          case measure => simp [intOf]; omega
        | false =>
          go_wp2_with fail
          go_roundw
          case rel => exact ⟨k + 1, by omega, by go_num, (HE1.out 1 (HP1.out hct)).alloc _, (HFB.out _ _ (HFS.out _ _ _ HBR.out) (by simp [World.setCell])).1, (HFB.out _ _ (HFS.out _ _ _ HBR.out) (by simp [World.setCell])).2⟩
          case measure => simp [intOf]; omega
      · have HPT : Hid (Mc.part p k = (2, false)) := hpt
        clear hpt
        go_wp2_with fail
        go_roundw
        case rel => exact ⟨k + 1, by omega, by go_num, (HE1.out 2 HPT.out).alloc _, (HFB.out _ _ (HFS.out _ _ _ HBR.out) (by simp [World.setCell])).1, (HFB.out _ _ (HFS.out _ _ _ HBR.out) (by simp [World.setCell])).2⟩
        case measure => simp [intOf]; omega
      · have m5 := m3 (by omega)
        obtain ⟨c, hc⟩ : ∃ c : Nat, yc = (c : Int) := ⟨yc.toNat, by omega⟩
        subst hc
        have HPT : Hid (Mc.part p k = (c + 1, true)) := by
          show _ = _
          rw [hpt, if_pos (by decide)]
          simp
        clear hpt
        go_wp2_with fail
        go_roundw
        case rel =>
          refine ⟨k + 1, by omega, by go_num, ?_, (HFB.out _ _ (HFS.out _ _ _ (HFS.out _ _ _ HBR.out)) (by simp [World.setCell])).1, (HFB.out _ _ (HFS.out _ _ _ (HFS.out _ _ _ HBR.out)) (by simp [World.setCell])).2⟩
          have h1 := HE2.out (c + 1) HPT.out
          rw [Int.natCast_add] at h1
          exact h1.alloc _
        case measure => simp [intOf]; omega
      · have m5 := m3 (by omega)
        obtain ⟨c, hc⟩ : ∃ c : Nat, yc = (c : Int) := ⟨yc.toNat, by omega⟩
        subst hc
        have HPT : Hid (Mc.part p k = (c + 1, true)) := by
          show _ = _
          rw [hpt, if_pos (by decide)]
          simp
        clear hpt
        go_wp2_with fail
        go_roundw
        case rel =>
          refine ⟨k + 1, by omega, by go_num, ?_, (HFB.out _ _ (HFS.out _ _ _ (HFS.out _ _ _ HBR.out)) (by simp [World.setCell])).1, (HFB.out _ _ (HFS.out _ _ _ (HFS.out _ _ _ HBR.out)) (by simp [World.setCell])).2⟩
          have h1 := HE2.out (c + 1) HPT.out
          rw [Int.natCast_add] at h1
          exact h1.alloc _
        case measure => simp [intOf]; omega
    · have hkn : k = n := by omega
      have HRA : Hid (RowIs wr w1.heap.size 234 ((Mc.parts p).flatMap ptCells)) := by
        have h1 := HR.out
        rw [hkn, HN.out, partRow_all] at h1
        exact h1
      subst hkn
      go_wp2_with fail
      go_ret
      exact ⟨w1.heap.size, by rw [← HN.out]; rfl, HRA.out, by omega, HBW.out⟩
end
section
open Go.RowKit
namespace Mc
theorem total_cons (x : Nat × Bool) (l : List (Nat × Bool)) : total (x :: l) = x.1 * total l := rfl
theorem total_append : ∀ (a b : List (Nat × Bool)), total (a ++ b) = total a * total b
  | [], b => by simp [total]
  | x :: a, b => by rw [List.cons_append, total_cons, total_append a b, total_cons, Nat.mul_assoc]
theorem total_snoc (a : List (Nat × Bool)) (x : Nat × Bool) : total (a ++ [x]) = total a * x.1 := by
  rw [total_append]
  simp [total]
theorem total_le (l : List (Nat × Bool)) (h : ∀ x, x ∈ l → okP x) (k : Nat) : total (l.take k) ≤ total l := by
  have e : total l = total (l.take k) * total (l.drop k) := by rw [← total_append, List.take_append_drop]
  rw [e]
  have := total_pos (l.drop k) (fun x hx => h x (List.mem_of_mem_drop hx))
  exact Nat.le_mul_of_pos_right _ this
theorem parts_le (p : Ld.Prg) (hck : Ld.check p = none) : ∀ x, x ∈ parts p → x.1 ≤ 8 := by
  intro x hx
  obtain ⟨k, hk, rfl⟩ := List.mem_map.1 hx
  have hkl := List.mem_range.1 hk
  obtain ⟨_, _, m3, m4⟩ := Sc.may p hck k hkl
  unfold part
  rw [List.getElem?_eq_getElem hkl]
  simp only
  by_cases h4 : p.names[k].kind = 3 ∨ p.names[k].kind = 4
  · rw [if_pos h4]; have := (m3 (by omega)).2; simp only; omega
  · rw [if_neg h4]
    repeat' split
    all_goals decide
/-- what is left of a number behind the first k parts -/
def rest (l : List (Nat × Bool)) (m : Nat) : Nat → Nat
  | 0 => m
  | k + 1 => rest l m k / (l.getD k (1, false)).1
theorem rest_cons (x : Nat × Bool) (r : List (Nat × Bool)) (m : Nat) : ∀ k, rest (x :: r) m (k + 1) = rest r (m / x.1) k
  | 0 => rfl
  | k + 1 => by
    show rest (x :: r) m (k + 1) / ((x :: r).getD (k + 1) (1, false)).1 = rest r (m / x.1) k / (r.getD k (1, false)).1
    rw [rest_cons x r m k]
    simp
theorem rest_le (l : List (Nat × Bool)) (m : Nat) : ∀ k, rest l m k ≤ m
  | 0 => Nat.le_refl _
  | k + 1 => Nat.le_trans (Nat.div_le_self _ _) (rest_le l m k)
theorem rest_succ (l : List (Nat × Bool)) (m k : Nat) (hk : k < l.length) : rest l m (k + 1) = rest l m k / l[k].1 := by
  show rest l m k / (l.getD k (1, false)).1 = _
  simp [hk]
theorem stateI_at : ∀ (l : List (Nat × Bool)) (m k : Nat) (hk : k < l.length), (stateI l m)[k]? = some (decide (1 < l[k].1) && decide (rest l m k % l[k].1 = l[k].1 - 1)) ∧ (stateC l m)[k]? = some (if l[k].2 then ((rest l m k % l[k].1 : Nat) : Int) else 0)
  | [], _, _, hk => by simp at hk
  | x :: r, m, 0, _ => ⟨rfl, rfl⟩
  | x :: r, m, k + 1, hk => by
    have ih := stateI_at r (m / x.1) k (by simpa using hk)
    simp only [stateI, stateC, List.getElem?_cons_succ, List.getElem_cons_succ, rest_cons]
    exact ih
theorem state_take (l : List (Nat × Bool)) (m k : Nat) (hk : k < l.length) : (stateI l m).take (k + 1) = (stateI l m).take k ++ [decide (1 < l[k].1) && decide (rest l m k % l[k].1 = l[k].1 - 1)] ∧ (stateC l m).take (k + 1) = (stateC l m).take k ++ [if l[k].2 then ((rest l m k % l[k].1 : Nat) : Int) else 0] := by
  obtain ⟨h1, h2⟩ := stateI_at l m k hk
  have hi : k < (stateI l m).length := by rw [stateI_len]; exact hk
  have hc : k < (stateC l m).length := by rw [stateC_len]; exact hk
  rw [List.getElem?_eq_getElem hi] at h1
  rw [List.getElem?_eq_getElem hc] at h2
  rw [List.take_succ_eq_append_getElem hi, List.take_succ_eq_append_getElem hc, Option.some.inj h1, Option.some.inj h2]
  exact ⟨rfl, rfl⟩
end Mc
/-- what states comes to -/
def Stated (w : World) (l : List (Nat × Bool)) (e : Ending) (w' : World) : Prop := e = .returned (.tuple (if Mc.total l ≤ 4096 then #[.int .i64 (Mc.total l : Int), .bool true] else #[.int .i64 0, .bool false])) ∧ Below w.heap.size w w'
theorem pt_cell {W : World} {g : Nat} {l : List (Nat × Bool)} (h : RowIs W g 234 (l.flatMap ptCells)) (k : Nat) (hk : k < l.length) : W.cell? ⟨g, k * 2, none⟩ = some (.int .i64 (l[k].1 : Int)) ∧ W.cell? ⟨g, k * 2 + 1, none⟩ = some (.bool l[k].2) :=
  ⟨h.cell _ _ (flat2 ptCells (fun _ => rfl) l k _ (List.getElem?_eq_getElem hk) 0 (by omega)), h.cell _ _ (flat2 ptCells (fun _ => rfl) l k _ (List.getElem?_eq_getElem hk) 1 (by omega))⟩
set_option maxHeartbeats 4000000 in
set_option maxRecDepth 100000 in
theorem states_any (l : List (Nat × Bool)) (g : Nat) (w : World) (h : RowIs w g 234 (l.flatMap ptCells)) (hl : l.length ≤ 12) (hok : ∀ x, x ∈ l → Mc.okP x) (h8 : ∀ x, x ∈ l → x.1 ≤ 8) :
    Calls Tryz.prog 76 #[slV g l.length] w (Stated w l) := by
  have HR := hide h
  have HOK := hide hok
  have H8 := hide h8
  obtain ⟨n, hnn⟩ : ∃ n, n = l.length := ⟨_, rfl⟩
  have HN := hide hnn
  rw [← hnn] at hl ⊢
  clear h hok h8 hnn
  unfold slV
  go_enter Tryz.func76, Tryz.ntmps76
  go_wp2_with fail
  go_loopw [4, 9] (fun c i wr => ∃ k : Nat, k ≤ n ∧ i = .int .i64 (k : Int) ∧ c = .int .i64 (Mc.total (l.take k) : Int) ∧ Mc.total (l.take k) ≤ 4096 ∧ Hid (Below w.heap.size w wr)) (fun _ i _ => n - (intOf i).toNat)
  case atStart => exact ⟨0, Nat.zero_le _, rfl, rfl, by simp [Mc.total], Below.refl _ _⟩
  case round =>
    obtain ⟨k, hk, rfl, rfl, h40, HB⟩ := hrel
    by_cases hlt : k < n
    · have hkl : k < l.length := by rw [← HN.out]; exact hlt
      obtain ⟨c0, c1⟩ := pt_cell (HR.out.below HB.out) k hkl
      have hgl : g < wr.heap.size := World.block_lt_of_cell? _ _ c0
      have HTS : Hid (Mc.total (l.take (k + 1)) = Mc.total (l.take k) * l[k].1) := by show _ = _; rw [List.take_succ_eq_append_getElem hkl, Mc.total_snoc]
      have hle := Mc.total_le l HOK.out (k + 1)
      have HBN : Hid (∀ o, Below w.heap.size w (wr.alloc o)) := fun o => HB.out.alloc HB.out.size o
      have h8k := H8.out _ (List.getElem_mem hkl)
      generalize l[k] = x at *
      obtain ⟨of, cnt⟩ := x
      simp only at c0 c1 HTS h8k
      obtain ⟨t, ht⟩ : ∃ t, t = Mc.total (l.take k) * of := ⟨_, rfl⟩
      have htb : t ≤ 32768 := by rw [ht]; exact Nat.mul_le_mul h40 h8k
      have hti : ((Mc.total (l.take k) : Nat) : Int) * (of : Int) = (t : Int) := by rw [ht, Int.natCast_mul]
      rw [← ht] at HTS
      clear ht
      by_cases hbig : 4096 < t
      · have hbi : (4096 : Int) < (t : Int) := by omega
        have HTOT : Hid (¬ Mc.total l ≤ 4096) := by show ¬ _; rw [HTS.out] at hle; omega
        go_wp2_with fail
        refine bodyPost_ret_by (v := .tuple #[.int .i64 0, .bool false]) ?_ rfl ?_
        · simp [results, Tryz.results76, go_sem]
        · exact ⟨by rw [if_neg HTOT.out], HBN.out _⟩
      · have hbi : ¬ (4096 : Int) < (t : Int) := by omega
        go_wp2_with fail
        exact ⟨⟨k + 1, by omega, by go_num, by rw [HTS.out], by rw [HTS.out]; omega, HBN.out _⟩, by simp [intOf]; omega⟩
    · have hkn : k = n := by omega
      have e : l.take k = l := List.take_of_length_le (by rw [← HN.out]; omega)
      rw [e] at h40 ⊢
      subst hkn
      go_wp2_with fail
      refine bodyPost_ret_by (v := .tuple #[.int .i64 (Mc.total l : Int), .bool true]) ?_ rfl ?_
      · simp [results, Tryz.results76, go_sem]
      · exact ⟨by rw [if_pos h40], HB.out⟩
/-- a new state's two rows, and a variable that holds them -/
def MadeSt (w : World) (n : Nat) (cb ci : List Value) (t : Value) (wx : World) : Prop := ∃ b gi gc : Nat, t = .pointer (some ⟨b, 0, none⟩) ∧ (w.heap.size < b ∧ w.heap.size < gi ∧ w.heap.size < gc) ∧ wx.heap[w.heap.size]? = some (.cells #[.slice none 0 0, .slice none 0 0] 105 (0, 0)) ∧ wx.heap[b]? = some (.cells #[.slice (some ⟨gi, 0, none⟩) n n, .slice (some ⟨gc, 0, none⟩) n n] 105 (0, 0)) ∧ wx.heap[gi]? = some (.cells ⟨cb⟩ 4 (0, 0)) ∧ wx.heap[gc]? = some (.cells ⟨ci⟩ 3 (0, 0)) ∧ Below w.heap.size w wx
theorem made_st {w : World} {n : Nat} {cb ci : List Value} {t : Value} {wx : World} {b gi gc : Nat} (ht : t = .pointer (some ⟨b, 0, none⟩)) (hz : wx.heap[w.heap.size]? = some (.cells #[.slice none 0 0, .slice none 0 0] 105 (0, 0))) (hb : wx.heap[b]? = some (.cells #[.slice (some ⟨gi, 0, none⟩) n n, .slice (some ⟨gc, 0, none⟩) n n] 105 (0, 0))) (h1 : wx.heap[gi]? = some (.cells ⟨cb⟩ 4 (0, 0))) (h2 : wx.heap[gc]? = some (.cells ⟨ci⟩ 3 (0, 0))) (hl : Below w.heap.size w wx) (l0 : w.heap.size < b) (l1 : w.heap.size < gi) (l2 : w.heap.size < gc) : MadeSt w n cb ci t wx :=
  ⟨b, gi, gc, ht, ⟨l0, l1, l2⟩, hz, hb, h1, h2, hl⟩
theorem c4a (w : World) (o1 o2 o3 o4 : Obj) : ((((w.alloc o1).alloc o2).alloc o3).alloc o4).drew.heap[w.heap.size]? = some o1 := (cells4 w o1 o2 o3 o4).1
theorem c4b (w : World) (o1 o2 o3 o4 : Obj) : ((((w.alloc o1).alloc o2).alloc o3).alloc o4).drew.heap[w.heap.size + 1]? = some o2 := (cells4 w o1 o2 o3 o4).2.1
theorem c4c (w : World) (o1 o2 o3 o4 : Obj) : ((((w.alloc o1).alloc o2).alloc o3).alloc o4).drew.heap[w.heap.size + 1 + 1]? = some o3 := (cells4 w o1 o2 o3 o4).2.2.1
theorem c4d (w : World) (o1 o2 o3 o4 : Obj) : ((((w.alloc o1).alloc o2).alloc o3).alloc o4).drew.heap[w.heap.size + 1 + 1 + 1]? = some o4 := (cells4 w o1 o2 o3 o4).2.2.2.1
theorem c4e (w : World) (o1 o2 o3 o4 : Obj) : Below w.heap.size w ((((w.alloc o1).alloc o2).alloc o3).alloc o4).drew := (cells4 w o1 o2 o3 o4).2.2.2.2
set_option maxHeartbeats 4000000 in
set_option maxRecDepth 100000 in
theorem state_any (l : List (Nat × Bool)) (g m : Nat) (w : World) (h : RowIs w g 234 (l.flatMap ptCells)) (hl : l.length ≤ 12) (hok : ∀ x, x ∈ l → Mc.okP x) (h8 : ∀ x, x ∈ l → x.1 ≤ 8) (hm : m ≤ 100000) :
    Calls Tryz.prog 88 #[slV g l.length, .int .i64 (m : Int)] w (NewSt w (Mc.state l m)) := by
  have HR := hide h
  have HOK := hide hok
  have H8 := hide h8
  obtain ⟨n, hnn⟩ : ∃ n, n = l.length := ⟨_, rfl⟩
  have HN := hide hnn
  rw [← hnn] at hl ⊢
  have m1 := fun w => makeBs n (by omega) w
  have m2 := fun w => makeIs n (by omega) w
  obtain ⟨cb, hcb⟩ : ∃ cb, cb = List.replicate n (Value.bool false) := ⟨_, rfl⟩
  obtain ⟨ci, hci⟩ : ∃ ci, ci = List.replicate n (Value.int .i64 0) := ⟨_, rfl⟩
  rw [← hcb] at m1
  rw [← hci] at m2
  have HCB := hide hcb
  have HCI := hide hci
  clear h hok h8 hnn hcb hci
  unfold slV
  go_enter Tryz.func88, Tryz.ntmps88
  go_upto_region 1 with fail
  go_cut [5] (fun t wx => MadeSt w n cb ci t wx)
  case first =>
    go_region
    all_goals
      go_wp2_with fail
      go_meet
      apply made_st rfl
      · exact c4a _ _ _ _ _
      · first | exact c4b _ _ _ _ _ | exact c4c _ _ _ _ _ | exact c4d _ _ _ _ _
      · first | exact c4b _ _ _ _ _ | exact c4c _ _ _ _ _ | exact c4d _ _ _ _ _
      · first | exact c4b _ _ _ _ _ | exact c4c _ _ _ _ _ | exact c4d _ _ _ _ _
      · exact c4e _ _ _ _ _
      · omega
      · omega
      · omega
  case rest =>
    obtain ⟨b, gi, gc, rfl, ⟨hb0, hg0, hg1⟩, hz, hb, hgi, hgc, hbel⟩ := hcut
    have hbgi : b ≠ gi := fun e => by subst e; rw [hb] at hgi; simp only [Option.some.injEq, Obj.cells.injEq] at hgi; exact absurd hgi.2.1 (by decide)
    have hbgc : b ≠ gc := fun e => by subst e; rw [hb] at hgc; simp only [Option.some.injEq, Obj.cells.injEq] at hgc; exact absurd hgc.2.1 (by decide)
    have hgigc : gi ≠ gc := fun e => by subst e; rw [hgi] at hgc; simp only [Option.some.injEq, Obj.cells.injEq] at hgc; exact absurd hgc.2.1 (by decide)
    have HZ := hide hz
    have HB := hide hb
    have HGI : Hid (RowIs wc gi 4 (((Mc.stateI l m).take 0).map boolV ++ List.replicate (n - (((Mc.stateI l m).take 0).map boolV).length) (.bool false))) := by rw [HCB.out] at hgi; exact hgi
    have HGC : Hid (RowIs wc gc 3 (((Mc.stateC l m).take 0).map iV ++ List.replicate (n - (((Mc.stateC l m).take 0).map iV).length) (.int .i64 0))) := by rw [HCI.out] at hgc; exact hgc
    have HBEL := hide hbel
    clear hz hb hgi hgc hbel m1 m2
    go_wp2_with fail
    go_loopw [1, 18] (fun c i wr => ∃ k : Nat, k ≤ n ∧ i = .int .i64 (k : Int) ∧ c = .int .i64 (Mc.rest l m k : Int) ∧ Hid (wr.heap[w.heap.size]? = some (.cells #[.slice none 0 0, .slice none 0 0] 105 (0, 0))) ∧ Hid (wr.heap[b]? = some (.cells #[.slice (some ⟨gi, 0, none⟩) n n, .slice (some ⟨gc, 0, none⟩) n n] 105 (0, 0))) ∧
      Hid (RowIs wr gi 4 (((Mc.stateI l m).take k).map boolV ++ List.replicate (n - (((Mc.stateI l m).take k).map boolV).length) (.bool false))) ∧ Hid (RowIs wr gc 3 (((Mc.stateC l m).take k).map iV ++ List.replicate (n - (((Mc.stateC l m).take k).map iV).length) (.int .i64 0))) ∧ Hid (Below w.heap.size w wr)) (fun _ i _ => n - (intOf i).toNat)
    case atStart => exact ⟨0, Nat.zero_le _, rfl, rfl, HZ.out, HB.out, HGI.out, HGC.out, HBEL.out⟩
    case round =>
      clear HZ HB HGI HGC HBEL
      obtain ⟨k, hk, rfl, rfl, HZ, HB, HGI, HGC, HBEL⟩ := hrel
      have hzl : w.heap.size < wr.heap.size := (Array.getElem?_eq_some_iff.1 HZ.out).1
      have hbl : b < wr.heap.size := (Array.getElem?_eq_some_iff.1 HB.out).1
      have hgil := HGI.out.lt
      have hgcl := HGC.out.lt
      have v0 : wr.cell? ⟨b, 0, none⟩ = some (.slice (some ⟨gi, 0, none⟩) n n) := by rw [Lib.cell_of_heap HB.out]; rfl
      have v1 : wr.cell? ⟨b, 1, none⟩ = some (.slice (some ⟨gc, 0, none⟩) n n) := by rw [Lib.cell_of_heap HB.out]; rfl
      have hli : (((Mc.stateI l m).take k).map boolV).length = k := by rw [List.length_map, List.length_take, Mc.stateI_len, ← HN.out]; omega
      have hlc : (((Mc.stateC l m).take k).map iV).length = k := by rw [List.length_map, List.length_take, Mc.stateC_len, ← HN.out]; omega
      by_cases hlt : k < n
      · have hkl : k < l.length := by rw [← HN.out]; exact hlt
        obtain ⟨c0, c1⟩ := pt_cell (HR.out.below HBEL.out) k hkl
        have hgl : g < wr.heap.size := World.block_lt_of_cell? _ _ c0
        have r0 : wr.cell? ⟨gi, k, none⟩ = some (.bool false) := HGI.out.cell k _ (by rw [List.getElem?_append_right (by omega), List.getElem?_replicate, if_pos (by omega)])
        have r1 : wr.cell? ⟨gc, k, none⟩ = some (.int .i64 0) := HGC.out.cell k _ (by rw [List.getElem?_append_right (by omega), List.getElem?_replicate, if_pos (by omega)])
        have f0 := HGI.out.frozen k
        have f1 := HGC.out.frozen k
        obtain ⟨t1, t2⟩ := Mc.state_take l m k hkl
        have hrs := Mc.rest_succ l m k hkl
        have hrl := Mc.rest_le l m k
        have hok := (HOK.out _ (List.getElem_mem hkl)).1
        have h8k := H8.out _ (List.getElem_mem hkl)
        have HSI : Hid (∀ bv, (Mc.stateI l m).take (k + 1) = (Mc.stateI l m).take k ++ [bv] → RowIs (wr.setCell ⟨gi, k, none⟩ (.bool bv)) gi 4 (((Mc.stateI l m).take (k + 1)).map boolV ++ List.replicate (n - (((Mc.stateI l m).take (k + 1)).map boolV).length) (.bool false))) := by
          intro bv hbv
          have h1 := HGI.out.set k (.bool bv)
          have h2 := fill_set (((Mc.stateI l m).take k).map boolV) (.bool false) (.bool bv) n (by omega)
          rw [hli] at h2
          rw [hli, h2] at h1
          rw [hbv, List.map_append]
          exact h1
        have HSC : Hid (∀ (W : World) cv, RowIs W gc 3 (((Mc.stateC l m).take k).map iV ++ List.replicate (n - (((Mc.stateC l m).take k).map iV).length) (.int .i64 0)) → (Mc.stateC l m).take (k + 1) = (Mc.stateC l m).take k ++ [cv] → RowIs (W.setCell ⟨gc, k, none⟩ (.int .i64 cv)) gc 3 (((Mc.stateC l m).take (k + 1)).map iV ++ List.replicate (n - (((Mc.stateC l m).take (k + 1)).map iV).length) (.int .i64 0))) := by
          intro W cv hW hcv
          have h1 := hW.set k (.int .i64 cv)
          have h2 := fill_set (((Mc.stateC l m).take k).map iV) (.int .i64 0) (.int .i64 cv) n (by omega)
          rw [hlc] at h2
          rw [hlc, h2] at h1
          rw [hcv, List.map_append]
          exact h1
        have HS0 : Hid ((Mc.stateC l m).take (k + 1) = (Mc.stateC l m).take k ++ [0] → RowIs wr gc 3 (((Mc.stateC l m).take (k + 1)).map iV ++ List.replicate (n - (((Mc.stateC l m).take (k + 1)).map iV).length) (.int .i64 0))) := by
          intro hcv
          have h1 := HGC.out
          have e : List.replicate (n - k) (Value.int .i64 0) = [.int .i64 0] ++ List.replicate (n - (k + 1)) (.int .i64 0) := by
            obtain ⟨d, hd⟩ : ∃ d, n - k = d + 1 := ⟨n - k - 1, by omega⟩
            rw [hd, show n - (k + 1) = d by omega, List.replicate_succ]; rfl
          have hlen : (((Mc.stateC l m).take k ++ [0]).map iV).length = k + 1 := by rw [List.map_append, List.length_append, hlc]; rfl
          rw [hlc, e] at h1
          rw [hcv, hlen, List.map_append, List.append_assoc]
          exact h1
        generalize l[k] = x at *
        obtain ⟨of, cnt⟩ := x
        simp only at c0 c1 t1 t2 hrs hok h8k
        have HT1 := hide t1
        have HT2 := hide t2
        have HRS := hide hrs
        obtain ⟨rs, hrse⟩ : ∃ rs, rs = Mc.rest l m k := ⟨_, rfl⟩
        rw [← hrse] at hrl HT1 HT2 HRS ⊢
        have htm : Int.tmod (rs : Int) (of : Int) = ((rs % of : Nat) : Int) := (Int.ofNat_tmod rs of).symm
        have htd : Int.tdiv (rs : Int) (of : Int) = ((rs / of : Nat) : Int) := (Int.ofNat_tdiv rs of).symm
        have hml : rs % of < of := Nat.mod_lt _ (by omega)
        have hdl : rs / of ≤ rs := Nat.div_le_self _ _
        clear t1 t2 hrs hrse
        generalize rs % of = md at *
        generalize rs / of = dv at *
        have hof0 : (of : Int) ≠ 0 := by omega
        by_cases h1o : 1 < of
        · have h1i : (1 : Int) < (of : Int) := by omega
          cases cnt with
          | true =>
            go_wp2_with fail
            go_roundw
            case rel =>
              refine ⟨k + 1, by omega, by go_num, by rw [HRS.out], ?_, ?_, ?_, ?_, ?_⟩
              · rw [Below.heap_alloc _ _ _ (by simp [World.setCell]; omega), Below.heap_setCell _ _ _ _ (fun e => by simp at e; omega), Below.heap_setCell _ _ _ _ (fun e => by simp at e; omega)]; exact HZ.out
              · rw [Below.heap_alloc _ _ _ (by simp [World.setCell]; omega), Below.heap_setCell _ _ _ _ (fun e => hbgc e), Below.heap_setCell _ _ _ _ (fun e => hbgi e)]; exact HB.out
              · refine (((HSI.out _ (HT1.out.trans ?_)).other gc k _ hgigc)).alloc _
                rw [decide_eq_true h1o, Bool.true_and, show decide (md = of - 1) = ((md : Int) == (of : Int) - 1) by rw [Bool.eq_iff_iff]; simp; omega]
              · exact (HSC.out _ _ (HGC.out.other gi k _ (Ne.symm hgigc)) HT2.out).alloc _
              · exact ((HBEL.out.setCell (p := ⟨gi, k, none⟩) (Nat.le_of_lt hg0) _).setCell (p := ⟨gc, k, none⟩) (Nat.le_of_lt hg1) _).alloc (by simp [World.setCell]; omega) _
            case measure => simp [intOf]; omega
          | false =>
            go_wp2_with fail
            go_roundw
            case rel =>
              refine ⟨k + 1, by omega, by go_num, by rw [HRS.out], ?_, ?_, ?_, ?_, ?_⟩
              · rw [Below.heap_alloc _ _ _ (by simp [World.setCell]; omega), Below.heap_setCell _ _ _ _ (fun e => by simp at e; omega)]; exact HZ.out
              · rw [Below.heap_alloc _ _ _ (by simp [World.setCell]; omega), Below.heap_setCell _ _ _ _ (fun e => hbgi e)]; exact HB.out
              · refine (HSI.out _ (HT1.out.trans ?_)).alloc _
                rw [decide_eq_true h1o, Bool.true_and, show decide (md = of - 1) = ((md : Int) == (of : Int) - 1) by rw [Bool.eq_iff_iff]; simp; omega]
              · exact ((HS0.out HT2.out).other gi k _ (Ne.symm hgigc)).alloc _
              · exact (HBEL.out.setCell (p := ⟨gi, k, none⟩) (Nat.le_of_lt hg0) _).alloc (by simp [World.setCell]; omega) _
            case measure => simp [intOf]; omega
        · have h1i : decide ((1 : Int) < (of : Int)) = false := decide_eq_false (by omega)
          cases cnt with
          | true =>
            go_wp2_with fail
            go_roundw
            case rel =>
              refine ⟨k + 1, by omega, by go_num, by rw [HRS.out], ?_, ?_, ?_, ?_, ?_⟩
              · rw [Below.heap_alloc _ _ _ (by simp [World.setCell]; omega), Below.heap_setCell _ _ _ _ (fun e => by simp at e; omega), Below.heap_setCell _ _ _ _ (fun e => by simp at e; omega)]; exact HZ.out
              · rw [Below.heap_alloc _ _ _ (by simp [World.setCell]; omega), Below.heap_setCell _ _ _ _ (fun e => hbgc e), Below.heap_setCell _ _ _ _ (fun e => hbgi e)]; exact HB.out
              · refine (((HSI.out _ (HT1.out.trans ?_)).other gc k _ hgigc)).alloc _
                rw [show decide (1 < of) = false from decide_eq_false h1o, Bool.false_and]
              · exact (HSC.out _ _ (HGC.out.other gi k _ (Ne.symm hgigc)) HT2.out).alloc _
              · exact ((HBEL.out.setCell (p := ⟨gi, k, none⟩) (Nat.le_of_lt hg0) _).setCell (p := ⟨gc, k, none⟩) (Nat.le_of_lt hg1) _).alloc (by simp [World.setCell]; omega) _
            case measure => simp [intOf]; omega
          | false =>
            go_wp2_with fail
            go_roundw
            case rel =>
              refine ⟨k + 1, by omega, by go_num, by rw [HRS.out], ?_, ?_, ?_, ?_, ?_⟩
              · rw [Below.heap_alloc _ _ _ (by simp [World.setCell]; omega), Below.heap_setCell _ _ _ _ (fun e => by simp at e; omega)]; exact HZ.out
              · rw [Below.heap_alloc _ _ _ (by simp [World.setCell]; omega), Below.heap_setCell _ _ _ _ (fun e => hbgi e)]; exact HB.out
              · refine (HSI.out _ (HT1.out.trans ?_)).alloc _
                rw [show decide (1 < of) = false from decide_eq_false h1o, Bool.false_and]
              · exact ((HS0.out HT2.out).other gi k _ (Ne.symm hgigc)).alloc _
              · exact (HBEL.out.setCell (p := ⟨gi, k, none⟩) (Nat.le_of_lt hg0) _).alloc (by simp [World.setCell]; omega) _
            case measure => simp [intOf]; omega
      · have hkn : k = n := by omega
        have z0 : wr.cell? ⟨w.heap.size, 0, none⟩ = some (.slice none 0 0) := by rw [Lib.cell_of_heap HZ.out]; rfl
        have z1 : wr.cell? ⟨w.heap.size, 1, none⟩ = some (.slice none 0 0) := by rw [Lib.cell_of_heap HZ.out]; rfl
        have z2 : wr.frozen? ⟨w.heap.size, 0, none⟩ = false := Lib.frozen_of_heap HZ.out 0
        have z3 : wr.frozen? ⟨w.heap.size, 1, none⟩ = false := Lib.frozen_of_heap HZ.out 1
        have HFI : Hid (RowIs wr gi 4 ((Mc.stateI l m).map boolV)) := by
          have h1 := HGI.out
          rw [hli, hkn, Nat.sub_self, List.replicate_zero, List.append_nil, List.take_of_length_le (by rw [Mc.stateI_len, ← HN.out]; exact Nat.le_refl _)] at h1
          exact h1
        have HFC : Hid (RowIs wr gc 3 ((Mc.stateC l m).map iV)) := by
          have h1 := HGC.out
          rw [hlc, hkn, Nat.sub_self, List.replicate_zero, List.append_nil, List.take_of_length_le (by rw [Mc.stateC_len, ← HN.out]; exact Nat.le_refl _)] at h1
          exact h1
        subst hkn
        go_wp2_with fail
        refine bodyPost_ret_by (v := stV gi gc k) ?_ rfl ?_
        · simp [results, Tryz.results88, go_sem, stV, z0, z1]
        · refine ⟨gi, gc, ?_, ⟨?_, ?_⟩, by omega, by omega, ?_⟩
          · have : (Mc.state l m).is.length = k := by show (Mc.stateI l m).length = _; rw [Mc.stateI_len]; exact HN.out.symm
            rw [this]
          · exact (HFI.out.other w.heap.size 0 _ (by omega)).other w.heap.size 1 _ (by omega)
          · exact (HFC.out.other w.heap.size 0 _ (by omega)).other w.heap.size 1 _ (by omega)
          · exact (HBEL.out.setCell (p := ⟨w.heap.size, 0, none⟩) (Nat.le_refl _) _).setCell (p := ⟨w.heap.size, 1, none⟩) (Nat.le_refl _) _
end
section
open Go.RowKit
section
variable {α : Type} {P : Program}
/-- an iterator: it hands these on, one by one, and turns no blocks but its own, as long as Kf holds between two rounds -/
def SeqK (P : Program) (gf : Nat) (lb : Array Value) (encs : α → Array Value) (X : Nat → Nat → Prop) (m : Nat) (S Sp : List α → Prop) (Nx : List α → α → Prop) (Kf : World → Prop) (w : World) : Prop :=
  ∀ (l : Nat) (J Jx : List α → World → Prop) (W : World), Below w.heap.size w W → AbidesX (X W.heap.size) J → AbidesX (X W.heap.size) Jx → (∀ pre W1, J pre W1 → Kf W1) →
    (∀ pre x W1, J pre W1 → Nx pre x → W.heap.size + m ≤ W1.heap.size → YieldAt Fence.wide 0 P l (encs x) W1 fun e W' =>
      (e = .returned (.bool true) ∧ J (pre ++ [x]) W' ∧ KeepX (X W.heap.size) W1 W') ∨ (e = .returned (.bool false) ∧ Jx (pre ++ [x]) W' ∧ KeepX (X W.heap.size) W1 W')) →
    J [] W →
    Calls P gf (#[.func (.yield l) #[] #[]] ++ lb) W fun e W' => (∃ v, e = .returned v) ∧ ((∃ xs, S xs ∧ J xs W') ∨ ∃ pre, Sp pre ∧ Jx pre W')
theorem range_lawK {g : Operand} {ps : Array Tmp} {assign body : Code} {Q : Exit → Act → World → Prop} {a : Act} {w : World} {n gf : Nat} {lb : Array Value} (hg : a.eval g = .func (.func gf) #[] lb) (eg : ∀ args w, (callFunc gf args).run P w = .ok (.enter gf args) w)
    {encs : α → Array Value} {X : Nat → Nat → Prop} {m : Nat} {Nx : List α → α → Prop} {S Sp : List α → Prop} {Kf : World → Prop} (hseq : SeqK P gf lb encs X m S Sp Nx Kf w) (hX : ∀ k, X (w.heap.size + 2) k → k ≠ w.heap.size ∧ k ≠ w.heap.size + 1) (hXl : ∀ k, X (w.heap.size + 2) k → k < w.heap.size + 2 + m) (hps : ∀ x, (encs x).size = ps.size)
    (I Ix : List α → World → Prop) (hIK : ∀ pre W, I pre W → Kf W) (hI : AbidesX (TurnX X w.heap.size) I) (hIx : AbidesX (TurnX X w.heap.size) Ix) (h0 : I [] w) (lay : α → World → World) (hlay : ∀ x W, Below W.heap.size W (lay x W)) (a₁ : α → World → Act)
    (hassign : ∀ (l : Nat) (x : α) (W : World) (K : Act → World → Prop), K (a₁ x W) (lay x W) →
      assign.wpIn (Fence.wide.inRound l) 0 P (Exit.then K (fun _ _ _ => False)) { tmps := (ps.zip (encs x)).foldl (fun t (p, v) => t.setIfInBounds p v) a.tmps, defers := [] } W)
    (hbody : ∀ (l : Nat) (pre : List α) (x : α) (W U : World), w.heap.size + 2 + m ≤ W.heap.size → (∀ k, k ≠ w.heap.size + 1 → U.heap[k]? = (lay x W).heap[k]?) → U.heap.size = (lay x W).heap.size → I pre U → Nx pre x → body.wpIn (Fence.wide.inRound l) 0 P (BodyX (TurnX X w.heap.size) I Ix (pre ++ [x]) U) (a₁ x W) U)
    (hdone : ∀ (xs : List α) (W : World), S xs → I xs W → W.heap[w.heap.size]? = some (.deferred (some [])) → Q .normal { a with defers := { target := .collected w.heap.size, args := #[] } :: a.defers } W)
    (hstop : ∀ (pre : List α) (W : World), Sp pre → Ix pre W → W.heap[w.heap.size]? = some (.deferred (some [])) → Code.wpIn Fence.wide n P .ret Q { a with defers := { target := .collected w.heap.size, args := #[] } :: a.defers } W) :
    (Code.rangeFunc g ps assign body).wpIn Fence.wide n P Q a w := by
  refine wpIn_rangeFunc ?_
  intro fn hfn
  obtain ⟨rc, hrc⟩ : ∃ rc : LoopState → Option Code → Loop, rc = fun st pe => { state := st, pending := pe, fn, tmps := a.tmps, params := ps, assign, body, defers := w.heap.size } := ⟨_, rfl⟩
  obtain ⟨V, hV⟩ : ∃ V, V = (w.alloc (.deferred (some []))).alloc (.loop (rc .ready none)) := ⟨_, rfl⟩
  have hVs : V.heap.size = w.heap.size + 2 := by rw [hV]; simp
  have hVl : V.heap[w.heap.size + 1]? = some (.loop (rc .ready none)) := by
    have := World.alloc_heap_new (w.alloc (.deferred (some []))) (.loop (rc .ready none))
    rw [World.size_alloc] at this
    rw [hV]; exact this
  have hVd : V.heap[w.heap.size]? = some (.deferred (some [])) := by rw [hV]; exact (Below.heap_alloc _ _ _ (by simp)).trans (World.alloc_heap_new w _)
  have hVI : I [] V := by
    rw [hV]
    exact hI _ _ _ none (hI _ _ _ none h0 (World.grownBy_alloc _ _ none) (fun r e => by cases e)) (World.grownBy_alloc _ _ none) (fun r e => by cases e)
  have hVb : Below w.heap.size w V := by rw [hV]; exact ((Below.refl _ w).alloc (Nat.le_refl _) _).alloc (by simp) _
  refine ⟨w.heap.size + 1, [{ target := .collected w.heap.size, args := #[] }], V, { target := .fn (.func gf) lb, args := #[.func (.yield (w.heap.size + 1)) #[] #[]] }, V, gf, #[.func (.yield (w.heap.size + 1)) #[] #[]] ++ lb, V, ?_, ?_, fun _ _ => trivial, ?_, fun h => by simp [Fence.wide] at h, ?_⟩
  · rw [hV, hrc]; exact run_enterLoop_outer _ _ _ _ _
  · simp only [resolve, hg]
    simp [go_sem]
  · simp [invoke, go_sem, eg]
  refine callsIn_wide.2 ((hseq (w.heap.size + 1)
    (fun pre W => I pre W ∧ W.heap[w.heap.size + 1]? = some (.loop (rc .ready none)) ∧ W.heap[w.heap.size]? = some (.deferred (some [])))
    (fun pre W => Ix pre W ∧ W.heap[w.heap.size + 1]? = some (.loop (rc .done (some .ret))) ∧ W.heap[w.heap.size]? = some (.deferred (some [])))
    V hVb ?_ ?_ (fun pre W h => hIK pre W h.1) ?_ ⟨hVI, hVl, hVd⟩).mono ?_)
  · rintro s A B row ⟨q1, q2, q3⟩ hgr hr
    rw [hVs] at hr
    refine ⟨hI s A B row q1 hgr (fun r e => .inr (.inr (hr r e))), ?_, ?_⟩
    · rw [hgr.block _ (Array.getElem?_eq_some_iff.1 q2).1 (fun e => (hX _ (hr _ e.symm)).2 rfl)]; exact q2
    · rw [hgr.block _ (Array.getElem?_eq_some_iff.1 q3).1 (fun e => (hX _ (hr _ e.symm)).1 rfl)]; exact q3
  · rintro s A B row ⟨q1, q2, q3⟩ hgr hr
    rw [hVs] at hr
    refine ⟨hIx s A B row q1 hgr (fun r e => .inr (.inr (hr r e))), ?_, ?_⟩
    · rw [hgr.block _ (Array.getElem?_eq_some_iff.1 q2).1 (fun e => (hX _ (hr _ e.symm)).2 rfl)]; exact q2
    · rw [hgr.block _ (Array.getElem?_eq_some_iff.1 q3).1 (fun e => (hX _ (hr _ e.symm)).1 rfl)]; exact q3
  · rintro pre x W ⟨hi, hl, hd⟩ hlen hsz
    rw [hVs] at hsz
    rw [hVs]
    have hlt : w.heap.size + 1 < W.heap.size := (Array.getElem?_eq_some_iff.1 hl).1
    have hy := run_yield (P := P) (args := encs x) hl (by rw [hrc]; exact hps x)
    rw [hrc] at hy
    refine ⟨fn, _, assign, body, hy, roundIn_of_wpIn hfn (hassign _ x W _ ?_)⟩
    clear hy
    have hal := hlay x W
    have hAl : (lay x W).heap[w.heap.size + 1]? = some (.loop (rc .ready none)) := (hal.block _ hlt).trans hl
    have hltA : w.heap.size + 1 < (lay x W).heap.size := (Array.getElem?_eq_some_iff.1 hAl).1
    have hAI : I pre (lay x W) := hI _ _ _ none hi ⟨hal.os, hal.tape, hal.output, hal.size, fun k hk _ => hal.block k hk⟩ (fun r e => by cases e)
    refine ⟨_, run_beginRound hAl (by rw [hrc]), ?_⟩
    obtain ⟨U, hU⟩ : ∃ U, U = (lay x W).putObj (w.heap.size + 1) (.loop { rc .ready none with state := .busy }) := ⟨_, rfl⟩
    rw [← hU]
    have hUl : U.heap[w.heap.size + 1]? = some (.loop { rc .ready none with state := .busy }) := by rw [hU]; exact World.putObj_heap_same hltA
    have hUo : ∀ k, k ≠ w.heap.size + 1 → U.heap[k]? = (lay x W).heap[k]? := fun k hk => by rw [hU]; exact World.putObj_heap_other hk
    have hUs : U.heap.size = (lay x W).heap.size := by rw [hU]; simp [World.putObj]
    have hUI : I pre U := by rw [hU]; exact hI _ _ _ _ hAI (grownBy_putObj' _ _ _) (fun r e => by cases e; exact .inr (.inl rfl))
    refine wpIn_mono (hbody _ pre x W U (by omega) hUo hUs hUI hlen) ?_
    have fin : ∀ (jump : Option Code) (Z : World), KeepX (TurnX X w.heap.size) U Z →
        (Instr.endRound (w.heap.size + 1) jump).run P Z = .ok (.bool jump.isNone) (Z.putObj (w.heap.size + 1) (.loop (rc (if jump.isNone then .ready else .done) jump))) ∧
        (Z.putObj (w.heap.size + 1) (.loop (rc (if jump.isNone then .ready else .done) jump))).heap[w.heap.size + 1]? = some (.loop (rc (if jump.isNone then .ready else .done) jump)) ∧
        (Z.putObj (w.heap.size + 1) (.loop (rc (if jump.isNone then .ready else .done) jump))).heap[w.heap.size]? = some (.deferred (some [])) ∧
        KeepX (X (w.heap.size + 2)) W (Z.putObj (w.heap.size + 1) (.loop (rc (if jump.isNone then .ready else .done) jump))) := by
      intro jump Z hZ
      have hZl := (hZ.2 _ (.inr (.inl rfl))).trans hUl
      have he := run_endRound (P := P) jump hZl
      refine ⟨by rw [he, hrc], World.putObj_heap_same (Array.getElem?_eq_some_iff.1 hZl).1, ?_, ?_, ?_⟩
      · rw [World.putObj_heap_other (by omega), hZ.2 _ (.inl rfl), hUo _ (by omega), hal.block _ (by omega)]; exact hd
      · have := hZ.1; have := hal.size; simp [World.putObj]; omega
      · intro k hk
        have hk2 := (hX k hk).2
        rw [World.putObj_heap_other hk2, hZ.2 k (.inr (.inr hk)), hUo k hk2, hal.block k (by have := hXl k hk; omega)]
    rintro e a3 Z hp
    cases e with
    | normal =>
      obtain ⟨hZ, hi3⟩ := hp
      obtain ⟨q1, q2, q3, q4⟩ := fin none Z hZ
      exact ⟨_, _, q1, .inl ⟨rfl, ⟨hI _ _ _ _ hi3 (grownBy_putObj' _ _ _) (fun r e => by cases e; exact .inr (.inl rfl)), q2, q3⟩, q4⟩⟩
    | ret =>
      obtain ⟨hZ, hi3⟩ := hp
      obtain ⟨q1, q2, q3, q4⟩ := fin (some .ret) Z hZ
      exact ⟨_, _, q1, .inr ⟨rfl, ⟨hIx _ _ _ _ hi3 (grownBy_putObj' _ _ _) (fun r e => by cases e; exact .inr (.inl rfl)), q2, q3⟩, q4⟩⟩
    | exit id => exact hp.elim
    | goto t => exact hp.elim
    | panic ch => exact hp.elim
    | outgrown => exact hp.elim
  · rintro e W2 ⟨⟨v, rfl⟩, (⟨xs, hS, hi, hl, hd⟩ | ⟨pre, hSp, hi, hl, hd⟩)⟩
    · exact ⟨none, _, by have := run_endLoop (P := P) hl (by rw [hrc]; simp); rw [hrc] at this; exact this, hdone xs _ hS (hI _ _ _ _ hi (grownBy_putObj' _ _ _) (fun r e => by cases e; exact .inr (.inl rfl))) ((World.putObj_heap_other (by omega)).trans hd)⟩
    · exact ⟨some .ret, _, by have := run_endLoop (P := P) hl (by rw [hrc]; simp); rw [hrc] at this; exact this, hstop pre _ hSp (hIx _ _ _ _ hi (grownBy_putObj' _ _ _) (fun r e => by cases e; exact .inr (.inl rfl))) ((World.putObj_heap_other (by omega)).trans hd)⟩
end
end
section
open Go.RowKit
section
variable {P : Program}
theorem op_in {l : Nat} {o : Oper} {a : Act} {w : World} {K : Act → World → Prop} {Q : Exit → Act → World → Prop} (hd : ∀ c, o.op ≠ .defer c) (h : o.wp P a w K Q) : o.wpIn (Fence.wide.inRound l) 0 P a w K Q := by
  refine ⟨fun _ _ => trivial, ?_⟩
  rw [show (Fence.wide.inRound l).round = some l from rfl, Oper.semAt_some l _ o hd]
  unfold Oper.wp at h
  generalize (execOp a.eval o).run P w = r at h
  have hno : ¬ (Fence.wide.inRound l).depth.isSome = true := by simp [Fence.wide]
  unfold Oper.upon at h
  unfold Oper.uponIn
  split at h
  · exact h
  · exact h
  · exact h
  · exact ⟨fun e => absurd e hno, CallsIn.inRound l (callsIn_wide.2 h)⟩
  · exact ⟨fun e => absurd e hno, fun c cs _ => let ⟨v, w', r, s⟩ := h c cs; ⟨v, w', r, stepsIn_wide.2 s⟩⟩
  · exact h
  · exact h.elim
theorem any_in {l : Nat} {md : Region.Mode} {ops : Array Oper} {Q : Exit → Act → World → Prop} (hd : ∀ (i : Nat) (o : Oper), ops[i]? = some o → ∀ c, o.op ≠ .defer c) (hQ : ¬ LetsOut Q) : ∀ (fuel : Nat) (listed : Array Bool) (a : Act) (w : World), wpAny P md ops Q fuel listed a w → wpAnyIn (Fence.wide.inRound l) 0 P md ops Q fuel listed a w
  | 0, _, _, _, h => h
  | fuel + 1, listed, a, w, h => by
    refine ⟨h.1, fun i hi => ?_⟩
    have h2 := h.2 i hi
    unfold wpOp at h2
    unfold wpOpIn
    cases ho : ops[i]? with
    | none => rw [ho] at h2; exact any_in hd hQ fuel _ a w h2
    | some o =>
      rw [ho] at h2
      simp only at h2 ⊢
      split at h2
      · rename_i hw
        rw [if_pos hw]
        rcases h2 with h2 | ⟨_, h3⟩
        · exact op_in (hd i o ho) (Oper.wp_mono (fun a' w' h' => any_in hd hQ fuel _ a' w' h') h2)
        · exact absurd h3 hQ
      · rename_i hw
        rw [if_neg hw]
        exact ⟨fun _ _ => trivial, any_in hd hQ fuel _ _ w h2⟩
/-- such a region in a round, some loads taken first under S -/
theorem region_in {l id : Nat} {ops : Array Oper} {Q : Exit → Act → World → Prop} {S : World → Prop} {a : Act} {w : World} (hm : P.follows .mixedOrders = true) (hd : (ops.all fun o => match o.op with | .defer _ => false | _ => true) = true) (hQ : ¬ LetsOut Q)
    (h : wpAnyH P .any ops Q S ops.size (Array.replicate ops.size false) a w.drew) : (Code.region id ops true).wpIn (Fence.wide.inRound l) 0 P Q a w := by
  refine wpIn_region_any hm (any_in (fun i o ho c hc => ?_) hQ _ _ _ _ (wpAny_of_held _ _ _ _ h))
  have h1 := Array.all_eq_true_iff_forall_mem.1 hd o (Array.mem_of_getElem? ho)
  rw [hc] at h1
  cases h1
end
end
section
open Go.RowKit
attribute [local go_sem] Oper.semAt_some
def ptAt (l : List (Nat × Bool)) (k : Nat) : Array Value := #[.int .i64 (k : Int), .agg #[.int .i64 ((l.getD k (1, false)).1 : Int), .bool (l.getD k (1, false)).2]]
/-- the last ones, the last first -/
def lastOnes (n j : Nat) : List Nat := ((List.range n).drop j).reverse
theorem lastOnes_all (n : Nat) : lastOnes n n = [] := by simp [lastOnes]
theorem lastOnes_next (n j : Nat) (hj : j < n) : lastOnes n (j + 1) ++ [j] = lastOnes n j := by
  unfold lastOnes
  rw [List.drop_eq_getElem_cons (l := List.range n) (i := j) (by simpa using hj), List.reverse_cons]
  simp
theorem lastOnes_len (n j : Nat) : (lastOnes n j).length = n - j := by simp [lastOnes]
set_option maxHeartbeats 2000000 in
set_option maxRecDepth 100000 in
theorem back_seq (l : List (Nat × Bool)) (g bx : Nat) (w : World) (hl : l.length ≤ 12) (hbx : w.heap[bx]? = some (.cells #[slV g l.length] 100 (0, 0))) :
    SeqK Tryz.prog 202 #[.pointer (some ⟨bx, 0, none⟩)] (ptAt l) (fun _ k => k = bx) 0 (fun xs => xs = lastOnes l.length 0) (fun _ => True) (fun pre x => x < l.length ∧ pre = lastOnes l.length (x + 1)) (fun W => RowIs W g 234 (l.flatMap ptCells)) w := by
  intro lb J Jx W hW hJ hJx hK hY h0
  have hb1 : bx < w.heap.size := (Array.getElem?_eq_some_iff.1 hbx).1
  have k1 := (hW.block _ hb1).trans hbx
  obtain ⟨n, hn⟩ : ∃ n, n = l.length := ⟨_, rfl⟩
  have HN := hide hn
  rw [← hn] at hl k1 hY ⊢
  clear hn hbx
  have c1 : W.cell? ⟨bx, 0, none⟩ = some (.slice (some ⟨g, 0, none⟩) n n) := by rw [Lib.cell_of_heap k1]; rfl
  have hla : lastOnes n n = [] := lastOnes_all n
  refine callsIn_wide.1 (callsIn_of_wp (n := 0) Tryz.func202 rfl trivial ?_ rfl)
  simp only [Tryz.ntmps202, List.size_toArray, List.length_cons, List.length_nil, Nat.reduceAdd, Nat.reduceSub, Array.replicate_succ, Array.replicate_zero, List.push_toArray, List.append_toArray, List.nil_append, List.cons_append]
  gi_wp2
  gi_loopw [3] (fun i wr => ∃ j : Nat, j ≤ n ∧ i = .int .i64 ((j : Int) - 1) ∧ wr.heap[bx]? = some (.cells #[slV g n] 100 (0, 0)) ∧ W.heap.size ≤ wr.heap.size ∧ J (lastOnes n j) wr) (fun i _ => (intOf i + 1).toNat)
  case atStart => exact ⟨n, Nat.le_refl _, rfl, k1, Nat.le_refl _, by rw [hla]; exact h0⟩
  case round =>
    clear k1 c1
    obtain ⟨j, hj, rfl, k1, hsz, hJj⟩ := hrel
    have c1 : wr.cell? ⟨bx, 0, none⟩ = some (.slice (some ⟨g, 0, none⟩) n n) := by rw [Lib.cell_of_heap k1]; rfl
    cases j with
    | zero =>
      gi_wp2_with fail
      go_end0
      exact ⟨⟨_, rfl⟩, .inl ⟨_, rfl, hJj⟩⟩
    | succ j =>
      have hjl : j < l.length := by rw [← HN.out]; omega
      obtain ⟨p0, p1⟩ := pt_cell (hK _ _ hJj) j hjl
      have hgd : l.getD j (1, false) = l[j] := by simp [hjl]
      obtain ⟨fn, tmps, assign, body, hy, hR⟩ := hY (lastOnes n (j + 1)) j wr hJj ⟨by omega, rfl⟩ (by omega)
      unfold ptAt at hy
      rw [hgd] at hy
      have HR := hide hR
      have HNX := hide (lastOnes_next n j (by omega))
      have hjn : (j : Int) < (n : Int) := by omega
      have e1 : ((j + 1 : Nat) : Int) - 1 = (j : Int) := by omega
      rw [e1]
      clear hR e1 hgd
      generalize l[j] = x at *
      gi_wp2_with fail
      refine ⟨rfl, (round_any HR.out).mono ?_⟩
      rintro e W' (⟨rfl, hJ', hk⟩ | ⟨rfl, hJx', hk⟩)
      · have g1 := (hk.2 bx rfl).trans k1
        have hs' := hk.1
        rw [HNX.out] at hJ'
        have HJ' := hide hJ'
        have G1 := hide g1
        clear hJ' hk g1 hY HR hy hK hJj k1
        gi_wp2_with fail
        exact ⟨⟨j, by omega, by go_num, G1.out, by omega, HJ'.out⟩, by simp [intOf]⟩
      · gi_wp2_with fail
        refine bodyPost_ret_by (v := .tuple #[]) ?_ rfl ⟨⟨_, rfl⟩, .inr ⟨_, trivial, hJx'⟩⟩
        simp [results, Tryz.results202, go_sem]
theorem Backward_any (lv : Value) (a : Option Addr) (n c : Nat) (h : lv = .slice a n c) (w : World) : Calls Tryz.prog 164 #[lv] w fun e w' => e = .returned (.func (.func 202) #[] #[.pointer (some ⟨w.heap.size, 0, none⟩)]) ∧ w' = w.alloc (.cells #[lv] 100) := by
  subst h
  have hmf : ∀ (fn : Fn) (first cap : Array Value) (w : World), (Instr.makeFunc fn first cap).run Tryz.prog w = .ok (.func fn first cap) w := fun _ _ _ _ => rfl
  go_enter Tryz.func164, Tryz.ntmps164
  go_wp2_with fail
  go_ret
  exact ⟨rfl, rfl⟩
end
end Go.Proofs.YtgldbliohpfljaaGreatDoor
