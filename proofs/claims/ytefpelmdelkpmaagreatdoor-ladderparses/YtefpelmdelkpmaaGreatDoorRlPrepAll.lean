/-
  The walk of package ladder's Edges: the names whose edges some rung asks for. What the document's ProgramParse leans on: words, and the words for kinds, as it reads them.
-/
import Derived.Test.YtefpelmdelkpmaaGreatDoorLdKindAll
import Derived.Test.YtefpelmdelkpmaaGreatDoorRtBoundAll
import Derived.Test.YtefpelmdelkpmaaGreatDoorLdParseW
import Derived.Test.YtefpelmdelkpmaaGreatDoorLdBack
import Derived.Test.YtefpelmdelkpmaaGreatDoorShelf2
import Derived.Laws.OwnMore
import Derived.Lib.AppendZeros
import Derived.Deep.RegionLaw
import Derived.Maps.AppendAt
import Derived.Test.YtefpelmdelkpmaaGreatDoorRlLineAll
import Derived.Test.YtefpelmdelkpmaaGreatDoorRlRd
import Derived.Test.YtefpelmdelkpmaaGreatDoorRlWords
import Derived.Test.YtefpelmdelkpmaaGreatDoorRlTextAll
namespace Go.Proofs.YtefpelmdelkpmaaGreatDoor
section
open Go.RowKit
/-- an append whose run is known, at a step of a region that draws its order -/
theorem step_append_run {P : Program} (w : World) {ops : Array Oper} {o : Oper} {a : Act} {K : Act → World → Prop} {Q : Exit → Act → World → Prop} {E : Prop} (hgd : o.guard = none) (s x : Operand) (t tn : TypeId)
    (ho : o.op = .call { callee := .builtin .append, args := #[s, x], argTypes := #[t, tn] }) (vs vx : Value) (hs : a.eval s = vs) (hx : a.eval x = vx)
    (v' : Value) (w' : World) (hr : (Builtin.append_ #[t, tn] o.type #[vs, vx]).run P w = .ok v' w') (h : K (a.put o.dst v') w') : if Region.wanted o (yielded ops a.tmps) = true then Oper.wp P o a w K Q else E := by
  have hw : Region.wanted o (yielded ops a.tmps) = true := by simp [Region.wanted, hgd]
  rw [if_pos hw]
  exact Lib.wp_append_run w s x t tn ho vs vx hs hx v' w' hr h
/-- nothing is appended -/
theorem append_zero {W : World} (base : Nat) (t ty e : TypeId) (i : TypeInfo) (size : Nat) (ht : Tryz.prog.underlying t = some (.slice e)) (hi : Tryz.prog.info? e = some i) (v : Value) (n : Nat) (xs : List Value) (hown : W.ownsRow base e size v n xs) (a : Option Addr) (c : Nat) :
    (Builtin.append_ #[t, t] ty #[v, .slice a 0 c]).run Tryz.prog W = .ok v W := by
  rcases hown.2 with ⟨rfl, rfl⟩ | ⟨g, cap, cur, rfl, _, _, hnc, _⟩
  · cases a <;> simp [Builtin.append_, run_underlying ht, sizeOf, typeInfo, hi, Builtin.lenOf, Builtin.firstCells, loadCells, loadCellsFrom]
  · cases a <;> simp [Builtin.append_, run_underlying ht, sizeOf, typeInfo, hi, Builtin.lenOf, Builtin.firstCells, hnc, storeCells, loadCells, loadCellsFrom]
theorem Tryz.infoStrL : (Tryz.prog.info? 9).map (fun i => (i.zero, i.size, i.bytes)) = some (some (.string ⟨#[]⟩), 1, 16) := by kernel_rfl
/-- strings are appended to an own row -/
theorem append_strs {W : World} (base : Nat) (ty : TypeId) (v sv : Value) (xs ss : List ByteArray) (hown : W.ownsRow base 9 1 v xs.length (xs.map .string)) (hs : Strs W sv ss) (hb : base ≤ W.heap.size) (hx : xs.length ≤ 100000000) :
    ∃ v' W', (Builtin.append_ #[74, 74] ty #[v, sv]).run Tryz.prog W = .ok v' W' ∧ W'.ownsRow base 9 1 v' (xs ++ ss).length ((xs ++ ss).map .string) ∧ W.grownBy W' v.ownBlock := by
  obtain ⟨i0, hi0, hz0, hz1, hz2⟩ := info_parts Tryz.infoStrL
  rcases hs with ⟨rfl, a, c, rfl⟩ | ⟨g, o, cap, rfl, hcap, hl, hcell⟩
  · exact ⟨v, W, append_zero base _ ty _ i0 1 Tryz.underlying74 hi0 v _ _ hown a c, by simpa using hown, ⟨rfl, rfl, rfl, Nat.le_refl _, fun _ _ _ => rfl⟩⟩
  · obtain ⟨v', W', h1, h2, h3, _⟩ := run_append_own_at (P := Tryz.prog) W base 74 ty 9 i0 _ 1 16 Tryz.underlying74 hi0 hz0 hz1 hz2 rfl (by decide) v xs.length (xs.map .string) hown ⟨g, o, none⟩ ss.length cap (ss.map .string) (by simp) (fun j u hu => by
        rw [List.getElem?_map] at hu
        cases hj : ss[j]? with
        | none => rw [hj] at hu; cases hu
        | some b =>
          rw [hj] at hu
          cases hu
          have := hcell j b hj
          cases j <;> simpa [Addr.add] using this) (fun u hu => by
        obtain ⟨b, _, rfl⟩ := List.mem_map.1 hu
        rfl) (by unfold maxLen; omega) (by omega) hb
    exact ⟨v', W', h1, by rw [List.length_append, List.map_append]; exact h2, h3⟩
namespace Ld
/-- the names whose edges the first k rungs ask for, rung by rung in order -/
def askedTo (p : Prg) (k : Nat) : List ByteArray := ((p.rungs.take k).map fun r => (ordered (asksR r)).map toBA).flatten
theorem askedTo_succ (p : Prg) (k : Nat) (hk : k < p.rungs.length) : askedTo p (k + 1) = askedTo p k ++ (ordered (asksR p.rungs[k])).map toBA := by
  unfold askedTo
  rw [List.take_succ_eq_append_getElem hk, List.map_append, List.flatten_append]
  simp
theorem mem_askedTo (p : Prg) (s : List UInt8) : toBA s ∈ askedTo p p.rungs.length ↔ s ∈ asked p := by
  unfold askedTo asked
  rw [List.take_length]
  constructor
  · intro h
    obtain ⟨l, hl, hs⟩ := List.mem_flatten.1 h
    obtain ⟨r, hr, rfl⟩ := List.mem_map.1 hl
    obtain ⟨t, ht, e⟩ := List.mem_map.1 hs
    have e2 : t = s := by
      have := congrArg (fun b : ByteArray => b.data.toList) e
      simpa [toBA] using this
    subst e2
    exact List.mem_flatten.2 ⟨_, List.mem_map.2 ⟨r, hr, rfl⟩, (mem_ordered _ _).1 ht⟩
  · intro h
    obtain ⟨l, hl, hs⟩ := List.mem_flatten.1 h
    obtain ⟨r, hr, rfl⟩ := List.mem_map.1 hl
    exact List.mem_flatten.2 ⟨_, List.mem_map.2 ⟨r, hr, rfl⟩, List.mem_map.2 ⟨s, (mem_ordered _ _).2 hs, rfl⟩⟩
end Ld
namespace Ld
theorem askedTo_len (p : Prg) (B : Nat) (h : ∀ r, r ∈ p.rungs → (asksR r).length ≤ B) : ∀ k, k ≤ p.rungs.length → (askedTo p k).length ≤ k * B
  | 0, _ => by simp [askedTo]
  | k + 1, hk => by
    have ih := askedTo_len p B h k (by omega)
    have h1 := h p.rungs[k] (List.getElem_mem _)
    have h2 := ordered_le (asksR p.rungs[k])
    rw [askedTo_succ p k (by omega), List.length_append, List.length_map, Nat.add_mul, Nat.one_mul]
    omega
theorem asks_len {w : World} {sv : Value} {p : Prg} (hr : RungsAt w sv p.rungs) : ∀ r, r ∈ p.rungs → (asksR r).length ≤ 1000000 := by
  intro r hm
  rcases hr with ⟨h0, _⟩ | ⟨g, cap, _, _, _, h9⟩
  · rw [h0] at hm; simp at hm
  · obtain ⟨i, hi⟩ := List.getElem?_of_mem hm
    obtain ⟨u, _, _, _, _, _, hcd⟩ := h9 i r hi
    unfold asksR
    cases hc : r.cond with
    | none => simp
    | some x =>
      rw [hc] at hcd
      exact Nat.le_trans (Ex.named_le false x) hcd.2.1
end Ld
theorem contains_any (q : Nat) (sv : Value) (ss : List ByteArray) (x : ByteArray) (w : World) (h : w.ownsRow q 9 1 sv ss.length (ss.map .string)) (hl : ss.length ≤ 100000000) :
    Calls Tryz.prog 40 #[sv, .string x] w fun e w' => e = .returned (.bool (Lib.containsS ss x)) ∧ w' = w := by
  rcases h.2 with ⟨rfl, h0⟩ | ⟨g, cap, cur, rfl, _, hcur, _, _, _, htk⟩
  · refine (Tryz.slices_Contains_string_empty none 0 x w).mono ?_
    rintro e w' ⟨rfl, rfl⟩
    rw [List.length_eq_zero_iff.1 h0]
    exact ⟨rfl, rfl⟩
  · refine (Tryz.slices_Contains_string g 0 ss.length cap ss x w (Nat.le_refl _) (by omega) (fun j hj => ?_)).mono ?_
    · rw [Nat.zero_add]
      exact row_cell hcur htk (by rw [List.getElem?_map, List.getElem?_eq_getElem hj]; simp [hj])
    · rintro e w' ⟨rfl, rfl⟩
      rw [List.take_length]
      exact ⟨rfl, rfl⟩
set_option maxHeartbeats 2000000 in
theorem edges1_ask (q b : Nat) (ss : List ByteArray) (n : Ld.Nme) (w : World) (sv : Value) (hc : w.cell? ⟨b, 0, none⟩ = some sv) (h : w.ownsRow q 9 1 sv ss.length (ss.map .string)) (hl : ss.length ≤ 100000000) :
    Calls Tryz.prog 39 #[.agg #[.string ⟨n.name.toArray⟩, .int .i64 n.kind, .int .i64 n.count], .pointer (some ⟨b, 0, none⟩)] w fun e w' => e = .returned (.bool (Lib.containsS ss (toBA n.name))) ∧ Below w.heap.size w w' := by
  obtain ⟨nm, k, c⟩ := n
  have hlt : b < w.heap.size := World.block_lt_of_cell? _ _ hc
  have HC := hide (contains_any q sv ss (toBA nm) _ (h.alloc (.cells #[.string ⟨nm.toArray⟩, .int .i64 k, .int .i64 c] 34)) hl)
  obtain ⟨sa, sc, rfl⟩ := own_slice h
  clear h
  go_enter Tryz.func39, Tryz.ntmps39
  go_wp2_with fail
  refine HC.out.mono ?_
  rintro e w' ⟨rfl, rfl⟩
  go_wp2_with fail
  go_ret
  exact ⟨rfl, (Below.refl _ _).alloc (Nat.le_refl _) _⟩
set_option maxHeartbeats 8000000 in
set_option maxRecDepth 100000 in
theorem LEdges_any (p : Ld.Prg) (v : Value) (w : World) (h : IsPrg w p v) (hck : Ld.check p = none) :
    Calls Tryz.prog 15 #[v] w fun e w' => ∃ u, e = .returned u ∧ w'.ownsRow w.heap.size 3 1 u (Ld.edges p).length ((Ld.edges p).map intV) ∧ Below w.heap.size w w' := by
  have hmf : ∀ (fn : Fn) (first cap : Array Value) (w : World), (Instr.makeFunc fn first cap).run Tryz.prog w = .ok (.func fn first cap) w := fun _ _ _ _ => rfl
  have HPR := hide h
  have HCK := hide hck
  obtain ⟨nv, rv, rfl, hn, hr⟩ := h
  have HNA := hide hn
  have HRA := hide hr
  obtain ⟨na, nc, rfl, _⟩ := hn.slice
  obtain ⟨ra, rc, rfl, _⟩ := hr.slice
  have h40 := (Ld.check_names p hck).2.1
  have HLEN : Hid (∀ k, k ≤ p.rungs.length → (Ld.askedTo p k).length ≤ 100000000) := fun k hk => by have := Ld.askedTo_len p 1000000 (Ld.asks_len hr) k hk; omega
  obtain ⟨n, hnn⟩ : ∃ n, n = p.names.length := ⟨_, rfl⟩
  obtain ⟨m, hmm⟩ : ∃ m, m = p.rungs.length := ⟨_, rfl⟩
  have HN := hide hnn
  have HM := hide hmm
  rw [← hnn] at HPR HNA ⊢
  rw [← hmm] at HPR HRA h40 HLEN ⊢
  clear hn hr hnn hmm hck
  obtain ⟨wA, hwA⟩ : ∃ wA, wA = w.alloc (.cells #[.slice na n nc, .slice ra m rc] 28) := ⟨_, rfl⟩
  have hbA : Below w.heap.size w wA := by rw [hwA]; exact (Below.refl _ _).alloc (Nat.le_refl _) _
  have hsA : wA.heap.size = w.heap.size + 1 := by rw [hwA]; simp
  have hA : wA.heap[w.heap.size]? = some (.cells #[.slice na n nc, .slice ra m rc] 28 (0, 0)) := by rw [hwA]; exact heap_alloc_new _ _
  have HBX : Hid (∀ (W : World), Below wA.heap.size wA W → W.cell? ⟨w.heap.size, 0, none⟩ = some (.slice na n nc) ∧ W.cell? ⟨w.heap.size, 1, none⟩ = some (.slice ra m rc) ∧ Below w.heap.size w W) := by
    intro W hW
    have e0 := (hW.block w.heap.size (by omega)).trans hA
    exact ⟨by rw [Lib.cell_of_heap e0]; rfl, by rw [Lib.cell_of_heap e0]; rfl, hbA.trans (hW.mono (by omega))⟩
  have HKC := hide (Check_any p _ wA (HPR.out.below hbA))
  rw [HCK.out, hwA] at HKC
  have HWA := hide hwA
  have HSA := hide hsA
  clear hwA hbA hA hsA
  go_enter Tryz.func15, Tryz.ntmps15
  go_wp2_with fail
  refine HKC.out.mono ?_
  rintro e w1 ⟨er, rfl, her, hb1⟩
  obtain rfl : er = .nilIface := her
  rw [← HWA.out] at hb1
  have HB1 := hide hb1
  obtain ⟨c0, c1, hw1⟩ := HBX.out w1 hb1
  have hw1l : w.heap.size < w1.heap.size := World.block_lt_of_cell? _ _ c0
  clear hb1 HKC hw1
  obtain ⟨w2, hw2⟩ : ∃ w2, w2 = w1.alloc (.cells #[.slice none 0 0] 74) := ⟨_, rfl⟩
  have hb2 : Below w1.heap.size w1 w2 := by rw [hw2]; exact (Below.refl _ _).alloc (Nat.le_refl _) _
  have hv2 : w2.heap[w1.heap.size]? = some (.cells #[.slice none 0 0] 74 (0, 0)) := by rw [hw2]; exact heap_alloc_new _ _
  have hs2 : w2.heap.size = w1.heap.size + 1 := by rw [hw2]; simp
  have HV2 := hide hv2
  have HB2 := hide hb2
  clear hv2 hb2
  go_wp2_with fail
  rw [← hw2]
  clear hw2
  go_loopw [12] (fun i wr => ∃ k : Nat, k ≤ m ∧ i = .int .i64 (k : Int) ∧ Hid (∃ sv, wr.heap[w1.heap.size]? = some (.cells #[sv] 74 (0, 0)) ∧ wr.ownsRow (w1.heap.size + 1) 9 1 sv (Ld.askedTo p k).length ((Ld.askedTo p k).map .string)) ∧ Hid (Below w1.heap.size w1 wr) ∧ w1.heap.size < wr.heap.size) (fun i _ => m - (intOf i).toNat)
  case atStart => exact ⟨0, Nat.zero_le _, rfl, ⟨_, HV2.out, World.ownsRow_nil _ _ _ _⟩, HB2.out, by omega⟩
  case round =>
    obtain ⟨k, hk, rfl, HI, HBR, hzr⟩ := hrel
    obtain ⟨sv, hvr, hown⟩ := HI.out
    obtain ⟨sva, svc, rfl⟩ := own_slice hown
    have hbr' : Below wA.heap.size wA wr := HB1.out.trans (HBR.out.mono HB1.out.size)
    obtain ⟨d0, d1, hbw⟩ := HBX.out wr hbr'
    have HBW := hide hbw
    have HBA := hide hbr'
    clear HI hbw hbr' c0 c1
    by_cases hlt : k < m
    · have hkl : k < p.rungs.length := by rw [← HM.out]; exact hlt
      obtain ⟨g, hra, hca, u, e1, e2, e3, _, _, e6⟩ : ∃ g, ra = some ⟨g, 0, none⟩ ∧ m ≤ rc ∧ RungAt wr g k p.rungs[k] := by
        rcases HRA.out.below HBW.out with ⟨h0, _⟩ | ⟨g, cap, h1, h2, h3, h4⟩
        · rw [h0] at hkl; simp at hkl
        · simp only [Value.slice.injEq] at h1
          exact ⟨g, h1.1, by rw [h1.2.2, h1.2.1]; exact h2, h4 k _ (List.getElem?_eq_getElem hkl)⟩
      subst hra
      obtain ⟨_, _, _, x, q4, _⟩ := (Ld.check_names p HCK.out).2.2.2 _ (List.getElem_mem hkl)
      have HSU0 := hide (Ld.askedTo_succ p k hkl)
      have hak := HLEN.out k hk
      generalize p.rungs[k] = y at *
      obtain ⟨yk, ynm, yc⟩ := y
      simp only at e1 e2 e3 q4 e6
      subst q4
      have HSU : Hid (Ld.askedTo p (k + 1) = Ld.askedTo p k ++ (ordered (x.named false)).map toBA) := HSU0.out
      clear HSU0
      obtain ⟨hx, hxs, hxt⟩ := e6
      obtain ⟨tu, yu, hiu⟩ := IsEx.iface x u hx
      subst hiu
      have hgl : g < wr.heap.size := World.block_lt_of_cell? _ _ e1
      obtain ⟨wR, hwR⟩ : ∃ wR, wR = wr.alloc (.cells #[.int .i64 yk, .string ⟨ynm.toArray⟩, .iface tu yu] 44) := ⟨_, rfl⟩
      have hbR : Below wr.heap.size wr wR := by rw [hwR]; exact (Below.refl _ _).alloc (Nat.le_refl _) _
      have hR : wR.heap[wr.heap.size]? = some (.cells #[.int .i64 yk, .string ⟨ynm.toArray⟩, .iface tu yu] 44 (0, 0)) := by rw [hwR]; exact heap_alloc_new _ _
      have x0 : wR.cell? ⟨w1.heap.size, 0, none⟩ = some (.slice sva (Ld.askedTo p k).length svc) := by rw [hbR.cell (p := ⟨w1.heap.size, 0, none⟩) hzr, Lib.cell_of_heap hvr]; rfl
      have x1 : wR.cell? ⟨wr.heap.size, 2, none⟩ = some (.iface tu yu) := by rw [Lib.cell_of_heap hR]; rfl
      have hbRd : Below wr.heap.size wr wR.drew := ⟨hbR.os, hbR.tape, hbR.output, hbR.size, hbR.block⟩
      have HED := hide (Edges_any _ x _ wR.drew (hx.aft hbRd) hxs)
      have HBR2 := hide hbRd
      have HCALL : Hid (∀ (w3 : World) (sv2 : Value), Strs w3 sv2 ((ordered (x.named false)).map toBA) → Below wR.drew.heap.size wR.drew w3 → ∃ va vc w4, (Builtin.append_ #[74, 74] 74 #[.slice sva (Ld.askedTo p k).length svc, sv2]).run Tryz.prog w3 = .ok (.slice va (Ld.askedTo p (k + 1)).length vc) w4 ∧
          (w3.cell? ⟨w1.heap.size, 0, none⟩ = some (.slice sva (Ld.askedTo p k).length svc) ∧ w3.frozen? ⟨w1.heap.size, 0, none⟩ = false) ∧ (w4.cell? ⟨w1.heap.size, 0, none⟩ = some (.slice sva (Ld.askedTo p k).length svc) ∧ w4.frozen? ⟨w1.heap.size, 0, none⟩ = false) ∧
          ((w4.setCell ⟨w1.heap.size, 0, none⟩ (.slice va (Ld.askedTo p (k + 1)).length vc)).heap[w1.heap.size]? = some (.cells #[(.slice va (Ld.askedTo p (k + 1)).length vc)] 74 (0, 0)) ∧ (w4.setCell ⟨w1.heap.size, 0, none⟩ (.slice va (Ld.askedTo p (k + 1)).length vc)).ownsRow (w1.heap.size + 1) 9 1 (.slice va (Ld.askedTo p (k + 1)).length vc) (Ld.askedTo p (k + 1)).length ((Ld.askedTo p (k + 1)).map .string) ∧ Below w1.heap.size w1 (w4.setCell ⟨w1.heap.size, 0, none⟩ (.slice va (Ld.askedTo p (k + 1)).length vc)) ∧ w1.heap.size < (w4.setCell ⟨w1.heap.size, 0, none⟩ (.slice va (Ld.askedTo p (k + 1)).length vc)).heap.size)) := by
        intro w3 sv2 hss hb3
        have hb03 : Below wr.heap.size wr w3 := hbRd.trans (hb3.mono hbRd.size)
        have hz3 := hb03.size
        obtain ⟨v', w4, h1, h2, h3⟩ := append_strs (w1.heap.size + 1) 74 _ sv2 _ _ (own_below hown hb03) hss (by omega) hak
        have hv3 : w3.heap[w1.heap.size]? = some (.cells #[.slice sva (Ld.askedTo p k).length svc] 74 (0, 0)) := (hb03.block _ hzr).trans hvr
        have hlb : ∀ j, (Value.slice sva (Ld.askedTo p k).length svc).ownBlock = some j → w1.heap.size + 1 ≤ j := fun j e => (hown.lt j e).1
        have hv4 : w4.heap[w1.heap.size]? = some (.cells #[.slice sva (Ld.askedTo p k).length svc] 74 (0, 0)) := (h3.block _ (by omega) (fun e => by have := hlb _ e.symm; omega)).trans hv3
        have hz4 := h3.size
        rw [← HSU.out] at h2
        obtain ⟨va, vc, rfl⟩ := own_slice h2
        refine ⟨va, vc, w4, h1, ⟨by rw [Lib.cell_of_heap hv3]; rfl, Lib.frozen_of_heap hv3 0⟩, ⟨by rw [Lib.cell_of_heap hv4]; rfl, Lib.frozen_of_heap hv4 0⟩, ?_, ?_, ?_, ?_⟩
        · simp [World.setCell, Array.getElem?_modify, hv4]
        · exact own_moved h2 (fun j hj _ => Below.heap_setCell _ _ _ _ (fun e => by simp at e; omega))
        · have hb04 : Below w1.heap.size w1 w4 := (HBR.out.trans (hb03.mono HBR.out.size)).grown h3 (by omega) (fun j e => by have := hlb j e; omega)
          exact hb04.setCell (p := ⟨w1.heap.size, 0, none⟩) (Nat.le_refl _) _
        · simp [World.setCell]; omega
      clear hbR hbRd hR hx hown
      go_wp2_with fail
      rw [← hwR]
      clear hwR
      go_region_law (first | (refine step_append_run w3 rfl (.tmp 16) (.tmp 19) 74 74 rfl (.slice sva (Ld.askedTo p k).length svc) sv2 rfl rfl (.slice va (Ld.askedTo p (k + 1)).length vc) w4 HAPP.out ?_) | (go_simp; go_at_call 38; refine HED.out.mono ?_; rintro e w3 ⟨sv2, rfl, hss, hb3⟩; obtain ⟨va, vc, w4, happ, ⟨y0, y1⟩, ⟨y2, y3⟩, hfin⟩ := HCALL.out w3 sv2 hss hb3; have HAPP := hide happ; have HFIN := hide hfin; clear hss hb3 hfin happ))
      all_goals go_wp2_with fail
      all_goals
        obtain ⟨r1, r2, r3, r4⟩ := HFIN.out
        exact ⟨⟨k + 1, by omega, by go_num, ⟨_, r1, r2⟩, r3, r4⟩, by simp [intOf]; omega⟩
    · have hkm : k = m := by omega
      have hak := HLEN.out k hk
      have HED : Hid (∀ y : Ld.Nme, Lib.containsS (Ld.askedTo p k) (toBA y.name) = (Ld.asked p).contains y.name) := by
        intro y
        rw [Bool.eq_iff_iff, Lib.containsS_iff, List.contains_iff_mem, hkm, HM.out]
        exact Ld.mem_askedTo p y.name
      have HNU := hide (numbers_any p.names (.slice na n nc) (.slice ra m rc) (.func (.func 39) #[] #[.pointer (some ⟨w1.heap.size, 0, none⟩)]) (fun y => (Ld.asked p).contains y.name) wr (HNA.out.below HBW.out) ⟨_, _, _, rfl⟩
        ⟨39, _, rfl, fun _ _ => by kernel_rfl, fun y W hW hy => by
          have h1 := edges1_ask (w1.heap.size + 1) w1.heap.size (Ld.askedTo p k) y W _ ((hW.cell (p := ⟨w1.heap.size, 0, none⟩) hzr).trans (by rw [Lib.cell_of_heap hvr]; rfl)) (own_below hown hW) hak
          rw [HED.out y] at h1
          exact h1⟩)
      clear hown hvr
      subst hkm
      go_wp2_with fail
      refine HNU.out.mono ?_
      rintro e w3 ⟨u, rfl, hown, hb3⟩
      have hown' : w3.ownsRow w.heap.size 3 1 u (Ld.edges p).length ((Ld.edges p).map intV) := own_mono hown HBW.out.size
      have HO := hide hown'
      have HB3 := hide (HBW.out.trans (hb3.mono HBW.out.size))
      obtain ⟨ua, uc, rfl⟩ := own_slice hown'
      clear hown hown' hb3 HNU
      go_wp2_with fail
      go_ret
      exact ⟨_, rfl, HO.out, HB3.out⟩
end
section
open Go.RowKit
/-- the document's words for kinds, all of them, as they are laid -/
def RWds (w : World) : Prop := ∃ b1 o1 cw1 b2 o2 cw2, (w.cell? ⟨1, 0, none⟩ = some (.slice (some ⟨b1, o1, none⟩) 5 cw1) ∧ 5 ≤ cw1 ∧ ∀ k, k < 5 → w.cell? ⟨b1, o1 + k, none⟩ = some (.string ⟨(Ld.nameW k).toArray⟩)) ∧ (w.cell? ⟨2, 0, none⟩ = some (.slice (some ⟨b2, o2, none⟩) 7 cw2) ∧ 7 ≤ cw2 ∧ ∀ k, k < 7 → w.cell? ⟨b2, o2 + k, none⟩ = some (.string ⟨(Ld.rungW k).toArray⟩))
theorem RWds.words {w : World} (h : RWds w) : RWords w := by
  obtain ⟨b1, o1, cw1, b2, o2, cw2, h1, h2, h4, h3⟩ := h
  exact ⟨b1, o1, cw1, b2, o2, cw2, h1, h2, h4, fun k _ hk => h3 k hk⟩
theorem RWds.below {w w' : World} (h : RWds w) (hb : Below w.heap.size w w') : RWds w' := by
  obtain ⟨b1, o1, cw1, b2, o2, cw2, ⟨h1, h5, h2⟩, h3, h6, h4⟩ := h
  have key : ∀ (p : Addr) v, w.cell? p = some v → w'.cell? p = some v := fun p v hv => (hb.cell (World.block_lt_of_cell? _ _ hv)).trans hv
  exact ⟨b1, o1, cw1, b2, o2, cw2, ⟨key _ _ h1, h5, fun k hk => key _ _ (h2 k hk)⟩, key _ _ h3, h6, fun k hk => key _ _ (h4 k hk)⟩
theorem RWds.names {w : World} (h : RWds w) : ∃ sv, w.cell? ⟨1, 0, none⟩ = some sv ∧ (∃ a n c, sv = .slice a n c) ∧ Strs w sv (Ld.nameL.map toBA) := by
  obtain ⟨b1, o1, cw1, b2, o2, cw2, ⟨h1, h5, h2⟩, _⟩ := h
  refine ⟨_, h1, ⟨_, _, _, rfl⟩, .inr ⟨b1, o1, cw1, rfl, h5, by decide, fun k y hy => ?_⟩⟩
  have hk : k < 5 := by have := (List.getElem?_eq_some_iff.1 hy).1; simpa [Ld.nameL] using this
  rw [h2 k hk]
  have : k = 0 ∨ k = 1 ∨ k = 2 ∨ k = 3 ∨ k = 4 := by omega
  rcases this with rfl | rfl | rfl | rfl | rfl <;> (simp [Ld.nameL, toBA] at hy; rw [← hy])
theorem RWds.rungs {w : World} (h : RWds w) : ∃ sv, w.cell? ⟨2, 0, none⟩ = some sv ∧ (∃ a n c, sv = .slice a n c) ∧ Strs w sv (Ld.rungL.map toBA) := by
  obtain ⟨b1, o1, cw1, b2, o2, cw2, _, h1, h5, h2⟩ := h
  refine ⟨_, h1, ⟨_, _, _, rfl⟩, .inr ⟨b2, o2, cw2, rfl, h5, by decide, fun k y hy => ?_⟩⟩
  have hk : k < 7 := by have := (List.getElem?_eq_some_iff.1 hy).1; simpa [Ld.rungL] using this
  rw [h2 k hk]
  have : k = 0 ∨ k = 1 ∨ k = 2 ∨ k = 3 ∨ k = 4 ∨ k = 5 ∨ k = 6 := by omega
  rcases this with rfl | rfl | rfl | rfl | rfl | rfl | rfl <;> (simp [Ld.rungL, toBA] at hy; rw [← hy])
/-- what a program's reading leans on -/
structure PLaid (w : World) : Prop where
  r : RLaid w
  wd : RWds w
  errs : NumErrs w
  pows : Pows w
  low : 14 ≤ w.heap.size
theorem PLaid.below {w w' : World} (h : PLaid w) (hb : Below w.heap.size w w') : PLaid w' :=
  ⟨h.r.below hb, h.wd.below hb, h.errs.low hb h.low, h.pows.low hb h.low, Nat.le_trans h.low hb.size⟩
/-- words in memory, as one reads them -/
def WAt (w : World) (a : Option Addr) (c : Nat) (wl : List (List UInt8)) : Prop := ∀ (k : Nat) y, wl[k]? = some y → ∃ g, a = some ⟨g, 0, none⟩ ∧ wl.length ≤ c ∧ w.cell? ⟨g, k, none⟩ = some (.string ⟨y.toArray⟩)
theorem WAt.below {w w' : World} {a : Option Addr} {c : Nat} {wl : List (List UInt8)} (h : WAt w a c wl) (hb : Below w.heap.size w w') : WAt w' a c wl := fun k y hk => by
  obtain ⟨g, h1, h2, h3⟩ := h k y hk
  exact ⟨g, h1, h2, (hb.cell (World.block_lt_of_cell? _ _ h3)).trans h3⟩
theorem words_count (s : List UInt8) (hs : s.length ≤ 20000) : (Ld.words s).length ≤ 20001 := by
  have h : ∀ l : List UInt8, (Ld.split 32 l).length ≤ l.length + 1 := by
    intro l
    induction l with
    | nil => simp [Ld.split]
    | cons a r ih =>
      unfold Ld.split
      by_cases h : a = 32
      · rw [if_pos h]; simp; omega
      · rw [if_neg h]
        cases hs : Ld.split 32 r with
        | nil => simp
        | cons x t => rw [hs] at ih; simp at ih ⊢; omega
  unfold Ld.words
  exact Nat.le_trans (List.length_filter_le _ _) (Nat.le_trans (h s) (by omega))
theorem rwords2 (s : List UInt8) (w : World) (hs : s.length ≤ 20000) (hL : PLaid w) :
    Calls Tryz.prog 44 #[.string ⟨s.toArray⟩] w fun e w' => ∃ a c, e = .returned (.slice a (Ld.words s).length c) ∧ WAt w' a c (Ld.words s) ∧ Below w.heap.size w w' := by
  obtain ⟨m, hm⟩ := hL.r.len
  refine (rwords_any ⟨s.toArray⟩ m w (by simp [ByteArray.size]; omega) hm).mono ?_
  rintro e w' ⟨v, rfl, ho, hb⟩
  have e0 : (⟨s.toArray⟩ : ByteArray).data.toList = s := rfl
  rw [e0] at ho
  rcases ho.2 with ⟨rfl, h0⟩ | ⟨g, cap, cur, rfl, _, hcur, hcap, _, _, htk⟩
  · refine ⟨none, 0, by rw [h0], fun k y hk => ?_, hb⟩
    rw [List.length_eq_zero_iff.1 h0] at hk
    simp at hk
  · refine ⟨_, cap, rfl, fun k y hk => ⟨g, rfl, hcap, ?_⟩, hb⟩
    exact row_cell hcur htk (by rw [List.getElem?_map, hk]; rfl)
/-- what ProgramParse comes to -/
def RParsed (w : World) (res : (Nat × Option Nat) ⊕ Ld.Prg) (e : Ending) (w' : World) : Prop :=
  Below w.heap.size w w' ∧ match res with
    | .inl (er, pl) => e = .returned (.tuple #[.agg #[.slice none 0 0, .slice none 0 0], faultV (er : Int) (match pl with | none => -1 | some p => (p : Int))]) ∧ er ≠ 0
    | .inr p => ∃ nv rv, e = .returned (.tuple #[.agg #[nv, rv], faultV 0 (-1)]) ∧ IsRPrg w' p (.agg #[nv, rv]) ∧ Ld.check p = none
theorem RdY.start {w : World} {b q : Nat} {W : World} (hblk : W.heap[b]? = some (.cells #[.slice none 0 0, .slice none 0 0] 32 (0, 0))) (hlo : Below b w W) : RdY b q w [] [] [] [] (.slice none 0 0) (.slice none 0 0) (.slice none 0 0) (.slice none 0 0) [] W :=
  ⟨hblk, World.ownsRow_nil _ _ _ _, World.ownsRow_nil _ _ _ _, World.ownsRow_nil _ _ _ _, World.ownsRow_nil _ _ _ _, (fun _ e _ => by cases e), (fun _ => rfl), rfl, (fun i g v h => by simp at h), (fun n hn => by simp at hn), (fun n hn => by simp at hn), hlo⟩
/-- it stands where blocks below b turn -/
theorem RdY.moved {b q : Nat} {w0 : World} {ns : List Ld.Nme} {rs : List Ld.Rng} {ps gs : List Nat} {nv rv pv gv : Value} {vs : List Value} {W W' : World} (h : RdY b q w0 ns rs ps gs nv rv pv gv vs W) (hbq : b < q) (hk : ∀ k, b ≤ k → k < W.heap.size → W'.heap[k]? = W.heap[k]?) : RdY b q W' ns rs ps gs nv rv pv gv vs W' :=
  have key : ∀ k, q ≤ k → k < W.heap.size → W'.heap[k]? = W.heap[k]? := fun k h1 h2 => hk k (by omega) h2
  ⟨(hk b (Nat.le_refl _) h.lt).trans h.blk, own_moved h.on key, own_moved h.org key, own_moved h.op key, own_moved h.og key, h.ap, h.gnil, h.len, (fun i g v h1 h2 => by
    obtain ⟨x, l, p, e1, e2, e3, e4⟩ := h.ex i g v h1 h2
    refine ⟨x, l, p, e1, e2, e3, IsRx.stay ?_ (fun _ h => h) x p e4⟩
    intro k i u hok hc
    rw [World.cell?_of_block (w' := W') (w := W) (key k hok.1 (World.block_lt_of_cell? _ _ hc))]; exact hc), h.bn, h.br, Below.refl _ _⟩
/-- while a name is put: its place's row stands, behind the first append; the block, behind the second -/
theorem RdY.midP {b q : Nat} {w0 : World} {ns : List Ld.Nme} {rs : List Ld.Rng} {ps gs : List Nat} {nv rv pv gv : Value} {vs : List Value} {W W1 : World} (h : RdY b q w0 ns rs ps gs nv rv pv gv vs W) (o1 : Obj) (g1 : (W.alloc o1).grownBy W1 nv.ownBlock) : W1.ownsRow q 3 1 pv ps.length (ps.map intV) := (h.op.alloc o1).kept g1 (own_apart (h.op.alloc o1) (h.on.alloc o1) (by decide))
theorem RdY.midG {b q : Nat} {w0 : World} {ns : List Ld.Nme} {rs : List Ld.Rng} {ps gs : List Nat} {nv rv pv gv : Value} {vs : List Value} {W W1 : World} (h : RdY b q w0 ns rs ps gs nv rv pv gv vs W) (o1 : Obj) (g1 : (W.alloc o1).grownBy W1 rv.ownBlock) : W1.ownsRow q 3 1 gv gs.length (gs.map intV) := (h.og.alloc o1).kept g1 (own_apart (h.og.alloc o1) (h.org.alloc o1) (by decide))
theorem RdY.keepN {b q : Nat} {w0 : World} {ns : List Ld.Nme} {rs : List Ld.Rng} {ps gs : List Nat} {nv rv pv gv : Value} {vs : List Value} {W W1 W2 : World} (h : RdY b q w0 ns rs ps gs nv rv pv gv vs W) (hq : q ≤ W.heap.size) (o1 o2 : Obj) (g1 : (W.alloc o1).grownBy W1 nv.ownBlock) (g2 : (W1.alloc o2).grownBy W2 pv.ownBlock) (k : Nat) (hk : k < q) : W2.heap[k]? = W.heap[k]? := by
  have z1 := g1.size
  have z2 := g2.size
  rw [World.size_alloc] at z1 z2
  rw [g2.block k (by rw [World.size_alloc]; omega) (fun e => by have := (h.op.lt k e.symm).1; omega), Below.heap_alloc _ _ _ (by omega), g1.block k (by rw [World.size_alloc]; omega) (fun e => by have := (h.on.lt k e.symm).1; omega), Below.heap_alloc _ _ _ (by omega)]
theorem RdY.keepR {b q : Nat} {w0 : World} {ns : List Ld.Nme} {rs : List Ld.Rng} {ps gs : List Nat} {nv rv pv gv : Value} {vs : List Value} {W W1 W2 : World} (h : RdY b q w0 ns rs ps gs nv rv pv gv vs W) (hq : q ≤ W.heap.size) (o1 o2 : Obj) (g1 : (W.alloc o1).grownBy W1 rv.ownBlock) (g2 : (W1.alloc o2).grownBy W2 gv.ownBlock) (k : Nat) (hk : k < q) : W2.heap[k]? = W.heap[k]? := by
  have z1 := g1.size
  have z2 := g2.size
  rw [World.size_alloc] at z1 z2
  rw [g2.block k (by rw [World.size_alloc]; omega) (fun e => by have := (h.og.lt k e.symm).1; omega), Below.heap_alloc _ _ _ (by omega), g1.block k (by rw [World.size_alloc]; omega) (fun e => by have := (h.org.lt k e.symm).1; omega), Below.heap_alloc _ _ _ (by omega)]
/-- numbers are appended to an own row -/
theorem append_ints {W : World} (base : Nat) (ty : TypeId) (v sv : Value) (ps gs : List Nat) (hown : W.ownsRow base 3 1 v ps.length (ps.map intV)) (hs : W.ownsRow base 3 1 sv gs.length (gs.map intV)) (hb : base ≤ W.heap.size) (hx : ps.length ≤ 1000000) (hy : gs.length ≤ 1000000) :
    ∃ v' W', (Builtin.append_ #[56, 56] ty #[v, sv]).run Tryz.prog W = .ok v' W' ∧ W'.ownsRow base 3 1 v' (ps.length + gs.length) ((ps ++ gs).map intV) ∧ W.grownBy W' v.ownBlock := by
  obtain ⟨i0, hi0, hz0, hz1, hz2⟩ := info_parts Tryz.infoInt
  by_cases h0 : gs = []
  · subst h0
    obtain ⟨a, c, rfl⟩ := own_slice hs
    exact ⟨v, W, append_zero base _ ty _ i0 1 Tryz.underlying56 hi0 v _ _ hown a c, by simpa using hown, ⟨rfl, rfl, rfl, Nat.le_refl _, fun _ _ _ => rfl⟩⟩
  · rcases hs.2 with ⟨_, h1⟩ | ⟨g, cap, cur, rfl, _, hcur, hcap, _, _, htk⟩
    · exact (h0 (List.length_eq_zero_iff.1 h1)).elim
    · obtain ⟨v', W', h1, h2, h3, _⟩ := run_append_own_at (P := Tryz.prog) W base 56 ty 3 i0 _ 1 8 Tryz.underlying56 hi0 hz0 hz1 hz2 rfl (by decide) v ps.length (ps.map intV) hown ⟨g, 0, none⟩ gs.length cap (gs.map intV) (by simp) (fun j u hu => by
        have := row_cell hcur htk hu
        cases j <;> simpa [Addr.add] using this) (fun u hu => by
        obtain ⟨b, _, rfl⟩ := List.mem_map.1 hu
        rfl) (by unfold maxLen; omega) (by omega) hb
      exact ⟨v', W', h1, by rw [List.map_append]; exact h2, h3⟩
theorem Tryz.infoRName : (Tryz.prog.info? 35).map (fun i => (i.zero, i.size, i.bytes)) = some (some (.agg #[.string ⟨#[]⟩, .int .i64 0, .int .i64 0]), 3, 32) := by kernel_rfl
theorem Tryz.infoRRung : (Tryz.prog.info? 46).map (fun i => (i.zero, i.size, i.bytes)) = some (some (.agg #[.int .i64 0, .string ⟨#[]⟩, .pointer none]), 3, 32) := by kernel_rfl
end
end Go.Proofs.YtefpelmdelkpmaaGreatDoor
