/-
  The walks of inOrder, Names and Edges: the names in order of bytes, each once. Small facts of programs in memory: cells of names and rungs, rows of three, slices of texts. (Out of LdTakeN, LdRd, LdPrg, LdReads.) An append of nothing. (Out of LdEdges.) Rows of one's own: small facts. (Out of LdRd and LdTakeN.) The walk of slices.Clone at names. (Out of McCopied.) Rows of bools; all that is old stands, but for two rows. (Out of ScRung and ScStart: for seats without package scan.) The walks of package ladder's small functions, of slices.IndexFunc over names, and of Number.
-/
import Derived.Test.YtgdmohombcgjbaaGreatDoorNaNames
import Derived.Test.YtgdmohombcgjbaaGreatDoorNaEachAll
import Derived.Test.YtgdmohombcgjbaaGreatDoorShelf
import Derived.Sort.OwnSorted
import Derived.Test.YtgdmohombcgjbaaGreatDoorRoPrgAll
import Derived.Deep.AppendLies
import Derived.Deep.RegionHeld3
import Derived.Deep.RegionLaw
import Derived.Deep.RegionWith
import Derived.Lib.AppendStr
import Derived.Lib.OthersKept
import Derived.LoopIn
import Derived.LoopNIn
import Derived.Maps.AppendAt
import Derived.OwnWalkIn
import Derived.RangeFuncBound
import Derived.RangeFuncBox
import Derived.RangeFuncCalls
import Derived.RangeFuncLeaves
import Derived.RangeFuncNested
import Derived.TacticsInMore
import Derived.WalkKit
import Derived.WalkMore
import Derived.Laws.OwnMore
import Derived.Lib.AppendZeros
namespace Go.Proofs.YtgdmohombcgjbaaGreatDoor
section
open Go.RowKit
open Go.Sort
/-- in order of bytes, each once -/
def ordered (ns : List (List UInt8)) : List (List UInt8) := Lib.compact (ns.mergeSort fun x y => decide (x ≤ y))
def toBA (l : List UInt8) : ByteArray := ⟨l.toArray⟩
theorem mem_compactUpTo (d : Array (List UInt8)) : ∀ (i : Nat), i < d.size → ∀ m, i < m → d[i]! ∈ Lib.compactUpTo d m := by
  intro i
  induction i with
  | zero =>
    intro hi m hm
    unfold Lib.compactUpTo
    rw [List.mem_map]
    exact ⟨0, by rw [List.mem_filter]; exact ⟨List.mem_range.2 hm, Lib.keeps_lt_one d 0 (by decide)⟩, rfl⟩
  | succ i ih =>
    intro hi m hm
    by_cases h : d[i + 1]! = d[i]!
    · rw [h]; exact ih (by omega) m (by omega)
    · unfold Lib.compactUpTo
      rw [List.mem_map]
      exact ⟨i + 1, by rw [List.mem_filter]; exact ⟨List.mem_range.2 hm, Lib.keeps_pos (by simpa using h)⟩, rfl⟩
theorem mem_compact (l : List (List UInt8)) (x : List UInt8) : x ∈ Lib.compact l ↔ x ∈ l := by
  unfold Lib.compact
  constructor
  · intro h
    unfold Lib.compactUpTo at h
    rw [List.mem_map] at h
    obtain ⟨i, hi, rfl⟩ := h
    rw [List.mem_filter] at hi
    have hlt := List.mem_range.1 hi.1
    rw [getElem!_pos l.toArray i (by simpa using hlt)]
    simp
  · intro h
    obtain ⟨i, hi, rfl⟩ := List.getElem_of_mem h
    have := mem_compactUpTo l.toArray i (by simpa using hi) l.length hi
    rw [getElem!_pos l.toArray i (by simpa using hi)] at this
    simpa using this
theorem mem_ordered (ns : List (List UInt8)) (x : List UInt8) : x ∈ ordered ns ↔ x ∈ ns := by
  unfold ordered
  rw [mem_compact, List.mem_mergeSort]
theorem compact_le (l : List (List UInt8)) : (Lib.compact l).length ≤ l.length := by
  unfold Lib.compact Lib.compactUpTo
  rw [List.length_map]
  have := List.length_filter_le (Lib.keeps l.toArray) (List.range l.length)
  simpa using this
theorem ordered_le (ns : List (List UInt8)) : (ordered ns).length ≤ ns.length := by
  unfold ordered
  have := compact_le (ns.mergeSort fun x y => decide (x ≤ y))
  rwa [List.length_mergeSort] at this
set_option maxHeartbeats 1000000 in
set_option maxRecDepth 100000 in
theorem inOrder_any (B : Nat) (v : Value) (ns : List (List UInt8)) (w : World) (ho : w.ownsRow B 9 1 v ns.length (ns.map strV)) (hlen : ns.length ≤ 1000000) :
    Calls Tryz.prog 104 #[v] w fun e w' => ∃ sv, e = .returned sv ∧ Strs w' sv ((ordered ns).map toBA) ∧ w.grownBy w' v.ownBlock := by
  by_cases h0 : ns = []
  · subst h0
    obtain ⟨a, cap, rfl⟩ : ∃ a cap, v = .slice a 0 cap := by
      rcases ho.2 with ⟨hv, _⟩ | ⟨g, cap, cur, hv, _⟩
      · exact ⟨_, _, hv⟩
      · exact ⟨_, _, hv⟩
    clear ho
    have HE : Hid (ordered ([] : List (List UInt8)) = []) := by show _ = _; have := ordered_le []; exact List.length_eq_zero_iff.1 (by simpa using this)
    go_enter Tryz.func104, Tryz.ntmps104
    go_wp2_with fail
    refine (Tryz.slices_Sort_string_none a cap w).mono ?_
    rintro e w1 ⟨rfl, rfl⟩
    go_wp2_with fail
    refine (Tryz.slices_Compact_string_empty a cap w1).mono ?_
    rintro e w2 ⟨rfl, rfl⟩
    go_wp2_with fail
    go_ret
    exact ⟨.slice a 0 cap, rfl, .inl ⟨by rw [HE.out]; rfl, a, cap, rfl⟩, ⟨rfl, rfl, rfl, Nat.le_refl _, fun _ _ _ => rfl⟩⟩
  · rcases ho.2 with ⟨_, hn⟩ | ⟨g, cap, cur, rfl, hbg, hg, hnc, hcm, hcs, htake⟩
    · exact absurd (List.length_eq_zero_iff.1 hn) h0
    have hgs : g < w.heap.size := (Array.getElem?_eq_some_iff.1 hg).1
    have hH : Sort.Holds encStr w g 0 ns.toArray := by
      intro j hj
      have hj2 : j < ns.length := by simpa using hj
      have hc := ho.cells (g := g) rfl j (strV ns[j]) (by rw [List.getElem?_map, List.getElem?_eq_getElem hj2]; rfl)
      refine ⟨?_, Lib.frozen_of_heap hg _⟩
      rw [getElem!_pos ns.toArray j hj]
      rw [Nat.zero_add]
      have e : encStr ns.toArray[j] = strV ns[j] := by simp [encStr, strV]
      rw [e]
      cases j <;> simpa [Addr.add] using hc
    have HC := hide (Tryz.slices_Sort_string g 0 cap ns w hH hgs (by omega))
    have HH := hide hH
    clear ho hcs htake hg hH
    generalize hS : (ns.mergeSort fun x y => decide (x ≤ y)) = S at *
    have HS := hide hS
    have HSL : Hid (S.length = ns.length) := by show _ = _; rw [← hS, List.length_mergeSort]
    have HO : Hid (ordered ns = Lib.compact S) := by show _ = _; unfold ordered; rw [hS]
    have HLE := hide (compact_le S)
    clear hS
    generalize hn : ns.length = n at *
    have HN := hide hn
    clear hn
    go_enter Tryz.func104, Tryz.ntmps104
    go_wp2_with fail
    refine HC.out.mono ?_
    rintro e w1 ⟨rfl, q, os, hw1⟩
    have HW1 := hide hw1
    have hsz1 : w.heap.size ≤ w1.heap.size := by rw [hw1]; simp [Sort.ahead]
    have hH1 : Sort.Holds encStr w1 g 0 S.toArray := by
      rw [hw1]
      refine Sort.holds_grow _ _ _ _ _ _ (by simp [Sort.ahead]; exact hgs) (Sort.holds_putRow encStr (Sort.ahead w q) g 0 ns.toArray S.toArray (fun j hj => HH.out j hj) ?_)
      simp [HSL.out, HN.out]
    have HG1 : Hid (w.grownBy w1 (some g)) := by show World.grownBy _ _ _; rw [hw1]; exact grownBy_sorted _
    have HC2 := hide (Tryz.slices_Compact_string g 0 cap S w1 hH1 (by rw [HSL.out]; omega) (by rw [HSL.out]; exact hnc))
    rw [HSL.out] at HC2
    have HH1 := hide hH1
    clear hw1 hH1 HC
    generalize hL : Lib.compact S = L at *
    have HL := hide hL
    clear hL
    go_wp2_with fail
    refine HC2.out.mono ?_
    rintro e w2 ⟨rfl, q2, hw2⟩
    have HW2 := hide hw2
    clear hw2 HC2
    go_wp2_with fail
    go_ret
    have hLn : L.length ≤ n := by have := HLE.out; rw [HSL.out] at this; exact this
    refine ⟨.slice (some ⟨g, 0, none⟩) L.length cap, rfl, .inr ⟨g, 0, cap, by rw [HO.out]; simp, by rw [HO.out]; simp; omega, by rw [HO.out]; simp; omega, ?_⟩, ?_⟩
    · intro k s hk
      rw [HO.out, List.getElem?_map] at hk
      have hkl : k < L.length := by
        by_cases h : k < L.length
        · exact h
        · rw [List.getElem?_eq_none (by omega)] at hk; simp at hk
      rw [List.getElem?_eq_getElem hkl] at hk
      simp only [Option.map_some, Option.some.injEq] at hk
      rw [HW2.out, Nat.zero_add]
      have := Sort.cell?_putRow encStr (Sort.ahead w1 q2) g 0 S.toArray (L ++ List.replicate (n - L.length) []).toArray (fun j hj => HH1.out j hj) (by simp [HSL.out]; omega) k (by simp; omega)
      rw [Nat.zero_add] at this
      rw [this, ← hk]
      rw [getElem!_pos _ k (by simp; omega)]
      simp [hkl, encStr, toBA]
    · have h2 : w1.grownBy w2 (some g) := by
        rw [HW2.out]
        have := grownBy_sorted (w := w1) (g := g) (n := q2) (os := #[]) (L ++ List.replicate (n - L.length) []).toArray
        simpa using this
      exact ⟨h2.os.trans HG1.out.os, h2.tape.trans HG1.out.tape, h2.output.trans HG1.out.output, Nat.le_trans HG1.out.size h2.size, fun k hk hr => (h2.block k (Nat.lt_of_lt_of_le hk HG1.out.size) hr).trans (HG1.out.block k hk hr)⟩
set_option maxHeartbeats 1000000 in
set_option maxRecDepth 100000 in
theorem Names_any (ok : Nat → Prop) (x : Ex) (v : Value) (w : World) (h : IsEx ok w x v) (hlen : x.size ≤ 1000000) :
    Calls Tryz.prog 79 #[v] w fun e w' => ∃ sv, e = .returned sv ∧ Strs w' sv ((ordered (x.named true)).map toBA) ∧ Below w.heap.size w w' := by
  have hmf : ∀ (fn : Fn) (first cap : Array Value) (w : World), (Instr.makeFunc fn first cap).run Tryz.prog w = .ok (.func fn first cap) w := fun _ _ _ _ => rfl
  have hb : Below w.heap.size w (w.alloc (.cells #[.slice none 0 0] 154)) := (Below.refl _ w).alloc (Nat.le_refl _) _
  have hx : IsEx (fun g => g < w.heap.size) (w.alloc (.cells #[.slice none 0 0] 154)) x v := IsEx.stay (Stay.below hb) (fun g hg => hg.2) x v (IsEx.lt x v h)
  have hst : St w.heap.size [] (w.alloc (.cells #[.slice none 0 0] 154)) := ⟨_, heap_alloc_new w _, World.ownsRow_nil _ _ _ _⟩
  have HC := hide (each_any 103 true _ names1_any rfl rfl x w.heap.size v [] _ hx hst (by simpa using hlen))
  have HB := hide hb
  have HNL := hide (Ex.named_le true x)
  obtain ⟨tu, yu, hiu⟩ := IsEx.iface x v h
  subst hiu
  clear h hb hx hst
  go_enter Tryz.func79, Tryz.ntmps79
  go_wp2_with fail
  refine HC.out.mono ?_
  rintro e w1 ⟨rfl, hs, hk⟩
  rw [List.nil_append] at hs
  obtain ⟨sv, hp, ho⟩ := hs.ex
  have HO := hide ho
  have c0 : w1.cell? ⟨w.heap.size, 0, none⟩ = some sv := by rw [Lib.cell_of_heap hp]; rfl
  have HI := hide (inOrder_any _ sv _ w1 ho (by have := HNL.out; omega))
  have HB1 := hide (HB.out.trans hk.1)
  obtain ⟨a, n, c, hsv⟩ : ∃ a n c, sv = .slice a n c := by
    rcases ho.2 with ⟨hv, _⟩ | ⟨g, cap, cur, hv, _⟩
    · exact ⟨_, _, _, hv⟩
    · exact ⟨_, _, _, hv⟩
  subst hsv
  clear hs hk hp ho HC
  go_wp2_with fail
  refine HI.out.mono ?_
  rintro e w2 ⟨sv2, rfl, hs2, hg2⟩
  have HS2 := hide hs2
  have HB2 := hide (HB1.out.grown hg2 HB1.out.size (fun k hk => by have := (HO.out.lt k hk).1; omega))
  obtain ⟨a2, n2, c2, hsv2⟩ : ∃ a n c, sv2 = .slice a n c := by
    rcases hs2 with ⟨_, a, cap, h⟩ | ⟨g, o, cap, h, _⟩
    · exact ⟨_, _, _, h⟩
    · exact ⟨_, _, _, h⟩
  subst hsv2
  clear hs2 hg2 HI
  go_wp2_with fail
  go_ret
  exact ⟨.slice a2 n2 c2, rfl, HS2.out, HB2.out⟩
end
section
open Go.RowKit
theorem Tryz.infoName : (Tryz.prog.info? 98).map (fun i => (i.zero, i.size, i.bytes)) = some (some (.agg #[.string ⟨#[]⟩, .int .i64 0, .int .i64 0]), 3, 32) := by kernel_rfl
theorem Tryz.infoRung : (Tryz.prog.info? 48).map (fun i => (i.zero, i.size, i.bytes)) = some (some (.agg #[.int .i64 0, .string ⟨#[]⟩, .nilIface]), 3, 40) := by kernel_rfl
def nmCells (n : Ld.Nme) : List Value := [.string ⟨n.name.toArray⟩, .int .i64 n.kind, .int .i64 n.count]
def rgCells (p : Ld.Rng × Value) : List Value := [.int .i64 p.1.kind, .string ⟨p.1.name.toArray⟩, p.2]
theorem flat3 {α : Type} (f : α → List Value) (hf : ∀ a, (f a).length = 3) : ∀ (l : List α) (i : Nat) (a : α), l[i]? = some a → ∀ j, j < 3 → (l.flatMap f)[i * 3 + j]? = (f a)[j]?
  | [], i, a, h, _, _ => by simp at h
  | b :: r, 0, a, h, j, hj => by
    simp only [List.getElem?_cons_zero, Option.some.injEq] at h
    subst h
    rw [List.flatMap_cons, List.getElem?_append_left (by rw [hf]; omega)]
    congr 1
    omega
  | b :: r, i + 1, a, h, j, hj => by
    simp only [List.getElem?_cons_succ] at h
    have ih := flat3 f hf r i a h j hj
    rw [List.flatMap_cons, List.getElem?_append_right (by rw [hf]; omega), hf]
    have : (i + 1) * 3 + j - 3 = i * 3 + j := by omega
    rw [this]; exact ih
theorem Strs.at {w : World} {sv : Value} {l : List (List UInt8)} (h : Strs w sv (l.map toBA)) : (l = [] ∧ ∃ a c, sv = .slice a 0 c) ∨ ∃ g o c, sv = .slice (some ⟨g, o, none⟩) l.length c ∧ l.length ≤ c ∧ l.length ≤ 1000000 ∧ ∀ k y, l[k]? = some y → w.cell? ⟨g, o + k, none⟩ = some (.string ⟨y.toArray⟩) := by
  rcases h with ⟨h1, h2⟩ | ⟨g, o, c, h1, h2, h3, h4⟩
  · exact .inl ⟨by simpa using h1, h2⟩
  · rw [List.length_map] at h1 h2 h3
    refine .inr ⟨g, o, c, h1, h2, h3, fun k y hk => ?_⟩
    exact h4 k _ (by rw [List.getElem?_map, hk]; rfl)
end
section
open Go.RowKit
/-- an append whose run is known, at a step of a region that draws its order -/
theorem step_append_run {P : Program} (w : World) {ops : Array Oper} {o : Oper} {a : Act} {K : Act → World → Prop} {Q : Exit → Act → World → Prop} {E : Prop} (hgd : o.guard = none) (s x : Operand) (t tn : TypeId)
    (ho : o.op = .call { callee := .builtin .append, args := #[s, x], argTypes := #[t, tn] }) (vs vx : Value) (hs : a.eval s = vs) (hx : a.eval x = vx)
    (v' : Value) (w' : World) (hr : (Builtin.append_ #[t, tn] o.type #[vs, vx]).run P w = .ok v' w') (h : K (a.put o.dst v') w') : if Region.wanted o (yielded ops a.tmps) = true then Oper.wp P o a w K Q else E := by
  have hw : Region.wanted o (yielded ops a.tmps) = true := by simp [Region.wanted, hgd]
  rw [if_pos hw]
  exact Lib.wp_append_run w s x t tn ho vs vx hs hx v' w' hr h
/-- nothing is appended -/
theorem append_zero {W : World} (base : Nat) (t ty e : TypeId) (i : TypeInfo) (size : Nat) (ht : Tryz.prog.underlying t = some (.slice e)) (hi : Tryz.prog.info? e = some i) (v : Value) (n : Nat) (xs : List Value) (hown : W.ownsRow base e size v n xs) (a : Option Addr) (c : Nat) :
    (Builtin.append_ #[t, t] ty #[v, .slice a 0 c]).run Tryz.prog W = .ok v W := by
  rcases hown.2 with ⟨rfl, rfl⟩ | ⟨g, cap, cur, rfl, _, _, hnc, _⟩
  · cases a <;> simp [Builtin.append_, run_underlying ht, sizeOf, typeInfo, hi, Builtin.lenOf, Builtin.firstCells, loadCells, loadCellsFrom]
  · cases a <;> simp [Builtin.append_, run_underlying ht, sizeOf, typeInfo, hi, Builtin.lenOf, Builtin.firstCells, hnc, storeCells, loadCells, loadCellsFrom]
end
section
open Go.RowKit
def intV (k : Nat) : Value := .int .i64 (k : Int)
theorem own_slice {W : World} {q : Nat} {e : TypeId} {s : Nat} {v : Value} {n : Nat} {xs : List Value} (h : W.ownsRow q e s v n xs) : ∃ a c, v = .slice a n c := by
  rcases h.2 with ⟨rfl, rfl⟩ | ⟨g', cap, cur, rfl, _⟩
  · exact ⟨_, _, rfl⟩
  · exact ⟨_, _, rfl⟩
theorem grown_below {W W' : World} (h : Below W.heap.size W W') : W.grownBy W' none := ⟨h.os, h.tape, h.output, h.size, fun k hk _ => h.block k hk⟩
theorem Tryz.infoInt : (Tryz.prog.info? 3).map (fun i => (i.zero, i.size, i.bytes)) = some (some (.int .i64 0), 1, 8) := by kernel_rfl
theorem own_tag {W : World} {q : Nat} {e : TypeId} {s : Nat} {v : Value} {n : Nat} {xs : List Value} (h : W.ownsRow q e s v n xs) (g : Nat) (hg : v.ownBlock = some g) : ∃ c, W.heap[g]? = some (.cells c e (0, 0)) := by
  rcases h.2 with ⟨rfl, _⟩ | ⟨g', cap, cur, rfl, _, hcur, _⟩
  · cases hg
  · simp only [Value.ownBlock, Option.some.injEq] at hg
    subst hg
    exact ⟨cur, hcur⟩
theorem row_cell {W : World} {g : Nat} {cur : Array Value} {t : TypeId} {fz : Nat × Nat} (h : W.heap[g]? = some (.cells cur t fz)) {m : Nat} {xs : List Value} (htk : cur.toList.take m = xs) {k : Nat} {u : Value} (hk : xs[k]? = some u) : W.cell? ⟨g, k, none⟩ = some u := by
  rw [← htk] at hk
  have hkm : k < m := by
    by_cases h : k < m
    · exact h
    · rw [List.getElem?_eq_none (by rw [List.length_take]; omega)] at hk; cases hk
  rw [List.getElem?_take_of_lt hkm] at hk
  rw [Lib.cell_of_heap h, ← Array.getElem?_toList]; exact hk
theorem own_moved {q : Nat} {W W' : World} {e : TypeId} {s : Nat} {v : Value} {n : Nat} {xs : List Value} (h : W.ownsRow q e s v n xs) (hk : ∀ k, q ≤ k → k < W.heap.size → W'.heap[k]? = W.heap[k]?) : W'.ownsRow q e s v n xs := by
  refine ⟨h.1, ?_⟩
  rcases h.2 with h1 | ⟨g, cap, cur, h1, h2, h3, h4⟩
  · exact .inl h1
  · exact .inr ⟨g, cap, cur, h1, h2, (hk g h2 (Array.getElem?_eq_some_iff.1 h3).1).trans h3, h4⟩
end
section
open Go.RowKit
theorem own_zero (W : World) (q : Nat) (e : TypeId) (s : Nat) (hq : q ≤ W.heap.size) : (W.alloc (.cells #[] e)).ownsRow q e s (.slice (some ⟨W.heap.size, 0, none⟩) 0 0) 0 [] :=
  ⟨by simp, .inr ⟨W.heap.size, 0, #[], rfl, hq, heap_alloc_new W _, Nat.le_refl _, by decide, by simp, by simp⟩⟩
theorem names_cells {W : World} {g : Nat} {ns : List Ld.Nme} (h : ∀ (i : Nat) (n : Ld.Nme), ns[i]? = some n → NameAt W g i n) : ∀ j u, (ns.flatMap nmCells)[j]? = some u → W.cell? ((⟨g, 0, none⟩ : Addr).add j) = some u := by
  intro j u hu
  have e : (⟨g, 0, none⟩ : Addr).add j = ⟨g, j, none⟩ := by unfold Addr.add; split <;> simp_all
  rw [e]
  have hl : ∀ l : List Ld.Nme, (l.flatMap nmCells).length = l.length * 3 := fun l => by
    induction l with
    | nil => rfl
    | cons a r ih => rw [List.flatMap_cons, List.length_append, ih, List.length_cons]; simp [nmCells]; omega
  have hj : j < ns.length * 3 := by rw [← hl]; exact (List.getElem?_eq_some_iff.1 hu).1
  have hi : j / 3 < ns.length := by omega
  have hn := List.getElem?_eq_getElem hi
  obtain ⟨h1, h2, h3, _⟩ := h (j / 3) _ hn
  have hf := flat3 nmCells (fun _ => rfl) ns (j / 3) _ hn (j % 3) (by omega)
  rw [show j / 3 * 3 + j % 3 = j by omega, hu] at hf
  have hm : j % 3 = 0 ∨ j % 3 = 1 ∨ j % 3 = 2 := by omega
  rcases hm with hm | hm | hm
  · rw [hm] at hf
    rw [show j = j / 3 * 3 by omega, h1]; exact hf.symm
  · rw [hm] at hf
    rw [show j = j / 3 * 3 + 1 by omega, h2]; exact hf.symm
  · rw [hm] at hf
    rw [show j = j / 3 * 3 + 2 by omega, h3]; exact hf.symm
theorem eqNil_none (w : World) (n c : Nat) : (binOp BinOp.eql 25 (.slice none n c) (.slice none 0 0)).run Tryz.prog w = .ok (.bool true) w := by kernel_rfl
theorem eqNil_some (w : World) (a : Addr) (n c : Nat) : (binOp BinOp.eql 25 (.slice (some a) n c) (.slice none 0 0)).run Tryz.prog w = .ok (.bool false) w := by kernel_rfl
set_option maxHeartbeats 2000000 in
set_option maxRecDepth 100000 in
theorem cloneN_any (ns : List Ld.Nme) (nv : Value) (w : World) (h : NamesAt w nv ns) :
    Calls Tryz.prog 52 #[nv] w fun e w' => ∃ v, e = .returned v ∧ NamesAt w' v ns ∧ Below w.heap.size w w' := by
  obtain ⟨i0, hi0, hz0, hz1, hz2⟩ := info_parts Tryz.infoName
  have q0 := fun n c => eqNil_none w n c
  have q1 := fun a n c => eqNil_some w a n c
  have HBA : Hid (Below w.heap.size w (w.alloc (.cells #[] 98))) := (Below.refl _ w).alloc (Nat.le_refl _) _
  rcases h with ⟨rfl, a, cap, rfl⟩ | ⟨g, cap, rfl, hcap, hlen, hat⟩
  · cases a with
    | none =>
      go_enter Tryz.func52, Tryz.ntmps52
      go_wp2_with fail
      go_ret
      exact ⟨_, rfl, .inl ⟨rfl, _, _, rfl⟩, Below.refl _ _⟩
    | some ad =>
      go_enter Tryz.func52, Tryz.ntmps52
      go_wp2_with (at_builtin; refine Lib.wpList_append_run _ rfl (.tmp 5) (.tmp 6) 25 25 rfl _ _ rfl rfl _ _ (append_zero w.heap.size _ _ _ i0 3 Tryz.underlying25 hi0 _ 0 [] (own_zero w w.heap.size 98 3 (Nat.le_refl _)) _ _) ?_)
      go_ret
      exact ⟨_, rfl, .inl ⟨rfl, _, _, rfl⟩, HBA.out⟩
  · by_cases hne : ns.length = 0
    · obtain rfl := List.length_eq_zero_iff.1 hne
      go_enter Tryz.func52, Tryz.ntmps52
      go_wp2_with (at_builtin; refine Lib.wpList_append_run _ rfl (.tmp 5) (.tmp 6) 25 25 rfl _ _ rfl rfl _ _ (append_zero w.heap.size _ _ _ i0 3 Tryz.underlying25 hi0 _ 0 [] (own_zero w w.heap.size 98 3 (Nat.le_refl _)) _ _) ?_)
      go_ret
      exact ⟨_, rfl, .inl ⟨rfl, _, _, rfl⟩, HBA.out⟩
    · have hlc : (ns.flatMap nmCells).length = ns.length * 3 := by
        clear hat hlen hcap hne
        induction ns with
        | nil => rfl
        | cons a r ih => rw [List.flatMap_cons, List.length_append, ih, List.length_cons]; simp [nmCells]; omega
      have HOWN : Hid ((w.alloc (.cells #[] 98)).ownsRow w.heap.size 98 3 (.slice (some ⟨w.heap.size, 0, none⟩) 0 0) 0 []) := own_zero w w.heap.size 98 3 (Nat.le_refl _)
      have HNEW : Hid (∀ j u, (ns.flatMap nmCells)[j]? = some u → (w.alloc (.cells #[] 98)).cell? ((⟨g, 0, none⟩ : Addr).add j) = some u) := names_cells (fun i n hi => (hat i n hi).below HBA.out)
      have HONE : Hid (∀ u ∈ ns.flatMap nmCells, u.oneCell' = true) := by
        intro u hu
        obtain ⟨n, _, hn⟩ := List.mem_flatMap.1 hu
        simp only [nmCells, List.mem_cons, List.not_mem_nil, or_false] at hn
        rcases hn with rfl | rfl | rfl <;> rfl
      have HAT := hide hat
      obtain ⟨n, hnn⟩ : ∃ n, n = ns.length := ⟨_, rfl⟩
      have HN := hide hnn
      have HLC := hide hlc
      rw [← hnn] at hlen hcap hne HLC ⊢
      clear hat hnn hlc
      have hn0 : 0 < n := by omega
      go_enter Tryz.func52, Tryz.ntmps52
      go_wp2_with (at_builtin; refine wpList_append_lies _ rfl (.tmp 5) (.tmp 6) 25 rfl w.heap.size 98 i0 _ 3 32 Tryz.underlying25 hi0 hz0 hz1 hz2 rfl (by decide) (.slice (some ⟨w.heap.size, 0, none⟩) 0 0) 0 [] rfl HOWN.out ⟨g, 0, none⟩ n cap (ns.flatMap nmCells) rfl HLC.out HNEW.out HONE.out hn0 (by unfold maxLen; omega) (by omega) (by simp) (w.heap.size + 1) (by simp) ?_; intro g2 cap2 wC hown hgrow hat2 hltg)
      go_ret
      refine ⟨_, rfl, ?_, HBA.out.grown hgrow (by simp) (fun j e => by simp only [Value.ownBlock, Option.some.injEq] at e; omega)⟩
      rcases hown.2 with ⟨hx, _⟩ | ⟨g3, cap3, cur, hx, _, hcur, hc3, _, _, htk⟩
      · cases hx
      · simp only [Value.slice.injEq, Option.some.injEq, Addr.mk.injEq] at hx
        obtain ⟨⟨rfl, _⟩, _, rfl⟩ := hx
        refine .inr ⟨g2, cap2, by rw [← HN.out]; rfl, by rw [← HN.out]; omega, by rw [← HN.out]; exact hlen, fun i y hy => ?_⟩
        have hc := fun j hj => flat3 nmCells (fun _ => rfl) ns i y hy j hj
        obtain ⟨_, _, _, k4⟩ := HAT.out i y hy
        exact ⟨row_cell hcur htk (hc 0 (by omega)), row_cell hcur htk (hc 1 (by omega)), row_cell hcur htk (hc 2 (by omega)), k4⟩
end
section
open Go.RowKit
def boolV (b : Bool) : Value := .bool b
def iV (k : Int) : Value := .int .i64 k
/-- all that is old stands, but for two rows -/
structure Two (gi gc : Nat) (w w' : World) : Prop where
  os : w'.os = w.os
  tape : w'.tape = w.tape
  output : w'.output = w.output
  size : w.heap.size ≤ w'.heap.size
  block : ∀ k, k < w.heap.size → k ≠ gi → k ≠ gc → w'.heap[k]? = w.heap[k]?
theorem Two.refl (gi gc : Nat) (w : World) : Two gi gc w w := ⟨rfl, rfl, rfl, Nat.le_refl _, fun _ _ _ _ => rfl⟩
theorem Two.trans {gi gc : Nat} {A B C : World} (h : Two gi gc A B) (k : Two gi gc B C) : Two gi gc A C :=
  ⟨k.os.trans h.os, k.tape.trans h.tape, k.output.trans h.output, Nat.le_trans h.size k.size, fun i h1 h2 h3 => (k.block i (Nat.lt_of_lt_of_le h1 h.size) h2 h3).trans (h.block i h1 h2 h3)⟩
theorem Two.below {gi gc : Nat} {w w' : World} (h : Below w.heap.size w w') : Two gi gc w w' := ⟨h.os, h.tape, h.output, h.size, fun k hk _ _ => h.block k hk⟩
theorem Two.setI {gi gc : Nat} (w : World) (i : Nat) (v : Value) : Two gi gc w (w.setCell ⟨gi, i, none⟩ v) := ⟨rfl, rfl, rfl, by simp [World.setCell], fun k _ h _ => Below.heap_setCell _ _ _ _ (fun e => h e)⟩
theorem Two.setC {gi gc : Nat} (w : World) (i : Nat) (v : Value) : Two gi gc w (w.setCell ⟨gc, i, none⟩ v) := ⟨rfl, rfl, rfl, by simp [World.setCell], fun k _ _ h => Below.heap_setCell _ _ _ _ (fun e => h e)⟩
theorem upto12 {P : Nat → Prop} (h0 : P 0) (h1 : P 1) (h2 : P 2) (h3 : P 3) (h4 : P 4) (h5 : P 5) (h6 : P 6) (h7 : P 7) (h8 : P 8) (h9 : P 9) (h10 : P 10) (h11 : P 11) (h12 : P 12) (n : Nat) (hn : n ≤ 12) : P n := by
  rcases (show n = 0 ∨ n = 1 ∨ n = 2 ∨ n = 3 ∨ n = 4 ∨ n = 5 ∨ n = 6 ∨ n = 7 ∨ n = 8 ∨ n = 9 ∨ n = 10 ∨ n = 11 ∨ n = 12 by omega) with rfl | rfl | rfl | rfl | rfl | rfl | rfl | rfl | rfl | rfl | rfl | rfl | rfl <;> assumption
theorem makeB (w : World) : ∀ n : Nat, n ≤ 12 → (Instr.makeSlice 84 (.int .i64 (n : Int)) (.int .i64 (n : Int))).run Tryz.prog w = .ok (.slice (some ⟨w.heap.size, 0, none⟩) n n) (w.alloc (.cells ⟨(List.replicate n false).map boolV⟩ 4)) := by
  apply upto12 <;> kernel_rfl
end
section
open Go.RowKit
theorem isCounted_any (k : Int) (w : World) : Calls Tryz.prog 99 #[.int .i64 k] w fun e w' => e = .returned (.bool (Ld.counted k)) ∧ w' = w := by
  by_cases h3 : k = 3 <;> by_cases h4 : k = 4
  all_goals
    go_enter Tryz.func99, Tryz.ntmps99
    go_wp2
    go_ret
    exact ⟨by simp [Ld.counted, *], rfl⟩
theorem kindOf_any (k : Int) (w : World) : Calls Tryz.prog 78 #[.int .i64 k] w fun e w' => e = .returned (.int .i64 (Ld.kindOf k)) ∧ w' = w := by
  by_cases h4 : k = 4
  · subst h4
    go_enter Tryz.func78, Tryz.ntmps78
    go_wp2
    go_ret
    exact ⟨rfl, rfl⟩
  by_cases h5 : k = 5
  · subst h5
    go_enter Tryz.func78, Tryz.ntmps78
    go_wp2
    go_ret
    exact ⟨rfl, rfl⟩
  by_cases h6 : k = 6
  · subst h6
    go_enter Tryz.func78, Tryz.ntmps78
    go_wp2
    go_ret
    exact ⟨rfl, rfl⟩
  have HK : Hid (Ld.kindOf k = 2) := by show _ = _; simp [Ld.kindOf, h4, h5, h6]
  have e4 : (k == 4) = false := by simpa using h4
  have e5 : (k == 5) = false := by simpa using h5
  have e6 : (k == 6) = false := by simpa using h6
  clear h4 h5 h6
  go_enter Tryz.func78, Tryz.ntmps78
  go_wp2
  go_ret
  exact ⟨by rw [HK.out]; rfl, rfl⟩
theorem mayCount_any (k c : Int) (w : World) : Calls Tryz.prog 76 #[.int .i64 k, .int .i64 c] w fun e w' => e = .returned (.bool (Ld.mayCount k c)) ∧ w' = w := by
  cases hk : Ld.counted k with
  | true =>
    by_cases h1 : 1 ≤ c
    · by_cases h2 : c ≤ 7
      all_goals
        go_enter Tryz.func76, Tryz.ntmps76
        go_wp2_with (go_at_call 99; refine (isCounted_any _ _).mono ?_; rintro e w' ⟨rfl, rfl⟩; rw [hk])
        go_ret
        exact ⟨by simp [Ld.mayCount, *], rfl⟩
    · go_enter Tryz.func76, Tryz.ntmps76
      go_wp2_with (go_at_call 99; refine (isCounted_any _ _).mono ?_; rintro e w' ⟨rfl, rfl⟩; rw [hk])
      go_ret
      exact ⟨by simp [Ld.mayCount, *]; omega, rfl⟩
  | false =>
    by_cases h1 : c = 0
    all_goals
      go_enter Tryz.func76, Tryz.ntmps76
      go_wp2_with (go_at_call 99; refine (isCounted_any _ _).mono ?_; rintro e w' ⟨rfl, rfl⟩; rw [hk])
      go_ret
      exact ⟨by simp [Ld.mayCount, *], rfl⟩
/-- a predicate on names, as a function value: it says this of each, and changes nothing old -/
def NPred (w : World) (f : Value) (p : Ld.Nme → Bool) : Prop := ∃ K c, f = .func (.func K) #[] #[c] ∧ Entered K ∧ ∀ (n : Ld.Nme) (W : World), Below w.heap.size w W → n.name.length ≤ maxLen →
  Calls Tryz.prog K #[.agg #[.string ⟨n.name.toArray⟩, .int .i64 n.kind, .int .i64 n.count], c] W fun e W' => e = .returned (.bool (p n)) ∧ Below W.heap.size W W'
theorem NPred.below {w w' : World} {f : Value} {p : Ld.Nme → Bool} (h : NPred w f p) (hb : Below w.heap.size w w') : NPred w' f p := by
  obtain ⟨K, c, h1, h2, h3⟩ := h
  exact ⟨K, c, h1, h2, fun n W hW => h3 n W (hb.trans (hW.mono hb.size))⟩
set_option maxHeartbeats 1000000 in
set_option maxRecDepth 100000 in
theorem number1_any (b : Nat) (s : List UInt8) (n : Ld.Nme) (w : World) (hc : w.cell? ⟨b, 0, none⟩ = some (.string ⟨s.toArray⟩)) :
    Calls Tryz.prog 101 #[.agg #[.string ⟨n.name.toArray⟩, .int .i64 n.kind, .int .i64 n.count], .pointer (some ⟨b, 0, none⟩)] w fun e w' => e = .returned (.bool (n.name == s)) ∧ Below w.heap.size w w' := by
  obtain ⟨nm, k, c⟩ := n
  go_enter Tryz.func101, Tryz.ntmps101
  have hb1 := bytes_list nm
  have hb2 := bytes_list s
  have hlt : b < w.heap.size := World.block_lt_of_cell? _ _ hc
  go_wp2
  go_ret
  exact ⟨by rfl, (Below.refl _ _).alloc (Nat.le_refl _) _⟩
set_option maxHeartbeats 2000000 in
set_option maxRecDepth 100000 in
theorem indexFunc_any (sv f : Value) (ns : List Ld.Nme) (p : Ld.Nme → Bool) (w : World) (hn : NamesAt w sv ns) (hf : NPred w f p) :
    Calls Tryz.prog 100 #[sv, f] w fun e w' => e = .returned (.int .i64 (Ld.numOf (ns.findIdx? p))) ∧ Below w.heap.size w w' := by
  obtain ⟨K, c, rfl, hent, hp⟩ := hf
  have hent' : ∀ (args : Array Value) (w : World), (callFunc K args).run Tryz.prog w = .ok (.enter K args) w := hent
  have HP := hide hp
  clear hent hp
  rcases hn with ⟨rfl, a, cap, rfl⟩ | ⟨g, cap, rfl, hcap, hlen, hcell⟩
  · go_enter Tryz.func100, Tryz.ntmps100
    go_wp2_with fail
    go_loopw [8] (fun i wr => i = .int .i64 0 ∧ wr = w) (fun _ _ => 0)
    case atStart => exact ⟨rfl, rfl⟩
    case round =>
      obtain ⟨rfl, rfl⟩ := hrel
      go_wp2_with fail
      go_ret
      exact ⟨rfl, Below.refl _ _⟩
  · have HC := hide hcell
    generalize hnn : ns.length = n at *
    have HN := hide hnn
    clear hcell hnn
    go_enter Tryz.func100, Tryz.ntmps100
    go_wp2_with fail
    go_loopw [8] (fun i wr => ∃ k : Nat, k ≤ n ∧ i = .int .i64 (k : Int) ∧ Hid (∀ j x, j < k → ns[j]? = some x → p x = false) ∧ Hid (Below w.heap.size w wr)) (fun i _ => n - (intOf i).toNat)
    case atStart => exact ⟨0, Nat.zero_le _, rfl, fun j x hj => absurd hj (Nat.not_lt_zero j), Below.refl _ _⟩
    case round =>
      obtain ⟨k, hk, rfl, HNO, HB⟩ := hrel
      by_cases hlt : k < n
      · have hkl : k < ns.length := by rw [HN.out]; exact hlt
        obtain ⟨e1, e2, e3, e4, e5⟩ := HC.out k ns[k] (List.getElem?_eq_getElem hkl)
        have c1 := (HB.out.cell (World.block_lt_of_cell? _ _ e1)).trans e1
        have c2 := (HB.out.cell (World.block_lt_of_cell? _ _ e2)).trans e2
        have c3 := (HB.out.cell (World.block_lt_of_cell? _ _ e3)).trans e3
        have HCALL := hide (HP.out ns[k] wr HB.out e4)
        have HHIT : Hid (p ns[k] = true → ns.findIdx? p = some k) := fun hp => by
          rw [List.findIdx?_eq_some_iff_getElem]
          exact ⟨hkl, hp, fun j hj => by rw [HNO.out j ns[j] hj (List.getElem?_eq_getElem (by omega))]; decide⟩
        have HON : Hid (p ns[k] = false → ∀ j x, j < k + 1 → ns[j]? = some x → p x = false) := fun hp j x hj hx => by
          by_cases e : j = k
          · subst e; rw [List.getElem?_eq_getElem hkl] at hx; cases hx; exact hp
          · exact HNO.out j x (by omega) hx
        clear e1 e2 e3 e4 e5
        generalize ns[k] = y at *
        go_wp2_with fail
        refine HCALL.out.mono ?_
        rintro e w1 ⟨rfl, hb1⟩
        have HB1 := hide (HB.out.trans (hb1.mono HB.out.size))
        clear hb1 HCALL
        cases hpy : p y with
        | true =>
          have HF := hide (HHIT.out hpy)
          go_wp2_with fail
          go_ret
          exact ⟨by rw [HF.out]; rfl, HB1.out⟩
        | false =>
          have HF := hide (HON.out hpy)
          go_wp2_with fail
          go_roundw
          case rel => exact ⟨k + 1, by omega, by go_num, HF.out, HB1.out⟩
          case measure => simp [intOf]; omega
      · have hkn : k = n := by omega
        have HF : Hid (ns.findIdx? p = none) := by
          show _ = _
          rw [List.findIdx?_eq_none_iff]
          intro x hx
          obtain ⟨j, hj, rfl⟩ := List.getElem_of_mem hx
          exact HNO.out j _ (by rw [HN.out] at hj; omega) (List.getElem?_eq_getElem hj)
        subst hkn
        go_wp2_with fail
        go_ret
        exact ⟨by rw [HF.out]; rfl, HB.out⟩
set_option maxHeartbeats 2000000 in
set_option maxRecDepth 100000 in
theorem Number_any (ns : List Ld.Nme) (nv rv : Value) (s : List UInt8) (w : World) (hn : NamesAt w nv ns) (hr : ∃ a n c, rv = .slice a n c) :
    Calls Tryz.prog 77 #[.agg #[nv, rv], .string ⟨s.toArray⟩] w fun e w' => e = .returned (.int .i64 (Ld.number ns s)) ∧ Below w.heap.size w w' := by
  have hmf : ∀ (fn : Fn) (first cap : Array Value) (w : World), (Instr.makeFunc fn first cap).run Tryz.prog w = .ok (.func fn first cap) w := fun _ _ _ _ => rfl
  obtain ⟨ra, rn, rc, rfl⟩ := hr
  have HNA := hide hn
  obtain ⟨na, nc, rfl, _⟩ := hn.slice
  clear hn
  generalize ns.length = nn at *
  obtain ⟨w2, hw2⟩ : ∃ w2, w2 = (w.alloc (.cells #[.slice na nn nc, .slice ra rn rc] 28)).alloc (.cells #[.string ⟨s.toArray⟩] 9) := ⟨_, rfl⟩
  have hb2 : Below w.heap.size w w2 := by rw [hw2]; exact ((Below.refl _ _).alloc (Nat.le_refl _) _).alloc (by simp) _
  have hc2 : w2.cell? ⟨w.heap.size + 1, 0, none⟩ = some (.string ⟨s.toArray⟩) := by rw [hw2]; simp [go_sem]
  have hs2 : w2.heap.size = w.heap.size + 1 + 1 := by rw [hw2]; simp
  have HI := hide (indexFunc_any (.slice na nn nc) (.func (.func 101) #[] #[.pointer (some ⟨w.heap.size + 1, 0, none⟩)]) ns (fun n => n.name == s) w2 (HNA.out.below hb2)
    ⟨101, _, rfl, fun _ _ => by kernel_rfl, fun n W hW hn => number1_any _ s n W ((hW.cell (p := ⟨w.heap.size + 1, 0, none⟩) (by show w.heap.size + 1 < _; omega)).trans hc2)⟩)
  rw [hw2] at HI
  have HB2 := hide hb2
  rw [hw2] at HB2
  clear hb2 hc2 hs2 hw2
  go_enter Tryz.func77, Tryz.ntmps77
  go_wp2_with fail
  refine HI.out.mono ?_
  rintro e w3 ⟨rfl, hb3⟩
  have HB3 := hide (HB2.out.trans (hb3.mono HB2.out.size))
  clear hb3 HI
  go_wp2_with fail
  go_ret
  exact ⟨rfl, HB3.out⟩
end
end Go.Proofs.YtgdmohombcgjbaaGreatDoor
