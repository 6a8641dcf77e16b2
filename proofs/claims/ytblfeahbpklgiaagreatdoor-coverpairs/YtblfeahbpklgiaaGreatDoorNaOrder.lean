/-
  The walks of inOrder, Names and Edges: the names in order of bytes, each once.
-/
import Derived.Test.YtblfeahbpklgiaaGreatDoorNaNames
import Derived.Test.YtblfeahbpklgiaaGreatDoorCvMathAll
import Derived.Test.YtblfeahbpklgiaaGreatDoorShelf
import Derived.Sort.OwnSorted
namespace Go.Proofs.YtblfeahbpklgiaaGreatDoor
open Go.RowKit
open Go.Sort
/-- in order of bytes, each once -/
def ordered (ns : List (List UInt8)) : List (List UInt8) := Lib.compact (ns.mergeSort fun x y => decide (x ≤ y))
def toBA (l : List UInt8) : ByteArray := ⟨l.toArray⟩
theorem mem_compactUpTo (d : Array (List UInt8)) : ∀ (i : Nat), i < d.size → ∀ m, i < m → d[i]! ∈ Lib.compactUpTo d m := by
  intro i
  induction i with
  | zero =>
    intro hi m hm
    unfold Lib.compactUpTo
    rw [List.mem_map]
    exact ⟨0, by rw [List.mem_filter]; exact ⟨List.mem_range.2 hm, Lib.keeps_lt_one d 0 (by decide)⟩, rfl⟩
  | succ i ih =>
    intro hi m hm
    by_cases h : d[i + 1]! = d[i]!
    · rw [h]; exact ih (by omega) m (by omega)
    · unfold Lib.compactUpTo
      rw [List.mem_map]
      exact ⟨i + 1, by rw [List.mem_filter]; exact ⟨List.mem_range.2 hm, Lib.keeps_pos (by simpa using h)⟩, rfl⟩
theorem mem_compact (l : List (List UInt8)) (x : List UInt8) : x ∈ Lib.compact l ↔ x ∈ l := by
  unfold Lib.compact
  constructor
  · intro h
    unfold Lib.compactUpTo at h
    rw [List.mem_map] at h
    obtain ⟨i, hi, rfl⟩ := h
    rw [List.mem_filter] at hi
    have hlt := List.mem_range.1 hi.1
    rw [getElem!_pos l.toArray i (by simpa using hlt)]
    simp
  · intro h
    obtain ⟨i, hi, rfl⟩ := List.getElem_of_mem h
    have := mem_compactUpTo l.toArray i (by simpa using hi) l.length hi
    rw [getElem!_pos l.toArray i (by simpa using hi)] at this
    simpa using this
theorem mem_ordered (ns : List (List UInt8)) (x : List UInt8) : x ∈ ordered ns ↔ x ∈ ns := by
  unfold ordered
  rw [mem_compact, List.mem_mergeSort]
theorem compact_le (l : List (List UInt8)) : (Lib.compact l).length ≤ l.length := by
  unfold Lib.compact Lib.compactUpTo
  rw [List.length_map]
  have := List.length_filter_le (Lib.keeps l.toArray) (List.range l.length)
  simpa using this
theorem ordered_le (ns : List (List UInt8)) : (ordered ns).length ≤ ns.length := by
  unfold ordered
  have := compact_le (ns.mergeSort fun x y => decide (x ≤ y))
  rwa [List.length_mergeSort] at this
set_option maxHeartbeats 1000000 in
set_option maxRecDepth 100000 in
theorem inOrder_any (B : Nat) (v : Value) (ns : List (List UInt8)) (w : World) (ho : w.ownsRow B 9 1 v ns.length (ns.map strV)) (hlen : ns.length ≤ 1000000) :
    Calls Tryz.prog 31 #[v] w fun e w' => ∃ sv, e = .returned sv ∧ Strs w' sv ((ordered ns).map toBA) ∧ w.grownBy w' v.ownBlock := by
  by_cases h0 : ns = []
  · subst h0
    obtain ⟨a, cap, rfl⟩ : ∃ a cap, v = .slice a 0 cap := by
      rcases ho.2 with ⟨hv, _⟩ | ⟨g, cap, cur, hv, _⟩
      · exact ⟨_, _, hv⟩
      · exact ⟨_, _, hv⟩
    clear ho
    have HE : Hid (ordered ([] : List (List UInt8)) = []) := by show _ = _; have := ordered_le []; exact List.length_eq_zero_iff.1 (by simpa using this)
    go_enter Tryz.func31, Tryz.ntmps31
    go_wp2_with fail
    refine (Tryz.slices_Sort_string_none a cap w).mono ?_
    rintro e w1 ⟨rfl, rfl⟩
    go_wp2_with fail
    refine (Tryz.slices_Compact_string_empty a cap w1).mono ?_
    rintro e w2 ⟨rfl, rfl⟩
    go_wp2_with fail
    go_ret
    exact ⟨.slice a 0 cap, rfl, .inl ⟨by rw [HE.out]; rfl, a, cap, rfl⟩, ⟨rfl, rfl, rfl, Nat.le_refl _, fun _ _ _ => rfl⟩⟩
  · rcases ho.2 with ⟨_, hn⟩ | ⟨g, cap, cur, rfl, hbg, hg, hnc, hcm, hcs, htake⟩
    · exact absurd (List.length_eq_zero_iff.1 hn) h0
    have hgs : g < w.heap.size := (Array.getElem?_eq_some_iff.1 hg).1
    have hH : Sort.Holds encStr w g 0 ns.toArray := by
      intro j hj
      have hj2 : j < ns.length := by simpa using hj
      have hc := ho.cells (g := g) rfl j (strV ns[j]) (by rw [List.getElem?_map, List.getElem?_eq_getElem hj2]; rfl)
      refine ⟨?_, Lib.frozen_of_heap hg _⟩
      rw [getElem!_pos ns.toArray j hj]
      rw [Nat.zero_add]
      have e : encStr ns.toArray[j] = strV ns[j] := by simp [encStr, strV]
      rw [e]
      cases j <;> simpa [Addr.add] using hc
    have HC := hide (Tryz.slices_Sort_string g 0 cap ns w hH hgs (by omega))
    have HH := hide hH
    clear ho hcs htake hg hH
    generalize hS : (ns.mergeSort fun x y => decide (x ≤ y)) = S at *
    have HS := hide hS
    have HSL : Hid (S.length = ns.length) := by show _ = _; rw [← hS, List.length_mergeSort]
    have HO : Hid (ordered ns = Lib.compact S) := by show _ = _; unfold ordered; rw [hS]
    have HLE := hide (compact_le S)
    clear hS
    generalize hn : ns.length = n at *
    have HN := hide hn
    clear hn
    go_enter Tryz.func31, Tryz.ntmps31
    go_wp2_with fail
    refine HC.out.mono ?_
    rintro e w1 ⟨rfl, q, os, hw1⟩
    have HW1 := hide hw1
    have hsz1 : w.heap.size ≤ w1.heap.size := by rw [hw1]; simp [Sort.ahead]
    have hH1 : Sort.Holds encStr w1 g 0 S.toArray := by
      rw [hw1]
      refine Sort.holds_grow _ _ _ _ _ _ (by simp [Sort.ahead]; exact hgs) (Sort.holds_putRow encStr (Sort.ahead w q) g 0 ns.toArray S.toArray (fun j hj => HH.out j hj) ?_)
      simp [HSL.out, HN.out]
    have HG1 : Hid (w.grownBy w1 (some g)) := by show World.grownBy _ _ _; rw [hw1]; exact grownBy_sorted _
    have HC2 := hide (Tryz.slices_Compact_string g 0 cap S w1 hH1 (by rw [HSL.out]; omega) (by rw [HSL.out]; exact hnc))
    rw [HSL.out] at HC2
    have HH1 := hide hH1
    clear hw1 hH1 HC
    generalize hL : Lib.compact S = L at *
    have HL := hide hL
    clear hL
    go_wp2_with fail
    refine HC2.out.mono ?_
    rintro e w2 ⟨rfl, q2, hw2⟩
    have HW2 := hide hw2
    clear hw2 HC2
    go_wp2_with fail
    go_ret
    have hLn : L.length ≤ n := by have := HLE.out; rw [HSL.out] at this; exact this
    refine ⟨.slice (some ⟨g, 0, none⟩) L.length cap, rfl, .inr ⟨g, 0, cap, by rw [HO.out]; simp, by rw [HO.out]; simp; omega, by rw [HO.out]; simp; omega, ?_⟩, ?_⟩
    · intro k s hk
      rw [HO.out, List.getElem?_map] at hk
      have hkl : k < L.length := by
        by_cases h : k < L.length
        · exact h
        · rw [List.getElem?_eq_none (by omega)] at hk; simp at hk
      rw [List.getElem?_eq_getElem hkl] at hk
      simp only [Option.map_some, Option.some.injEq] at hk
      rw [HW2.out, Nat.zero_add]
      have := Sort.cell?_putRow encStr (Sort.ahead w1 q2) g 0 S.toArray (L ++ List.replicate (n - L.length) []).toArray (fun j hj => HH1.out j hj) (by simp [HSL.out]; omega) k (by simp; omega)
      rw [Nat.zero_add] at this
      rw [this, ← hk]
      rw [getElem!_pos _ k (by simp; omega)]
      simp [hkl, encStr, toBA]
    · have h2 : w1.grownBy w2 (some g) := by
        rw [HW2.out]
        have := grownBy_sorted (w := w1) (g := g) (n := q2) (os := #[]) (L ++ List.replicate (n - L.length) []).toArray
        simpa using this
      exact ⟨h2.os.trans HG1.out.os, h2.tape.trans HG1.out.tape, h2.output.trans HG1.out.output, Nat.le_trans HG1.out.size h2.size, fun k hk hr => (h2.block k (Nat.lt_of_lt_of_le hk HG1.out.size) hr).trans (HG1.out.block k hk hr)⟩
set_option maxHeartbeats 1000000 in
set_option maxRecDepth 100000 in
theorem Names_any (ok : Nat → Prop) (x : Ex) (v : Value) (w : World) (h : IsEx ok w x v) (hlen : x.size ≤ 1000000) :
    Calls Tryz.prog 13 #[v] w fun e w' => ∃ sv, e = .returned sv ∧ Strs w' sv ((ordered (x.named true)).map toBA) ∧ Below w.heap.size w w' := by
  have hmf : ∀ (fn : Fn) (first cap : Array Value) (w : World), (Instr.makeFunc fn first cap).run Tryz.prog w = .ok (.func fn first cap) w := fun _ _ _ _ => rfl
  have hb : Below w.heap.size w (w.alloc (.cells #[.slice none 0 0] 34)) := (Below.refl _ w).alloc (Nat.le_refl _) _
  have hx : IsEx (fun g => g < w.heap.size) (w.alloc (.cells #[.slice none 0 0] 34)) x v := IsEx.stay (Stay.below hb) (fun g hg => hg.2) x v (IsEx.lt x v h)
  have hst : St w.heap.size [] (w.alloc (.cells #[.slice none 0 0] 34)) := ⟨_, heap_alloc_new w _, World.ownsRow_nil _ _ _ _⟩
  have HC := hide (each_any 32 true _ names1_any rfl rfl x w.heap.size v [] _ hx hst (by simpa using hlen))
  have HB := hide hb
  have HNL := hide (Ex.named_le true x)
  obtain ⟨tu, yu, hiu⟩ := IsEx.iface x v h
  subst hiu
  clear h hb hx hst
  go_enter Tryz.func13, Tryz.ntmps13
  go_wp2_with fail
  refine HC.out.mono ?_
  rintro e w1 ⟨rfl, hs, hk⟩
  rw [List.nil_append] at hs
  obtain ⟨sv, hp, ho⟩ := hs.ex
  have HO := hide ho
  have c0 : w1.cell? ⟨w.heap.size, 0, none⟩ = some sv := by rw [Lib.cell_of_heap hp]; rfl
  have HI := hide (inOrder_any _ sv _ w1 ho (by have := HNL.out; omega))
  have HB1 := hide (HB.out.trans hk.1)
  obtain ⟨a, n, c, hsv⟩ : ∃ a n c, sv = .slice a n c := by
    rcases ho.2 with ⟨hv, _⟩ | ⟨g, cap, cur, hv, _⟩
    · exact ⟨_, _, _, hv⟩
    · exact ⟨_, _, _, hv⟩
  subst hsv
  clear hs hk hp ho HC
  go_wp2_with fail
  refine HI.out.mono ?_
  rintro e w2 ⟨sv2, rfl, hs2, hg2⟩
  have HS2 := hide hs2
  have HB2 := hide (HB1.out.grown hg2 HB1.out.size (fun k hk => by have := (HO.out.lt k hk).1; omega))
  obtain ⟨a2, n2, c2, hsv2⟩ : ∃ a n c, sv2 = .slice a n c := by
    rcases hs2 with ⟨_, a, cap, h⟩ | ⟨g, o, cap, h, _⟩
    · exact ⟨_, _, _, h⟩
    · exact ⟨_, _, _, h⟩
  subst hsv2
  clear hs2 hg2 HI
  go_wp2_with fail
  go_ret
  exact ⟨.slice a2 n2 c2, rfl, HS2.out, HB2.out⟩
end Go.Proofs.YtblfeahbpklgiaaGreatDoor
