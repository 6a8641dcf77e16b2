/-
  The walks of inOrder, Names and Edges: the names in order of bytes, each once. Small facts of programs in memory: cells of names and rungs, rows of three, slices of texts. (Out of LdTakeN, LdRd, LdPrg, LdReads.) The walks of package ladder's small functions, of slices.IndexFunc over names, and of Number. The walks of package ladder's wrongName, wrongRung and Check.
-/
import Derived.Test.YtgldbliohpfljaaGreatDoorNaNamesAll
import Derived.Test.YtgldbliohpfljaaGreatDoorShelf
import Derived.Sort.OwnSorted
import Derived.Test.YtgldbliohpfljaaGreatDoorLdRepAll
import Derived.Deep.AppendLies
import Derived.Deep.RegionHeld3
import Derived.Deep.RegionLaw
import Derived.Deep.RegionWith
import Derived.Lib.AppendStr
import Derived.Lib.OthersKept
import Derived.LoopIn
import Derived.LoopNIn
import Derived.Maps.AppendAt
import Derived.OwnWalkIn
import Derived.RangeFuncBound
import Derived.RangeFuncBox
import Derived.RangeFuncCalls
import Derived.RangeFuncLeaves
import Derived.RangeFuncNested
import Derived.TacticsInMore
import Derived.WalkKit
import Derived.WalkMore
namespace Go.Proofs.YtgldbliohpfljaaGreatDoor
section
open Go.RowKit
open Go.Sort
/-- in order of bytes, each once -/
def ordered (ns : List (List UInt8)) : List (List UInt8) := Lib.compact (ns.mergeSort fun x y => decide (x ≤ y))
def toBA (l : List UInt8) : ByteArray := ⟨l.toArray⟩
theorem mem_compactUpTo (d : Array (List UInt8)) : ∀ (i : Nat), i < d.size → ∀ m, i < m → d[i]! ∈ Lib.compactUpTo d m := by
  intro i
  induction i with
  | zero =>
    intro hi m hm
    unfold Lib.compactUpTo
    rw [List.mem_map]
    exact ⟨0, by rw [List.mem_filter]; exact ⟨List.mem_range.2 hm, Lib.keeps_lt_one d 0 (by decide)⟩, rfl⟩
  | succ i ih =>
    intro hi m hm
    by_cases h : d[i + 1]! = d[i]!
    · rw [h]; exact ih (by omega) m (by omega)
    · unfold Lib.compactUpTo
      rw [List.mem_map]
      exact ⟨i + 1, by rw [List.mem_filter]; exact ⟨List.mem_range.2 hm, Lib.keeps_pos (by simpa using h)⟩, rfl⟩
theorem mem_compact (l : List (List UInt8)) (x : List UInt8) : x ∈ Lib.compact l ↔ x ∈ l := by
  unfold Lib.compact
  constructor
  · intro h
    unfold Lib.compactUpTo at h
    rw [List.mem_map] at h
    obtain ⟨i, hi, rfl⟩ := h
    rw [List.mem_filter] at hi
    have hlt := List.mem_range.1 hi.1
    rw [getElem!_pos l.toArray i (by simpa using hlt)]
    simp
  · intro h
    obtain ⟨i, hi, rfl⟩ := List.getElem_of_mem h
    have := mem_compactUpTo l.toArray i (by simpa using hi) l.length hi
    rw [getElem!_pos l.toArray i (by simpa using hi)] at this
    simpa using this
theorem mem_ordered (ns : List (List UInt8)) (x : List UInt8) : x ∈ ordered ns ↔ x ∈ ns := by
  unfold ordered
  rw [mem_compact, List.mem_mergeSort]
theorem compact_le (l : List (List UInt8)) : (Lib.compact l).length ≤ l.length := by
  unfold Lib.compact Lib.compactUpTo
  rw [List.length_map]
  have := List.length_filter_le (Lib.keeps l.toArray) (List.range l.length)
  simpa using this
theorem ordered_le (ns : List (List UInt8)) : (ordered ns).length ≤ ns.length := by
  unfold ordered
  have := compact_le (ns.mergeSort fun x y => decide (x ≤ y))
  rwa [List.length_mergeSort] at this
set_option maxHeartbeats 1000000 in
set_option maxRecDepth 100000 in
theorem inOrder_any (B : Nat) (v : Value) (ns : List (List UInt8)) (w : World) (ho : w.ownsRow B 9 1 v ns.length (ns.map strV)) (hlen : ns.length ≤ 1000000) :
    Calls Tryz.prog 137 #[v] w fun e w' => ∃ sv, e = .returned sv ∧ Strs w' sv ((ordered ns).map toBA) ∧ w.grownBy w' v.ownBlock := by
  by_cases h0 : ns = []
  · subst h0
    obtain ⟨a, cap, rfl⟩ : ∃ a cap, v = .slice a 0 cap := by
      rcases ho.2 with ⟨hv, _⟩ | ⟨g, cap, cur, hv, _⟩
      · exact ⟨_, _, hv⟩
      · exact ⟨_, _, hv⟩
    clear ho
    have HE : Hid (ordered ([] : List (List UInt8)) = []) := by show _ = _; have := ordered_le []; exact List.length_eq_zero_iff.1 (by simpa using this)
    go_enter Tryz.func137, Tryz.ntmps137
    go_wp2_with fail
    refine (Tryz.slices_Sort_string_none a cap w).mono ?_
    rintro e w1 ⟨rfl, rfl⟩
    go_wp2_with fail
    refine (Tryz.slices_Compact_string_empty a cap w1).mono ?_
    rintro e w2 ⟨rfl, rfl⟩
    go_wp2_with fail
    go_ret
    exact ⟨.slice a 0 cap, rfl, .inl ⟨by rw [HE.out]; rfl, a, cap, rfl⟩, ⟨rfl, rfl, rfl, Nat.le_refl _, fun _ _ _ => rfl⟩⟩
  · rcases ho.2 with ⟨_, hn⟩ | ⟨g, cap, cur, rfl, hbg, hg, hnc, hcm, hcs, htake⟩
    · exact absurd (List.length_eq_zero_iff.1 hn) h0
    have hgs : g < w.heap.size := (Array.getElem?_eq_some_iff.1 hg).1
    have hH : Sort.Holds encStr w g 0 ns.toArray := by
      intro j hj
      have hj2 : j < ns.length := by simpa using hj
      have hc := ho.cells (g := g) rfl j (strV ns[j]) (by rw [List.getElem?_map, List.getElem?_eq_getElem hj2]; rfl)
      refine ⟨?_, Lib.frozen_of_heap hg _⟩
      rw [getElem!_pos ns.toArray j hj]
      rw [Nat.zero_add]
      have e : encStr ns.toArray[j] = strV ns[j] := by simp [encStr, strV]
      rw [e]
      cases j <;> simpa [Addr.add] using hc
    have HC := hide (Tryz.slices_Sort_string g 0 cap ns w hH hgs (by omega))
    have HH := hide hH
    clear ho hcs htake hg hH
    generalize hS : (ns.mergeSort fun x y => decide (x ≤ y)) = S at *
    have HS := hide hS
    have HSL : Hid (S.length = ns.length) := by show _ = _; rw [← hS, List.length_mergeSort]
    have HO : Hid (ordered ns = Lib.compact S) := by show _ = _; unfold ordered; rw [hS]
    have HLE := hide (compact_le S)
    clear hS
    generalize hn : ns.length = n at *
    have HN := hide hn
    clear hn
    go_enter Tryz.func137, Tryz.ntmps137
    go_wp2_with fail
    refine HC.out.mono ?_
    rintro e w1 ⟨rfl, q, os, hw1⟩
    have HW1 := hide hw1
    have hsz1 : w.heap.size ≤ w1.heap.size := by rw [hw1]; simp [Sort.ahead]
    have hH1 : Sort.Holds encStr w1 g 0 S.toArray := by
      rw [hw1]
      refine Sort.holds_grow _ _ _ _ _ _ (by simp [Sort.ahead]; exact hgs) (Sort.holds_putRow encStr (Sort.ahead w q) g 0 ns.toArray S.toArray (fun j hj => HH.out j hj) ?_)
      simp [HSL.out, HN.out]
    have HG1 : Hid (w.grownBy w1 (some g)) := by show World.grownBy _ _ _; rw [hw1]; exact grownBy_sorted _
    have HC2 := hide (Tryz.slices_Compact_string g 0 cap S w1 hH1 (by rw [HSL.out]; omega) (by rw [HSL.out]; exact hnc))
    rw [HSL.out] at HC2
    have HH1 := hide hH1
    clear hw1 hH1 HC
    generalize hL : Lib.compact S = L at *
    have HL := hide hL
    clear hL
    go_wp2_with fail
    refine HC2.out.mono ?_
    rintro e w2 ⟨rfl, q2, hw2⟩
    have HW2 := hide hw2
    clear hw2 HC2
    go_wp2_with fail
    go_ret
    have hLn : L.length ≤ n := by have := HLE.out; rw [HSL.out] at this; exact this
    refine ⟨.slice (some ⟨g, 0, none⟩) L.length cap, rfl, .inr ⟨g, 0, cap, by rw [HO.out]; simp, by rw [HO.out]; simp; omega, by rw [HO.out]; simp; omega, ?_⟩, ?_⟩
    · intro k s hk
      rw [HO.out, List.getElem?_map] at hk
      have hkl : k < L.length := by
        by_cases h : k < L.length
        · exact h
        · rw [List.getElem?_eq_none (by omega)] at hk; simp at hk
      rw [List.getElem?_eq_getElem hkl] at hk
      simp only [Option.map_some, Option.some.injEq] at hk
      rw [HW2.out, Nat.zero_add]
      have := Sort.cell?_putRow encStr (Sort.ahead w1 q2) g 0 S.toArray (L ++ List.replicate (n - L.length) []).toArray (fun j hj => HH1.out j hj) (by simp [HSL.out]; omega) k (by simp; omega)
      rw [Nat.zero_add] at this
      rw [this, ← hk]
      rw [getElem!_pos _ k (by simp; omega)]
      simp [hkl, encStr, toBA]
    · have h2 : w1.grownBy w2 (some g) := by
        rw [HW2.out]
        have := grownBy_sorted (w := w1) (g := g) (n := q2) (os := #[]) (L ++ List.replicate (n - L.length) []).toArray
        simpa using this
      exact ⟨h2.os.trans HG1.out.os, h2.tape.trans HG1.out.tape, h2.output.trans HG1.out.output, Nat.le_trans HG1.out.size h2.size, fun k hk hr => (h2.block k (Nat.lt_of_lt_of_le hk HG1.out.size) hr).trans (HG1.out.block k hk hr)⟩
set_option maxHeartbeats 1000000 in
set_option maxRecDepth 100000 in
theorem Names_any (ok : Nat → Prop) (x : Ex) (v : Value) (w : World) (h : IsEx ok w x v) (hlen : x.size ≤ 1000000) :
    Calls Tryz.prog 86 #[v] w fun e w' => ∃ sv, e = .returned sv ∧ Strs w' sv ((ordered (x.named true)).map toBA) ∧ Below w.heap.size w w' := by
  have hmf : ∀ (fn : Fn) (first cap : Array Value) (w : World), (Instr.makeFunc fn first cap).run Tryz.prog w = .ok (.func fn first cap) w := fun _ _ _ _ => rfl
  have hb : Below w.heap.size w (w.alloc (.cells #[.slice none 0 0] 65)) := (Below.refl _ w).alloc (Nat.le_refl _) _
  have hx : IsEx (fun g => g < w.heap.size) (w.alloc (.cells #[.slice none 0 0] 65)) x v := IsEx.stay (Stay.below hb) (fun g hg => hg.2) x v (IsEx.lt x v h)
  have hst : St w.heap.size [] (w.alloc (.cells #[.slice none 0 0] 65)) := ⟨_, heap_alloc_new w _, World.ownsRow_nil _ _ _ _⟩
  have HC := hide (each_any 136 true _ names1_any rfl rfl x w.heap.size v [] _ hx hst (by simpa using hlen))
  have HB := hide hb
  have HNL := hide (Ex.named_le true x)
  obtain ⟨tu, yu, hiu⟩ := IsEx.iface x v h
  subst hiu
  clear h hb hx hst
  go_enter Tryz.func86, Tryz.ntmps86
  go_wp2_with fail
  refine HC.out.mono ?_
  rintro e w1 ⟨rfl, hs, hk⟩
  rw [List.nil_append] at hs
  obtain ⟨sv, hp, ho⟩ := hs.ex
  have HO := hide ho
  have c0 : w1.cell? ⟨w.heap.size, 0, none⟩ = some sv := by rw [Lib.cell_of_heap hp]; rfl
  have HI := hide (inOrder_any _ sv _ w1 ho (by have := HNL.out; omega))
  have HB1 := hide (HB.out.trans hk.1)
  obtain ⟨a, n, c, hsv⟩ : ∃ a n c, sv = .slice a n c := by
    rcases ho.2 with ⟨hv, _⟩ | ⟨g, cap, cur, hv, _⟩
    · exact ⟨_, _, _, hv⟩
    · exact ⟨_, _, _, hv⟩
  subst hsv
  clear hs hk hp ho HC
  go_wp2_with fail
  refine HI.out.mono ?_
  rintro e w2 ⟨sv2, rfl, hs2, hg2⟩
  have HS2 := hide hs2
  have HB2 := hide (HB1.out.grown hg2 HB1.out.size (fun k hk => by have := (HO.out.lt k hk).1; omega))
  obtain ⟨a2, n2, c2, hsv2⟩ : ∃ a n c, sv2 = .slice a n c := by
    rcases hs2 with ⟨_, a, cap, h⟩ | ⟨g, o, cap, h, _⟩
    · exact ⟨_, _, _, h⟩
    · exact ⟨_, _, _, h⟩
  subst hsv2
  clear hs2 hg2 HI
  go_wp2_with fail
  go_ret
  exact ⟨.slice a2 n2 c2, rfl, HS2.out, HB2.out⟩
end
section
open Go.RowKit
theorem Tryz.infoName : (Tryz.prog.info? 201).map (fun i => (i.zero, i.size, i.bytes)) = some (some (.agg #[.string ⟨#[]⟩, .int .i64 0, .int .i64 0]), 3, 32) := by kernel_rfl
theorem Tryz.infoRung : (Tryz.prog.info? 230).map (fun i => (i.zero, i.size, i.bytes)) = some (some (.agg #[.int .i64 0, .string ⟨#[]⟩, .nilIface]), 3, 40) := by kernel_rfl
def nmCells (n : Ld.Nme) : List Value := [.string ⟨n.name.toArray⟩, .int .i64 n.kind, .int .i64 n.count]
def rgCells (p : Ld.Rng × Value) : List Value := [.int .i64 p.1.kind, .string ⟨p.1.name.toArray⟩, p.2]
theorem flat3 {α : Type} (f : α → List Value) (hf : ∀ a, (f a).length = 3) : ∀ (l : List α) (i : Nat) (a : α), l[i]? = some a → ∀ j, j < 3 → (l.flatMap f)[i * 3 + j]? = (f a)[j]?
  | [], i, a, h, _, _ => by simp at h
  | b :: r, 0, a, h, j, hj => by
    simp only [List.getElem?_cons_zero, Option.some.injEq] at h
    subst h
    rw [List.flatMap_cons, List.getElem?_append_left (by rw [hf]; omega)]
    congr 1
    omega
  | b :: r, i + 1, a, h, j, hj => by
    simp only [List.getElem?_cons_succ] at h
    have ih := flat3 f hf r i a h j hj
    rw [List.flatMap_cons, List.getElem?_append_right (by rw [hf]; omega), hf]
    have : (i + 1) * 3 + j - 3 = i * 3 + j := by omega
    rw [this]; exact ih
theorem Strs.at {w : World} {sv : Value} {l : List (List UInt8)} (h : Strs w sv (l.map toBA)) : (l = [] ∧ ∃ a c, sv = .slice a 0 c) ∨ ∃ g o c, sv = .slice (some ⟨g, o, none⟩) l.length c ∧ l.length ≤ c ∧ l.length ≤ 1000000 ∧ ∀ k y, l[k]? = some y → w.cell? ⟨g, o + k, none⟩ = some (.string ⟨y.toArray⟩) := by
  rcases h with ⟨h1, h2⟩ | ⟨g, o, c, h1, h2, h3, h4⟩
  · exact .inl ⟨by simpa using h1, h2⟩
  · rw [List.length_map] at h1 h2 h3
    refine .inr ⟨g, o, c, h1, h2, h3, fun k y hk => ?_⟩
    exact h4 k _ (by rw [List.getElem?_map, hk]; rfl)
end
section
open Go.RowKit
theorem isCounted_any (k : Int) (w : World) : Calls Tryz.prog 196 #[.int .i64 k] w fun e w' => e = .returned (.bool (Ld.counted k)) ∧ w' = w := by
  by_cases h3 : k = 3 <;> by_cases h4 : k = 4
  all_goals
    go_enter Tryz.func196, Tryz.ntmps196
    go_wp2
    go_ret
    exact ⟨by simp [Ld.counted, *], rfl⟩
theorem kindOf_any (k : Int) (w : World) : Calls Tryz.prog 159 #[.int .i64 k] w fun e w' => e = .returned (.int .i64 (Ld.kindOf k)) ∧ w' = w := by
  by_cases h4 : k = 4
  · subst h4
    go_enter Tryz.func159, Tryz.ntmps159
    go_wp2
    go_ret
    exact ⟨rfl, rfl⟩
  by_cases h5 : k = 5
  · subst h5
    go_enter Tryz.func159, Tryz.ntmps159
    go_wp2
    go_ret
    exact ⟨rfl, rfl⟩
  by_cases h6 : k = 6
  · subst h6
    go_enter Tryz.func159, Tryz.ntmps159
    go_wp2
    go_ret
    exact ⟨rfl, rfl⟩
  have HK : Hid (Ld.kindOf k = 2) := by show _ = _; simp [Ld.kindOf, h4, h5, h6]
  have e4 : (k == 4) = false := by simpa using h4
  have e5 : (k == 5) = false := by simpa using h5
  have e6 : (k == 6) = false := by simpa using h6
  clear h4 h5 h6
  go_enter Tryz.func159, Tryz.ntmps159
  go_wp2
  go_ret
  exact ⟨by rw [HK.out]; rfl, rfl⟩
theorem mayCount_any (k c : Int) (w : World) : Calls Tryz.prog 158 #[.int .i64 k, .int .i64 c] w fun e w' => e = .returned (.bool (Ld.mayCount k c)) ∧ w' = w := by
  cases hk : Ld.counted k with
  | true =>
    by_cases h1 : 1 ≤ c
    · by_cases h2 : c ≤ 7
      all_goals
        go_enter Tryz.func158, Tryz.ntmps158
        go_wp2_with (go_at_call 196; refine (isCounted_any _ _).mono ?_; rintro e w' ⟨rfl, rfl⟩; rw [hk])
        go_ret
        exact ⟨by simp [Ld.mayCount, *], rfl⟩
    · go_enter Tryz.func158, Tryz.ntmps158
      go_wp2_with (go_at_call 196; refine (isCounted_any _ _).mono ?_; rintro e w' ⟨rfl, rfl⟩; rw [hk])
      go_ret
      exact ⟨by simp [Ld.mayCount, *]; omega, rfl⟩
  | false =>
    by_cases h1 : c = 0
    all_goals
      go_enter Tryz.func158, Tryz.ntmps158
      go_wp2_with (go_at_call 196; refine (isCounted_any _ _).mono ?_; rintro e w' ⟨rfl, rfl⟩; rw [hk])
      go_ret
      exact ⟨by simp [Ld.mayCount, *], rfl⟩
/-- a predicate on names, as a function value: it says this of each, and changes nothing old -/
def NPred (w : World) (f : Value) (p : Ld.Nme → Bool) : Prop := ∃ K c, f = .func (.func K) #[] #[c] ∧ Entered K ∧ ∀ (n : Ld.Nme) (W : World), Below w.heap.size w W → n.name.length ≤ maxLen →
  Calls Tryz.prog K #[.agg #[.string ⟨n.name.toArray⟩, .int .i64 n.kind, .int .i64 n.count], c] W fun e W' => e = .returned (.bool (p n)) ∧ Below W.heap.size W W'
theorem NPred.below {w w' : World} {f : Value} {p : Ld.Nme → Bool} (h : NPred w f p) (hb : Below w.heap.size w w') : NPred w' f p := by
  obtain ⟨K, c, h1, h2, h3⟩ := h
  exact ⟨K, c, h1, h2, fun n W hW => h3 n W (hb.trans (hW.mono hb.size))⟩
set_option maxHeartbeats 1000000 in
set_option maxRecDepth 100000 in
theorem number1_any (b : Nat) (s : List UInt8) (n : Ld.Nme) (w : World) (hc : w.cell? ⟨b, 0, none⟩ = some (.string ⟨s.toArray⟩)) :
    Calls Tryz.prog 103 #[.agg #[.string ⟨n.name.toArray⟩, .int .i64 n.kind, .int .i64 n.count], .pointer (some ⟨b, 0, none⟩)] w fun e w' => e = .returned (.bool (n.name == s)) ∧ Below w.heap.size w w' := by
  obtain ⟨nm, k, c⟩ := n
  go_enter Tryz.func103, Tryz.ntmps103
  have hb1 := bytes_list nm
  have hb2 := bytes_list s
  have hlt : b < w.heap.size := World.block_lt_of_cell? _ _ hc
  go_wp2
  go_ret
  exact ⟨by rfl, (Below.refl _ _).alloc (Nat.le_refl _) _⟩
set_option maxHeartbeats 2000000 in
set_option maxRecDepth 100000 in
theorem indexFunc_any (sv f : Value) (ns : List Ld.Nme) (p : Ld.Nme → Bool) (w : World) (hn : NamesAt w sv ns) (hf : NPred w f p) :
    Calls Tryz.prog 102 #[sv, f] w fun e w' => e = .returned (.int .i64 (Ld.numOf (ns.findIdx? p))) ∧ Below w.heap.size w w' := by
  obtain ⟨K, c, rfl, hent, hp⟩ := hf
  have hent' : ∀ (args : Array Value) (w : World), (callFunc K args).run Tryz.prog w = .ok (.enter K args) w := hent
  have HP := hide hp
  clear hent hp
  rcases hn with ⟨rfl, a, cap, rfl⟩ | ⟨g, cap, rfl, hcap, hlen, hcell⟩
  · go_enter Tryz.func102, Tryz.ntmps102
    go_wp2_with fail
    go_loopw [8] (fun i wr => i = .int .i64 0 ∧ wr = w) (fun _ _ => 0)
    case atStart => exact ⟨rfl, rfl⟩
    case round =>
      obtain ⟨rfl, rfl⟩ := hrel
      go_wp2_with fail
      go_ret
      exact ⟨rfl, Below.refl _ _⟩
  · have HC := hide hcell
    generalize hnn : ns.length = n at *
    have HN := hide hnn
    clear hcell hnn
    go_enter Tryz.func102, Tryz.ntmps102
    go_wp2_with fail
    go_loopw [8] (fun i wr => ∃ k : Nat, k ≤ n ∧ i = .int .i64 (k : Int) ∧ Hid (∀ j x, j < k → ns[j]? = some x → p x = false) ∧ Hid (Below w.heap.size w wr)) (fun i _ => n - (intOf i).toNat)
    case atStart => exact ⟨0, Nat.zero_le _, rfl, fun j x hj => absurd hj (Nat.not_lt_zero j), Below.refl _ _⟩
    case round =>
      obtain ⟨k, hk, rfl, HNO, HB⟩ := hrel
      by_cases hlt : k < n
      · have hkl : k < ns.length := by rw [HN.out]; exact hlt
        obtain ⟨e1, e2, e3, e4, e5⟩ := HC.out k ns[k] (List.getElem?_eq_getElem hkl)
        have c1 := (HB.out.cell (World.block_lt_of_cell? _ _ e1)).trans e1
        have c2 := (HB.out.cell (World.block_lt_of_cell? _ _ e2)).trans e2
        have c3 := (HB.out.cell (World.block_lt_of_cell? _ _ e3)).trans e3
        have HCALL := hide (HP.out ns[k] wr HB.out e4)
        have HHIT : Hid (p ns[k] = true → ns.findIdx? p = some k) := fun hp => by
          rw [List.findIdx?_eq_some_iff_getElem]
          exact ⟨hkl, hp, fun j hj => by rw [HNO.out j ns[j] hj (List.getElem?_eq_getElem (by omega))]; decide⟩
        have HON : Hid (p ns[k] = false → ∀ j x, j < k + 1 → ns[j]? = some x → p x = false) := fun hp j x hj hx => by
          by_cases e : j = k
          · subst e; rw [List.getElem?_eq_getElem hkl] at hx; cases hx; exact hp
          · exact HNO.out j x (by omega) hx
        clear e1 e2 e3 e4 e5
        generalize ns[k] = y at *
        go_wp2_with fail
        refine HCALL.out.mono ?_
        rintro e w1 ⟨rfl, hb1⟩
        have HB1 := hide (HB.out.trans (hb1.mono HB.out.size))
        clear hb1 HCALL
        cases hpy : p y with
        | true =>
          have HF := hide (HHIT.out hpy)
          go_wp2_with fail
          go_ret
          exact ⟨by rw [HF.out]; rfl, HB1.out⟩
        | false =>
          have HF := hide (HON.out hpy)
          go_wp2_with fail
          go_roundw
          case rel => exact ⟨k + 1, by omega, by go_num, HF.out, HB1.out⟩
          case measure => simp [intOf]; omega
      · have hkn : k = n := by omega
        have HF : Hid (ns.findIdx? p = none) := by
          show _ = _
          rw [List.findIdx?_eq_none_iff]
          intro x hx
          obtain ⟨j, hj, rfl⟩ := List.getElem_of_mem hx
          exact HNO.out j _ (by rw [HN.out] at hj; omega) (List.getElem?_eq_getElem hj)
        subst hkn
        go_wp2_with fail
        go_ret
        exact ⟨by rw [HF.out]; rfl, HB.out⟩
set_option maxHeartbeats 2000000 in
set_option maxRecDepth 100000 in
theorem Number_any (ns : List Ld.Nme) (nv rv : Value) (s : List UInt8) (w : World) (hn : NamesAt w nv ns) (hr : ∃ a n c, rv = .slice a n c) :
    Calls Tryz.prog 58 #[.agg #[nv, rv], .string ⟨s.toArray⟩] w fun e w' => e = .returned (.int .i64 (Ld.number ns s)) ∧ Below w.heap.size w w' := by
  have hmf : ∀ (fn : Fn) (first cap : Array Value) (w : World), (Instr.makeFunc fn first cap).run Tryz.prog w = .ok (.func fn first cap) w := fun _ _ _ _ => rfl
  obtain ⟨ra, rn, rc, rfl⟩ := hr
  have HNA := hide hn
  obtain ⟨na, nc, rfl, _⟩ := hn.slice
  clear hn
  generalize ns.length = nn at *
  obtain ⟨w2, hw2⟩ : ∃ w2, w2 = (w.alloc (.cells #[.slice na nn nc, .slice ra rn rc] 83)).alloc (.cells #[.string ⟨s.toArray⟩] 9) := ⟨_, rfl⟩
  have hb2 : Below w.heap.size w w2 := by rw [hw2]; exact ((Below.refl _ _).alloc (Nat.le_refl _) _).alloc (by simp) _
  have hc2 : w2.cell? ⟨w.heap.size + 1, 0, none⟩ = some (.string ⟨s.toArray⟩) := by rw [hw2]; simp [go_sem]
  have hs2 : w2.heap.size = w.heap.size + 1 + 1 := by rw [hw2]; simp
  have HI := hide (indexFunc_any (.slice na nn nc) (.func (.func 103) #[] #[.pointer (some ⟨w.heap.size + 1, 0, none⟩)]) ns (fun n => n.name == s) w2 (HNA.out.below hb2)
    ⟨103, _, rfl, fun _ _ => by kernel_rfl, fun n W hW hn => number1_any _ s n W ((hW.cell (p := ⟨w.heap.size + 1, 0, none⟩) (by show w.heap.size + 1 < _; omega)).trans hc2)⟩)
  rw [hw2] at HI
  have HB2 := hide hb2
  rw [hw2] at HB2
  clear hb2 hc2 hs2 hw2
  go_enter Tryz.func58, Tryz.ntmps58
  go_wp2_with fail
  refine HI.out.mono ?_
  rintro e w3 ⟨rfl, hb3⟩
  have HB3 := hide (HB2.out.trans (hb3.mono HB2.out.size))
  clear hb3 HI
  go_wp2_with fail
  go_ret
  exact ⟨rfl, HB3.out⟩
end
section
open Go.RowKit
theorem ret_int' {a b : Int} (h : a = b) : Ending.returned (.int .i64 a) = .returned (.int .i64 b) := by rw [h]
theorem Name_list (nm : List UInt8) (h : nm.length ≤ maxLen) (w : World) : Calls Tryz.prog 157 #[.string ⟨nm.toArray⟩] w fun e w' => e = .returned (.bool (Nm.name nm)) ∧ w' = w :=
  Name_any ⟨nm.toArray⟩ w (by show nm.toArray.size ≤ maxLen; simpa using h)
set_option maxHeartbeats 2000000 in
set_option maxRecDepth 100000 in
theorem wrongName_any (ns : List Ld.Nme) (nv rv : Value) (i : Nat) (y : Ld.Nme) (w : World) (hn : NamesAt w nv ns) (hr : ∃ a n c, rv = .slice a n c) (hi : ns[i]? = some y) :
    Calls Tryz.prog 118 #[.agg #[nv, rv], .int .i64 (i : Int)] w fun e w' => e = .returned (.int .i64 (Ld.wrongN ns i y : Nat)) ∧ Below w.heap.size w w' := by
  obtain ⟨ra, rn, rc, rfl⟩ := hr
  have HNA := hide hn
  rcases hn with ⟨rfl, _⟩ | ⟨g, cap, rfl, hcap, hlen, hcell⟩
  · simp at hi
  have hil : i < ns.length := by
    by_cases h : i < ns.length
    · exact h
    · rw [List.getElem?_eq_none (by omega)] at hi; cases hi
  obtain ⟨nm, kd, ct⟩ := y
  obtain ⟨e1, e2, e3, e4, e5, e6⟩ := hcell i _ hi
  have hg : g < w.heap.size := World.block_lt_of_cell? _ _ e1
  have HW : Hid (Ld.wrongN ns i ⟨nm, kd, ct⟩ = if Nm.name nm = false then 5 else if kd < 1 ∨ 4 < kd then 1 else if Ld.mayCount kd ct = false then 2 else if Ld.number ns nm < (i : Int) then 9 else 0) := rfl
  have HNUM : Hid (∀ (w : World) (nv : Value), NamesAt w nv ns → Calls Tryz.prog 58 #[.agg #[nv, .slice ra rn rc], .string ⟨nm.toArray⟩] w fun e w' => e = .returned (.int .i64 (Ld.number ns nm)) ∧ Below w.heap.size w w') := fun w nv h => Number_any ns nv _ nm w h ⟨_, _, _, rfl⟩
  have HNAME := hide (Name_list nm e4)
  simp only at e1 e2 e3
  generalize Ld.wrongN ns i ⟨nm, kd, ct⟩ = wr at *
  generalize Ld.number ns nm = num at *
  generalize hnn : ns.length = nn at *
  clear hcell hi e4 e5 e6 hnn
  cases hnm : Nm.name nm with
  | false =>
    have HF : Hid (wr = 5) := by show _ = _; rw [HW.out, if_pos hnm]
    rw [hnm] at HNAME
    clear HW hnm HNUM
    go_enter Tryz.func118, Tryz.ntmps118
    go_wp2_with (go_at_call 157; refine (HNAME.out _).mono ?_; rintro e w' ⟨rfl, rfl⟩)
    go_ret
    exact ⟨by rw [HF.out]; rfl, ((Below.refl _ _).alloc (Nat.le_refl _) _).alloc (by simp) _⟩
  | true =>
    rw [hnm] at HNAME
    have HBB : Hid (Below w.heap.size w ((w.alloc (.cells #[.slice (some ⟨g, 0, none⟩) nn cap, .slice ra rn rc] 83)).alloc (.cells #[.string ⟨nm.toArray⟩, .int .i64 kd, .int .i64 ct] 201))) := ((Below.refl _ _).alloc (Nat.le_refl _) _).alloc (by simp) _
    by_cases hk1 : kd < 1
    · have HF : Hid (wr = 1) := by show _ = _; rw [HW.out, if_neg (by simp [hnm]), if_pos (.inl hk1)]
      clear HW hnm HNUM
      go_enter Tryz.func118, Tryz.ntmps118
      go_wp2_with (go_at_call 157; refine (HNAME.out _).mono ?_; rintro e w' ⟨rfl, rfl⟩)
      go_ret
      exact ⟨by rw [HF.out]; rfl, HBB.out⟩
    by_cases hk2 : 4 < kd
    · have HF : Hid (wr = 1) := by show _ = _; rw [HW.out, if_neg (by simp [hnm]), if_pos (.inr hk2)]
      clear HW hnm HNUM
      go_enter Tryz.func118, Tryz.ntmps118
      go_wp2_with (go_at_call 157; refine (HNAME.out _).mono ?_; rintro e w' ⟨rfl, rfl⟩)
      go_ret
      exact ⟨by rw [HF.out]; rfl, HBB.out⟩
    cases hmc : Ld.mayCount kd ct with
    | false =>
      have HF : Hid (wr = 2) := by show _ = _; rw [HW.out, if_neg (by simp [hnm]), if_neg (by omega), if_pos hmc]
      clear HW hnm HNUM
      go_enter Tryz.func118, Tryz.ntmps118
      go_wp2_with (first | (go_at_call 157; refine (HNAME.out _).mono ?_; rintro e w' ⟨rfl, rfl⟩) | (go_at_call 158; refine (mayCount_any _ _ _).mono ?_; rintro e w' ⟨rfl, rfl⟩; rw [hmc]))
      go_ret
      exact ⟨by rw [HF.out]; rfl, HBB.out⟩
    | true =>
      have HF : Hid (wr = if num < (i : Int) then 9 else 0) := by show _ = _; rw [HW.out, if_neg (by simp [hnm]), if_neg (by omega), if_neg (by simp [hmc])]
      clear HW hnm
      have HC := hide (HNUM.out _ _ (HNA.out.below HBB.out))
      clear HNUM
      go_enter Tryz.func118, Tryz.ntmps118
      go_wp2_with (first | (go_at_call 157; refine (HNAME.out _).mono ?_; rintro e w' ⟨rfl, rfl⟩) | (go_at_call 158; refine (mayCount_any _ _ _).mono ?_; rintro e w' ⟨rfl, rfl⟩; rw [hmc]))
      refine HC.out.mono ?_
      rintro e w3 ⟨rfl, hb3⟩
      have HB3 := hide (HBB.out.trans (hb3.mono HBB.out.size))
      clear hb3 HC
      by_cases hlt : num < (i : Int)
      · go_wp2_with fail
        go_ret
        exact ⟨by rw [HF.out, if_pos hlt]; rfl, HB3.out⟩
      · go_wp2_with fail
        go_ret
        exact ⟨by rw [HF.out, if_neg (by omega)]; rfl, HB3.out⟩
set_option maxHeartbeats 4000000 in
set_option maxRecDepth 100000 in
theorem wrongRung_any (ns : List Ld.Nme) (nv rv v : Value) (r : Ld.Rng) (w : World) (hn : NamesAt w nv ns) (hr : ∃ a n c, rv = .slice a n c) (hc : CondAt w r.cond v) (hl : r.name.length ≤ maxLen) :
    Calls Tryz.prog 119 #[.agg #[nv, rv], .agg #[.int .i64 r.kind, .string ⟨r.name.toArray⟩, v]] w fun e w' => e = .returned (.int .i64 (Ld.wrongR ns r : Nat)) ∧ Below w.heap.size w w' := by
  obtain ⟨ra, rn, rc, rfl⟩ := hr
  have HNA := hide hn
  obtain ⟨na, nc, rfl, _⟩ := hn.slice
  obtain ⟨kd, nm, cond⟩ := r
  simp only at hc hl
  have HNUM := hide (fun (w : World) (s : List UInt8) (h : NamesAt w (.slice na ns.length nc) ns) => Number_any ns _ (.slice ra rn rc) s w h ⟨_, _, _, rfl⟩)
  clear hn
  obtain ⟨n, hnn⟩ : ∃ n, n = ns.length := ⟨_, rfl⟩
  have HN := hide hnn
  rw [← hnn] at HNUM HNA
  rw [← hnn]
  clear hnn
  have HCA := hide hc
  have hv : v = .nilIface ∨ ∃ tu yu, v = .iface tu yu := by
    cases cond with
    | none => exact .inl hc
    | some x => obtain ⟨tu, yu, h⟩ := IsEx.iface x v hc.1; exact .inr ⟨tu, yu, h⟩
  clear hc
  by_cases hk1 : kd < 1
  · have HF : Hid (Ld.wrongR ns ⟨kd, nm, cond⟩ = 1) := by show _ = _; rw [Ld.wrongR, if_pos (.inl hk1)]
    clear HNUM HNA HCA
    rcases hv with rfl | ⟨tu, yu, rfl⟩
    all_goals
      go_enter Tryz.func119, Tryz.ntmps119
      go_wp2_with fail
      go_ret
      exact ⟨by rw [HF.out]; rfl, ((Below.refl _ _).alloc (Nat.le_refl _) _).alloc (by simp) _⟩
  by_cases hk2 : 6 < kd
  · have HF : Hid (Ld.wrongR ns ⟨kd, nm, cond⟩ = 1) := by show _ = _; rw [Ld.wrongR, if_pos (.inr hk2)]
    clear HNUM HNA HCA
    rcases hv with rfl | ⟨tu, yu, rfl⟩
    all_goals
      go_enter Tryz.func119, Tryz.ntmps119
      go_wp2_with fail
      go_ret
      exact ⟨by rw [HF.out]; rfl, ((Below.refl _ _).alloc (Nat.le_refl _) _).alloc (by simp) _⟩
  cases cond with
  | none =>
    obtain rfl : v = .nilIface := HCA.out
    have HF : Hid (Ld.wrongR ns ⟨kd, nm, none⟩ = 1) := by show _ = _; rw [Ld.wrongR, if_neg (by show ¬ (kd < 1 ∨ 6 < kd); omega)]
    clear HNUM HNA HCA hv
    go_enter Tryz.func119, Tryz.ntmps119
    go_wp2_with fail
    go_ret
    exact ⟨by rw [HF.out]; rfl, ((Below.refl _ _).alloc (Nat.le_refl _) _).alloc (by simp) _⟩
  | some x =>
    obtain ⟨hx, hxs, _⟩ := HCA.out
    obtain ⟨tu, yu, rfl⟩ := IsEx.iface x v hx
    have HF : Hid (Ld.wrongR ns ⟨kd, nm, some x⟩ = if Ld.number ns nm < 0 then 7 else if Ld.kindAt ns (Ld.number ns nm) ≠ Ld.kindOf kd then 1 else if Ld.known ns x then 0 else 7) := by show _ = _; rw [Ld.wrongR, if_neg (by show ¬ (kd < 1 ∨ 6 < kd); omega)]
    obtain ⟨wA, hwA⟩ : ∃ wA, wA = (w.alloc (.cells #[.slice na n nc, .slice ra rn rc] 83)).alloc (.cells #[.int .i64 kd, .string ⟨nm.toArray⟩, .iface tu yu] 230) := ⟨_, rfl⟩
    have hbA : Below w.heap.size w wA := by rw [hwA]; exact ((Below.refl _ _).alloc (Nat.le_refl _) _).alloc (by simp) _
    have hsA : wA.heap.size = w.heap.size + 1 + 1 := by rw [hwA]; simp
    have HBX : Hid (∀ W, Below wA.heap.size wA W → (W.cell? ⟨w.heap.size, 0, none⟩ = some (.slice na n nc) ∧ W.cell? ⟨w.heap.size, 1, none⟩ = some (.slice ra rn rc)) ∧ W.cell? ⟨w.heap.size + 1, 0, none⟩ = some (.int .i64 kd) ∧ W.cell? ⟨w.heap.size + 1, 1, none⟩ = some (.string ⟨nm.toArray⟩) ∧ W.cell? ⟨w.heap.size + 1, 2, none⟩ = some (.iface tu yu)) := by
      intro W hW
      have q1 : w.heap.size < wA.heap.size := by omega
      have q2 : w.heap.size + 1 < wA.heap.size := by omega
      rw [hW.cell (p := ⟨w.heap.size, 0, none⟩) q1, hW.cell (p := ⟨w.heap.size, 1, none⟩) q1, hW.cell (p := ⟨w.heap.size + 1, 0, none⟩) q2, hW.cell (p := ⟨w.heap.size + 1, 1, none⟩) q2, hW.cell (p := ⟨w.heap.size + 1, 2, none⟩) q2, hwA]
      simp [go_sem]
    have HBA := hide hbA
    have HSA := hide hsA
    have HWA := hide hwA
    have HX := hide hx
    have HC := hide (HNUM.out wA nm (HNA.out.below hbA))
    have hg1 := Ld.number_ge ns nm
    have hg2 := Ld.number_lt ns nm
    rw [← HN.out] at hg2
    clear hbA hsA hwA hv hx HCA
    obtain ⟨num, hnum⟩ : ∃ num, num = Ld.number ns nm := ⟨_, rfl⟩
    rw [← hnum] at HF HC hg1 hg2
    rw [HWA.out] at HC
    have HNM := hide hnum
    clear hnum
    go_enter Tryz.func119, Tryz.ntmps119
    go_wp2_with fail
    refine HC.out.mono ?_
    rintro e w3 ⟨rfl, hb3⟩
    rw [← HWA.out] at hb3
    have HB3 := hide hb3
    have HB3w := hide (HBA.out.trans (hb3.mono HBA.out.size))
    obtain ⟨⟨p0, p1⟩, q0, q1, q2⟩ := HBX.out w3 hb3
    clear hb3 HC
    by_cases hlt : num < 0
    · have HE : Hid (Ld.wrongR ns ⟨kd, nm, some x⟩ = 7) := by show _ = _; rw [HF.out, if_pos hlt]
      go_wp2_with fail
      go_ret
      exact ⟨by rw [HE.out]; rfl, HB3w.out⟩
    · obtain ⟨k, rfl⟩ : ∃ k : Nat, num = (k : Int) := ⟨num.toNat, by omega⟩
      have hkn : k < n := by omega
      obtain ⟨y, hy⟩ : ∃ y, ns[k]? = some y := ⟨ns[k]'(by rw [← HN.out]; exact hkn), List.getElem?_eq_getElem _⟩
      have HE : Hid (Ld.wrongR ns ⟨kd, nm, some x⟩ = if y.kind ≠ Ld.kindOf kd then 1 else if Ld.known ns x then 0 else 7) := by
        show _ = _
        rw [HF.out, if_neg hlt]
        have : Ld.kindAt ns (k : Int) = y.kind := by rw [Ld.kindAt]; simp [hy]
        rw [this]
      obtain ⟨g, rfl, hca, hyk⟩ : ∃ g, na = some ⟨g, 0, none⟩ ∧ n ≤ nc ∧ w3.cell? ⟨g, k * 3 + 1, none⟩ = some (.int .i64 y.kind) := by
        rcases HNA.out.below HB3w.out with ⟨h0, _⟩ | ⟨g, cap, h1, h2, h3, h4⟩
        · rw [h0] at hy; simp at hy
        · simp only [Value.slice.injEq] at h1
          exact ⟨g, h1.1, by rw [h1.2.2, h1.2.1]; exact h2, (h4 k y hy).2.1⟩
      clear hy HF
      generalize y.kind = yk at *
      generalize hK : Ld.kindOf kd = kk at *
      by_cases hkk : yk = kk
      · have HE2 : Hid (Ld.wrongR ns ⟨kd, nm, some x⟩ = if Ld.known ns x then 0 else 7) := by show _ = _; rw [HE.out, if_neg (by simpa using hkk)]
        have hkb : (yk != kk) = false := by simp [hkk]
        clear HE hkk
        go_wp2_with fail
        go_quiet (first | (go_at_call 159; refine Calls.quiet_of_same (kindOf_any _ _)))
        have HB4 : Hid (Below wA.heap.size wA (w3.drewN nq)) := ⟨HB3.out.os, HB3.out.tape, HB3.out.output, HB3.out.size, HB3.out.block⟩
        have HB4w := hide (HBA.out.trans (HB4.out.mono HBA.out.size))
        have HNC := hide (Names_any _ x _ (w3.drewN nq) (HX.out.aft HB4w.out) hxs)
        go_wp2_with fail
        refine HNC.out.mono ?_
        rintro e w5 ⟨sv, rfl, hsv, hb5⟩
        have HB5 := hide (HB4.out.trans (hb5.mono HB4.out.size))
        have HSV := hide hsv
        have HKN : Hid (Ld.known ns x = (ordered (x.named true)).all fun s => decide (0 ≤ Ld.number ns s)) := by
          show _ = _
          unfold Ld.known
          rw [Bool.eq_iff_iff, List.all_eq_true, List.all_eq_true]
          exact ⟨fun h s hs => h s ((mem_ordered _ _).1 hs), fun h s hs => h s ((mem_ordered _ _).2 hs)⟩
        generalize ordered (x.named true) = os at *
        have hab : ∀ (l : List (List UInt8)) (k : Nat), l[k]? = none ∨ ∃ s, l[k]? = some s := fun l k => by cases l[k]? with | none => exact .inl rfl | some s => exact .inr ⟨s, rfl⟩
        clear HNC hb5 hab
        rcases hsv with ⟨h0, a, cap, rfl⟩ | ⟨gs, o, cap, rfl, hcap, hlen5, hcell5⟩
        · have hos : os = [] := by simpa using h0
          subst hos
          have HE3 : Hid (Ld.wrongR ns ⟨kd, nm, some x⟩ = 0) := by show _ = _; rw [HE2.out, HKN.out]; rfl
          clear h0 HSV
          go_wp2_with fail
          go_loopw [41] (fun i wr => i = .int .i64 0 ∧ wr = w5) (fun _ _ => 0)
          case atStart => exact ⟨rfl, rfl⟩
          case round =>
            obtain ⟨rfl, rfl⟩ := hrel
            go_wp2_with fail
            go_ret
            exact ⟨by rw [HE3.out]; rfl, HBA.out.trans (HB5.out.mono HBA.out.size)⟩
        · rw [List.length_map] at hcap hlen5
          have elen : (os.map toBA).length = os.length := by simp
          rw [elen]
          obtain ⟨m, hm⟩ : ∃ m, m = os.length := ⟨_, rfl⟩
          have HM := hide hm
          have HC5 := hide hcell5
          rw [← hm] at hcap hlen5
          rw [← hm]
          clear hm hcell5 HSV elen
          go_wp2_with fail
          go_loopw [41] (fun i wr => ∃ j : Nat, j ≤ m ∧ i = .int .i64 (j : Int) ∧ Hid ((os.take j).all (fun s => decide (0 ≤ Ld.number ns s)) = true) ∧ Hid (Below w5.heap.size w5 wr)) (fun i _ => m - (intOf i).toNat)
          case atStart => exact ⟨0, Nat.zero_le _, rfl, rfl, Below.refl _ _⟩
          case round =>
            obtain ⟨j, hj, rfl, HALL, HBr⟩ := hrel
            have HBA5 := hide (HB5.out.trans (HBr.out.mono HB5.out.size))
            have HW5 := hide (HBA.out.trans (HBA5.out.mono HBA.out.size))
            by_cases hlt : j < m
            · have hjl : j < os.length := by rw [← HM.out]; exact hlt
              have hcj := HC5.out j (toBA os[j]) (by rw [List.getElem?_map, List.getElem?_eq_getElem hjl]; rfl)
              have hcr := (HBr.out.cell (World.block_lt_of_cell? _ _ hcj)).trans hcj
              unfold toBA at hcr
              obtain ⟨⟨p0, p1⟩, _⟩ := HBX.out wr HBA5.out
              have HCJ := hide (HNUM.out wr os[j] (HNA.out.below HW5.out))
              have HNX : Hid ((os.take (j + 1)).all (fun s => decide (0 ≤ Ld.number ns s)) = decide (0 ≤ Ld.number ns os[j])) := by
                show _ = _
                rw [List.take_succ_eq_append_getElem hjl, List.all_append, HALL.out]; simp
              have HBAD : Hid (¬ 0 ≤ Ld.number ns os[j] → Ld.known ns x = false) := fun h => by
                rw [HKN.out, List.all_eq_false]
                exact ⟨os[j], List.getElem_mem hjl, by simpa using h⟩
              clear hcj
              generalize os[j] = s at *
              generalize Ld.number ns s = nu at *
              go_wp2_with fail
              refine HCJ.out.mono ?_
              rintro e w6 ⟨rfl, hb6⟩
              have HB6 := hide (HBr.out.trans (hb6.mono HBr.out.size))
              clear hb6 HCJ
              by_cases hnu : nu < 0
              · have HE3 : Hid (Ld.wrongR ns ⟨kd, nm, some x⟩ = 7) := by show _ = _; rw [HE2.out, HBAD.out (by omega)]; rfl
                go_wp2_with fail
                go_ret
                exact ⟨by rw [HE3.out]; rfl, HBA.out.trans ((HB5.out.trans (HB6.out.mono HB5.out.size)).mono HBA.out.size)⟩
              · have HA2 : Hid ((os.take (j + 1)).all (fun s => decide (0 ≤ Ld.number ns s)) = true) := by show _ = _; rw [HNX.out]; simp; omega
                go_wp2_with fail
                go_roundw
                case rel => exact ⟨j + 1, by omega, by go_num, HA2.out, HB6.out⟩
                case measure => simp [intOf]; omega
            · have hjm : j = m := by omega
              subst hjm
              have HE3 : Hid (Ld.wrongR ns ⟨kd, nm, some x⟩ = 0) := by
                show _ = _
                have := HALL.out
                rw [List.take_of_length_le (by rw [HM.out]; exact Nat.le_refl _)] at this
                rw [HE2.out, HKN.out, this]; rfl
              go_wp2_with fail
              go_ret
              exact ⟨by rw [HE3.out]; rfl, HW5.out⟩
      · have HE2 : Hid (Ld.wrongR ns ⟨kd, nm, some x⟩ = 1) := by show _ = _; rw [HE.out, if_pos hkk]
        have hkb : (yk != kk) = true := by simpa using hkk
        clear HE hkk
        go_wp2_with fail
        go_quiet (first | (go_at_call 159; refine Calls.quiet_of_same (kindOf_any _ _)))
        go_wp2_with fail
        go_ret
        exact ⟨by rw [HE2.out]; rfl, ⟨HB3w.out.os, HB3w.out.tape, HB3w.out.output, HB3w.out.size, HB3w.out.block⟩⟩
end
end Go.Proofs.YtgldbliohpfljaaGreatDoor
