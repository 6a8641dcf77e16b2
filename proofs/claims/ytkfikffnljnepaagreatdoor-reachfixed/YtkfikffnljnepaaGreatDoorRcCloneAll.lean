/-
  How a set of states grows, in memory. The walks of package reach's within, without, turned and fits, and of slices.ContainsFunc over numbers, slices.Clone over bools. The walks of the functions by which Stays, Comes and Forces ask. The walk of slices.Clone over bools.
-/
import Derived.Test.YtkfikffnljnepaaGreatDoorRcAheadAll
import Derived.Test.YtkfikffnljnepaaGreatDoorRcBRowAll
import Derived.Test.YtkfikffnljnepaaGreatDoorRcMathAll
import Derived.Laws.EntriesVeiled
import Derived.Deep.RegionHeld3
import Derived.Test.YtkfikffnljnepaaGreatDoorMcOffAll
namespace Go.Proofs.YtkfikffnljnepaaGreatDoor
section
open Go.RowKit
namespace Rc
/-- how many are not in -/
def nF (l : List Bool) : Nat := (l.filter (!·)).length
theorem nF_set : ∀ (l : List Bool) (s : Nat), l[s]? = some false → nF (l.set s true) + 1 = nF l
  | [], s, h => by simp at h
  | x :: l, 0, h => by
    simp only [List.getElem?_cons_zero, Option.some.injEq] at h
    subst h
    simp [nF]
  | x :: l, s + 1, h => by
    have ih := nF_set l s (by simpa using h)
    unfold nF at ih ⊢
    rw [List.set_cons_succ, List.filter_cons, List.filter_cons]
    cases x <;> simp <;> omega
/-- those that are in, of the first k -/
def insTo (l : List Bool) (k : Nat) : List Nat := (List.range k).filter fun s => l.getD s false
theorem insTo_succ (l : List Bool) (k : Nat) : insTo l (k + 1) = insTo l k ++ (if l.getD k false then [k] else []) := by
  unfold insTo
  rw [List.range_succ, List.filter_append, List.filter_cons, List.filter_nil]
theorem insTo_len (l : List Bool) (k : Nat) : (insTo l k).length ≤ k := by
  have := List.length_filter_le (fun s => l.getD s false) (List.range k)
  rw [List.length_range] at this
  exact this
theorem insTo_all (l : List Bool) (S : Nat) (hl : l.length = S) (s : Nat) : s ∈ insTo l S ↔ Has l s := by
  unfold insTo Has
  rw [List.mem_filter, List.mem_range]
  refine ⟨fun h => h.2, fun h => ⟨?_, h⟩⟩
  rw [← hl]; exact has_lt h
end Rc
def isF : Value → Bool
  | .bool false => true
  | _ => false
/-- how many cells of a row are false -/
def falses (W : World) (g : Nat) : Nat := match W.heap[g]? with
  | some (.cells cs _ _) => (cs.toList.filter isF).length
  | _ => 0
theorem falses_row {W : World} {g : Nat} {l : List Bool} {rest : List Value} (h : BRow W g l rest) : falses W g = Rc.nF l + (rest.filter isF).length := by
  unfold falses
  rw [show W.heap[g]? = _ from h]
  show ((l.map boolV ++ rest).filter isF).length = _
  rw [List.filter_append, List.length_append, List.filter_map, List.length_map]
  unfold Rc.nF
  congr 2
  apply List.filter_congr
  intro x _
  cases x <;> rfl
/-- a function that tells whether a state enters, as the list stands -/
def Entering (w : World) (gi S : Nat) (rest : List Value) (f : Value) (eB : List Bool → Nat → Bool) : Prop := ∃ K cap, f = .func (.func K) #[] cap ∧ (∀ args w, (callFunc K args).run Tryz.prog w = .ok (.enter K args) w) ∧ ∀ (l : List Bool) (s : Nat) (W : World), w.grownBy W (some gi) → l.length = S → BRow W gi l rest → s < S → Calls Tryz.prog K (#[.int .i64 (s : Int)] ++ cap) W fun e w' => e = .returned (.bool (eB l s)) ∧ Below W.heap.size W w'
/-- what grow comes to -/
def Growed (w : World) (gi S : Nat) (rest : List Value) (E : (Nat → Prop) → Nat → Prop) (l : List Bool) (e : Ending) (w' : World) : Prop := e = .returned (.tuple #[]) ∧ w.grownBy w' (some gi) ∧ ∃ r, Rc.Grown S E l r ∧ BRow w' gi r rest
theorem AhAt.grown {W W' : World} {gA S q gi : Nat} {vs : List Value} {P : Nat → List Nat} (h : AhAt W gA S q vs P) (hg : W.grownBy W' (some gi)) (h1 : gi < gA) (h2 : gA < q) : AhAt W' gA S q vs P :=
  ⟨(hg.block _ h.top.lt (fun e => by cases e; omega)).trans h.top, h.len, fun t v hv => by
    refine (h.own t v hv).kept hg ?_
    cases hb : v.ownBlock with
    | none => exact .inl rfl
    | some b => exact .inr (fun e => by cases e; have := ((h.own t v hv).lt _ hb).1; omega), h.apart⟩
end
section
open Go.RowKit
/-- a function that tells something of a number -/
def SPred (w : World) (f : Value) (p : Nat → Bool) : Prop := ∃ K c, f = .func (.func K) #[] #[c] ∧ (∀ args w, (callFunc K args).run Tryz.prog w = .ok (.enter K args) w) ∧ ∀ (x : Nat) (W : World), Below w.heap.size w W → x ≤ 100000 → Calls Tryz.prog K #[.int .i64 (x : Int), c] W fun e w' => e = .returned (.bool (p x)) ∧ Below W.heap.size W w'
theorem SPred.below {w w' : World} {f : Value} {p : Nat → Bool} (h : SPred w f p) (hb : Below w.heap.size w w') : SPred w' f p := by
  obtain ⟨K, c, h1, h2, h3⟩ := h
  exact ⟨K, c, h1, h2, fun x W hW hx => h3 x W (hb.trans (hW.mono hb.size)) hx⟩
set_option maxHeartbeats 2000000 in
set_option maxRecDepth 100000 in
theorem within1_any (bx gi cp : Nat) (rest : List Value) (l : List Bool) (x : Nat) (w : World) (hx : w.cell? ⟨bx, 0, none⟩ = some (.slice (some ⟨gi, 0, none⟩) l.length cp)) (hr : BRow w gi l rest) :
    Calls Tryz.prog 54 #[.int .i64 (x : Int), .pointer (some ⟨bx, 0, none⟩)] w fun e w' => e = .returned (.bool (l.getD x false)) ∧ Below w.heap.size w w' := by
  obtain ⟨n, hn⟩ : ∃ n, n = l.length := ⟨_, rfl⟩
  by_cases hlt : x < l.length
  · have c0 := hr.cell x _ (List.getElem?_eq_getElem hlt)
    have hg : l.getD x false = l[x] := by simp [hlt]
    rw [hg]
    clear hg
    generalize l[x] = b at *
    rw [← hn] at hx hlt
    have hxi : (x : Int) < (n : Int) := by omega
    clear hn hr
    cases b
    all_goals
      go_enter Tryz.func54, Tryz.ntmps54
      go_wp2_with fail
      go_ret
      exact ⟨rfl, Below.refl _ _⟩
  · have hg : l.getD x false = false := by
      rw [List.getD_eq_getElem?_getD, List.getElem?_eq_none (by omega)]; rfl
    rw [hg]
    clear hg
    rw [← hn] at hx hlt
    have hxi : ¬ (x : Int) < (n : Int) := by omega
    clear hn hr
    go_enter Tryz.func54, Tryz.ntmps54
    go_wp2_with fail
    go_ret
    exact ⟨rfl, Below.refl _ _⟩
set_option maxHeartbeats 2000000 in
set_option maxRecDepth 100000 in
theorem within_any (gi cp : Nat) (rest : List Value) (l : List Bool) (w : World) (hr : BRow w gi l rest) :
    Calls Tryz.prog 31 #[.slice (some ⟨gi, 0, none⟩) l.length cp] w fun e w' => ∃ f, e = .returned f ∧ (∃ c, f = .func (.func 54) #[] #[c]) ∧ SPred w' f (fun x => l.getD x false) ∧ Below w.heap.size w w' := by
  have hmf : ∀ (fn : Fn) (first cap : Array Value) (w : World), (Instr.makeFunc fn first cap).run Tryz.prog w = .ok (.func fn first cap) w := fun _ _ _ _ => rfl
  have HR := hide hr
  have HP : Hid (SPred (w.alloc (.cells #[.slice (some ⟨gi, 0, none⟩) l.length cp] 45)) (.func (.func 54) #[] #[.pointer (some ⟨w.heap.size, 0, none⟩)]) (fun x => l.getD x false)) := by
    refine ⟨_, _, rfl, fun _ _ => by kernel_rfl, fun x W hW _ => ?_⟩
    have h1 : (w.alloc (.cells #[.slice (some ⟨gi, 0, none⟩) l.length cp] 45)).heap[w.heap.size]? = some (.cells #[.slice (some ⟨gi, 0, none⟩) l.length cp] 45 (0, 0)) := heap_alloc_new _ _
    have h2 := (hW.block _ (by simp)).trans h1
    exact within1_any _ gi cp rest l x W (by rw [Lib.cell_of_heap h2]; rfl) ((HR.out.below ((Below.refl _ _).alloc (Nat.le_refl _) _)).below hW)
  obtain ⟨n, hn⟩ : ∃ n, n = l.length := ⟨_, rfl⟩
  rw [← hn] at HP ⊢
  clear hr hn
  go_enter Tryz.func31, Tryz.ntmps31
  go_wp2_with fail
  go_ret
  exact ⟨_, rfl, ⟨_, rfl⟩, HP.out, (Below.refl _ _).alloc (Nat.le_refl _) _⟩
set_option maxHeartbeats 2000000 in
set_option maxRecDepth 100000 in
theorem without1_any (bx : Nat) (f : Value) (p : Nat → Bool) (x : Nat) (w : World) (hx : w.cell? ⟨bx, 0, none⟩ = some f) (hf : SPred w f p) (hx5 : x ≤ 100000) :
    Calls Tryz.prog 55 #[.int .i64 (x : Int), .pointer (some ⟨bx, 0, none⟩)] w fun e w' => e = .returned (.bool (!p x)) ∧ Below w.heap.size w w' := by
  obtain ⟨K, c, rfl, hent, hcall⟩ := hf
  have hent' : ∀ (args : Array Value) (w : World), (callFunc K args).run Tryz.prog w = .ok (.enter K args) w := hent
  have HC := hide (hcall x w (Below.refl _ _) hx5)
  generalize p x = y at *
  clear hcall hent
  go_enter Tryz.func55, Tryz.ntmps55
  go_wp2_with fail
  refine HC.out.mono ?_
  rintro e w1 ⟨rfl, hb1⟩
  have HB := hide hb1
  clear hb1 HC
  cases y
  all_goals
    go_wp2_with fail
    go_ret
    exact ⟨rfl, HB.out⟩
set_option maxHeartbeats 2000000 in
set_option maxRecDepth 100000 in
theorem without_any (gi cp : Nat) (rest : List Value) (l : List Bool) (w : World) (hr : BRow w gi l rest) :
    Calls Tryz.prog 35 #[.slice (some ⟨gi, 0, none⟩) l.length cp] w fun e w' => ∃ f, e = .returned f ∧ (∃ c, f = .func (.func 55) #[] #[c]) ∧ SPred w' f (fun x => !l.getD x false) ∧ Below w.heap.size w w' := by
  have hmf : ∀ (fn : Fn) (first cap : Array Value) (w : World), (Instr.makeFunc fn first cap).run Tryz.prog w = .ok (.func fn first cap) w := fun _ _ _ _ => rfl
  have HW := hide (within_any gi cp rest l w hr)
  obtain ⟨n, hn⟩ : ∃ n, n = l.length := ⟨_, rfl⟩
  rw [← hn] at HW ⊢
  clear hr hn
  go_enter Tryz.func35, Tryz.ntmps35
  go_wp2_with fail
  refine HW.out.mono ?_
  rintro e w1 ⟨f, rfl, ⟨c, rfl⟩, hp, hb1⟩
  have HB := hide (hb1.alloc hb1.size (.cells #[.func (.func 54) #[] #[c]] 82))
  have HP : Hid (SPred (w1.alloc (.cells #[.func (.func 54) #[] #[c]] 82)) (.func (.func 55) #[] #[.pointer (some ⟨w1.heap.size, 0, none⟩)]) (fun x => !l.getD x false)) := by
    refine ⟨_, _, rfl, fun _ _ => by kernel_rfl, fun x W hW hx => ?_⟩
    have h1 : (w1.alloc (.cells #[.func (.func 54) #[] #[c]] 82)).heap[w1.heap.size]? = some (.cells #[.func (.func 54) #[] #[c]] 82 (0, 0)) := heap_alloc_new _ _
    have h2 := (hW.block _ (by simp)).trans h1
    exact without1_any _ _ _ x W (by rw [Lib.cell_of_heap h2]; rfl) ((hp.below ((Below.refl _ _).alloc (Nat.le_refl _) _)).below hW) hx
  clear hp hb1 HW
  go_wp2_with fail
  go_ret
  exact ⟨_, rfl, ⟨_, rfl⟩, HP.out, HB.out⟩
/-- a row of numbers -/
def NRow (W : World) (g : Nat) (xs : List Nat) : Prop := ∀ (i x : Nat), xs[i]? = some x → W.cell? ⟨g, i, none⟩ = some (.int .i64 (x : Int))
theorem NRow.below {W W' : World} {g : Nat} {xs : List Nat} (h : NRow W g xs) (hb : Below W.heap.size W W') : NRow W' g xs := fun i x hx => (hb.cell (World.block_lt_of_cell? _ _ (h i x hx))).trans (h i x hx)
set_option maxHeartbeats 2000000 in
set_option maxRecDepth 100000 in
theorem indexF_any (xs : List Nat) (g n cp : Nat) (f : Value) (p : Nat → Bool) (w : World) (hn : xs.length = n) (hn5 : n ≤ 100000) (h : NRow w g xs) (hx5 : ∀ x, x ∈ xs → x ≤ 100000) (hf : SPred w f p) :
    Calls Tryz.prog 53 #[.slice (some ⟨g, 0, none⟩) n cp, f] w fun e w' => ∃ r : Int, e = .returned (.int .i64 r) ∧ (0 ≤ r ↔ xs.any p = true) ∧ -1 ≤ r ∧ Below w.heap.size w w' := by
  obtain ⟨K, c, rfl, hent, hcall⟩ := hf
  have hent' : ∀ (args : Array Value) (w : World), (callFunc K args).run Tryz.prog w = .ok (.enter K args) w := hent
  have HC := hide hcall
  have HR := hide h
  have HX5 := hide hx5
  have HN := hide hn
  clear hcall hent h hx5 hn
  go_enter Tryz.func53, Tryz.ntmps53
  go_wp2_with fail
  go_loopw [8] (fun i wr => ∃ k : Nat, k ≤ n ∧ i = .int .i64 (k : Int) ∧ Hid ((xs.take k).any p = false) ∧ Hid (Below w.heap.size w wr)) (fun i _ => n - (intOf i).toNat)
  case atStart => exact ⟨0, Nat.zero_le _, rfl, rfl, Below.refl _ _⟩
  case round =>
    obtain ⟨k, hk, rfl, HT, HB⟩ := hrel
    by_cases hlt : k < n
    · have hkl : k < xs.length := by rw [HN.out]; exact hlt
      have hx := List.getElem?_eq_getElem hkl
      have c0 := (HR.out.below HB.out) k _ hx
      have HCL := hide (HC.out xs[k] wr HB.out (HX5.out _ (List.getElem_mem hkl)))
      have HSU : Hid ((xs.take (k + 1)).any p = p xs[k]) := by show _ = _; rw [List.take_succ_eq_append_getElem hkl, List.any_append, HT.out]; simp
      have HMM := hide (List.getElem_mem hkl)
      generalize xs[k] = x at *
      clear hx
      go_wp2_with fail
      refine HCL.out.mono ?_
      rintro e w1 ⟨rfl, hb1⟩
      have HB1 := hide (HB.out.trans (hb1.mono HB.out.size))
      clear hb1 HCL
      cases hp : p x with
      | true =>
        have HA : Hid (xs.any p = true) := List.any_eq_true.2 ⟨x, HMM.out, hp⟩
        clear hp
        go_wp2_with fail
        go_ret
        exact ⟨(k : Int), rfl, ⟨fun _ => HA.out, fun _ => by omega⟩, by omega, HB1.out⟩
      | false =>
        rw [hp] at HSU
        clear hp
        go_wp2_with fail
        go_roundw
        case rel => exact ⟨k + 1, by omega, by go_num, HSU.out, HB1.out⟩
        case measure => simp [intOf]; omega
    · have hkn : k = n := by omega
      have HA : Hid (xs.any p = false) := by have := HT.out; rw [List.take_of_length_le (by rw [HN.out]; omega)] at this; exact this
      subst hkn
      go_wp2_with fail
      go_ret
      exact ⟨-1, rfl, ⟨fun h => by omega, fun h => by rw [HA.out] at h; cases h⟩, by omega, HB.out⟩
set_option maxHeartbeats 2000000 in
set_option maxRecDepth 100000 in
theorem containsF_any (xs : List Nat) (g n cp : Nat) (f : Value) (p : Nat → Bool) (w : World) (hn : xs.length = n) (hn5 : n ≤ 100000) (h : NRow w g xs) (hx5 : ∀ x, x ∈ xs → x ≤ 100000) (hf : SPred w f p) :
    Calls Tryz.prog 30 #[.slice (some ⟨g, 0, none⟩) n cp, f] w fun e w' => e = .returned (.bool (xs.any p)) ∧ Below w.heap.size w w' := by
  have HI := hide (indexF_any xs g n cp f p w hn hn5 h hx5 hf)
  obtain ⟨K, c, rfl, _, _⟩ := hf
  generalize xs.any p = y at *
  clear hn h hx5
  go_enter Tryz.func30, Tryz.ntmps30
  go_wp2_with fail
  refine HI.out.mono ?_
  rintro e w1 ⟨r, rfl, hr, _, hb1⟩
  have HB := hide hb1
  have HE : Hid (decide (0 ≤ r) = y) := by show _ = _; cases y <;> simp_all
  clear hb1 HI hr
  go_wp2_with fail
  go_ret
  exact ⟨by rw [← HE.out]; rfl, HB.out⟩
set_option maxHeartbeats 2000000 in
set_option maxRecDepth 100000 in
theorem fits_any (bm S I gN : Nat) (next : Nat → List Nat) (uN : List Nat) (v : Value) (l : List Bool) (w : World) (h : NextAt w bm S I next gN uN) (hv : Bools w v l) (hl : l.length = S) :
    Calls Tryz.prog 26 #[.pointer (some ⟨bm, 0, none⟩), v] w fun e w' => e = .returned .nilIface ∧ w' = w := by
  obtain ⟨a, c, rfl⟩ := hv.slice
  have c4 := h.1
  have pn := fun w a => ptrNe w a
  rw [hl]
  clear h hv hl
  go_enter Tryz.func26, Tryz.ntmps26
  go_wp2_with fail
  go_ret
  exact ⟨rfl, rfl⟩
set_option maxHeartbeats 2000000 in
set_option maxRecDepth 100000 in
theorem turned_any (v : Value) (l : List Bool) (w : World) (hv : Bools w v l) :
    Calls Tryz.prog 27 #[v] w fun e w' => ∃ g, e = .returned (.slice (some ⟨g, 0, none⟩) l.length l.length) ∧ BRow w' g (Rc.turn l) [] ∧ w.heap.size ≤ g ∧ Below w.heap.size w w' := by
  have HV := hide hv
  have hl6 := hv.len
  obtain ⟨a, c, rfl⟩ := hv.slice
  have mk := fun w => makeBs l.length hl6 w
  obtain ⟨cS, hcS⟩ : ∃ c, c = List.replicate l.length (Value.bool false) := ⟨_, rfl⟩
  rw [← hcS] at mk
  obtain ⟨w1, hw1⟩ : ∃ w1, w1 = w.alloc (.cells ⟨cS⟩ 4) := ⟨_, rfl⟩
  have HR1 : Hid (RowIs w1 w.heap.size 4 (((Rc.turn l).take 0).map boolV ++ List.replicate (l.length - (((Rc.turn l).take 0).map boolV).length) (.bool false))) := by
    show RowIs w1 w.heap.size 4 (List.replicate l.length (.bool false))
    rw [hw1, ← hcS]; exact RowIs.new _ _ _
  have HB1 : Hid (Below w.heap.size w w1) := by rw [hw1]; exact (Below.refl _ _).alloc (Nat.le_refl _) _
  obtain ⟨n, hn⟩ : ∃ n, n = l.length := ⟨_, rfl⟩
  have HN := hide hn
  rw [← hn] at HR1 mk hl6 HV ⊢
  clear hv hcS hn
  go_enter Tryz.func27, Tryz.ntmps27
  go_wp2_with fail
  rw [← hw1]
  clear hw1
  go_loopw [11] (fun i wr => ∃ k : Nat, k ≤ n ∧ i = .int .i64 (k : Int) ∧ Hid (RowIs wr w.heap.size 4 (((Rc.turn l).take k).map boolV ++ List.replicate (n - (((Rc.turn l).take k).map boolV).length) (.bool false))) ∧ Hid (Below w.heap.size w wr)) (fun i _ => n - (intOf i).toNat)
  case atStart => exact ⟨0, Nat.zero_le _, rfl, HR1.out, HB1.out⟩
  case round =>
    obtain ⟨k, hk, rfl, HR, HB⟩ := hrel
    have hlk : (((Rc.turn l).take k).map boolV).length = k := by rw [List.length_map, List.length_take, Rc.turn_len, ← HN.out]; omega
    by_cases hlt : k < n
    · have hkl : k < l.length := by rw [← HN.out]; exact hlt
      have hkt : k < (Rc.turn l).length := by rw [Rc.turn_len]; exact hkl
      have hx := List.getElem?_eq_getElem hkl
      obtain ⟨a2, c2, e2, _, b2⟩ := HV.out.below HB.out
      simp only [Value.slice.injEq] at e2
      obtain ⟨gv, ga, c0⟩ := b2 k _ hx
      obtain ⟨e2, _, _⟩ := e2
      rw [ga] at e2
      subst e2
      have d0 : wr.cell? ⟨w.heap.size, k, none⟩ = some (.bool false) := HR.out.cell k _ (by rw [List.getElem?_append_right (by omega), List.getElem?_replicate, if_pos (by omega)])
      have f0 := HR.out.frozen k
      have hte : (Rc.turn l)[k] = !l[k] := by simp [Rc.turn]
      have HRN : Hid (RowIs (wr.setCell ⟨w.heap.size, k, none⟩ (.bool (!l[k]))) w.heap.size 4 (((Rc.turn l).take (k + 1)).map boolV ++ List.replicate (n - (((Rc.turn l).take (k + 1)).map boolV).length) (.bool false))) := by
        have h1 := HR.out.set k (.bool (!l[k]))
        have h2 := fill_set (((Rc.turn l).take k).map boolV) (.bool false) (.bool (!l[k])) n (by omega)
        rw [hlk] at h2
        rw [hlk, h2] at h1
        rw [List.take_succ_eq_append_getElem hkt, List.map_append, hte]
        exact h1
      have HBN : Hid (Below w.heap.size w (wr.setCell ⟨w.heap.size, k, none⟩ (.bool (!l[k])))) := HB.out.setCell (p := ⟨w.heap.size, k, none⟩) (Nat.le_refl _) _
      generalize l[k] = x at *
      clear hlk hx hte b2 ga
      cases x
      all_goals
        go_wp2_with fail
        go_roundw
        case rel => exact ⟨k + 1, by omega, by go_num, HRN.out, HBN.out⟩
        case measure => simp [intOf]; omega
    · have hkn : k = n := by omega
      subst hkn
      have hrow := HR.out
      rw [hlk, Nat.sub_self, List.replicate_zero, List.take_of_length_le (by rw [Rc.turn_len, ← HN.out]; exact Nat.le_refl _)] at hrow
      have HRF := hide hrow
      clear hrow hlk
      go_wp2_with fail
      go_ret
      exact ⟨w.heap.size, rfl, HRF.out, Nat.le_refl _, HB.out⟩
end
section
open Go.RowKit
set_option maxHeartbeats 4000000 in
set_option maxRecDepth 100000 in
theorem stays1_any (bM bO bm S I gN gi cp : Nat) (next : Nat → List Nat) (uN : List Nat) (rest : List Value) (l : List Bool) (s : Nat) (w : World) (hM : w.cell? ⟨bM, 0, none⟩ = some (.pointer (some ⟨bm, 0, none⟩))) (hO : w.cell? ⟨bO, 0, none⟩ = some (.slice (some ⟨gi, 0, none⟩) S cp)) (h : NextAt w bm S I next gN uN) (hS : S ≤ 4096) (hI : I ≤ 64) (hnl : ∀ s, (next s).length = I) (hnx : ∀ f s, f < S → s ∈ next f → s < S) (hl : l.length = S) (hr : BRow w gi l rest) (hs : s < S) :
    Calls Tryz.prog 29 #[.int .i64 (s : Int), .pointer (some ⟨bM, 0, none⟩), .pointer (some ⟨bO, 0, none⟩)] w fun e w' => e = .returned (.bool ((next s).any (fun t => l.getD t false))) ∧ Below w.heap.size w w' := by
  obtain ⟨bN, hbN⟩ : ∃ b, uN[s]? = some b := ⟨_, List.getElem?_eq_getElem (by rw [h.2.1]; exact hs)⟩
  have c4 := h.1
  obtain ⟨t0, hrow⟩ := h.2.2 s bN hbN
  have HK : Hid (∀ W, Below w.heap.size w W → W.cell? ⟨bM, 0, none⟩ = some (.pointer (some ⟨bm, 0, none⟩)) ∧ W.cell? ⟨bO, 0, none⟩ = some (.slice (some ⟨gi, 0, none⟩) S cp) ∧ W.cell? ⟨bm, 4, none⟩ = some (.slice (some ⟨gN, 0, none⟩) S S) ∧ W.cell? ⟨gN, s, none⟩ = some (.slice (some ⟨bN, 0, none⟩) I I)) := fun W hW =>
    have key : ∀ (p : Addr) v, w.cell? p = some v → W.cell? p = some v := fun _ _ hv => (hW.cell (World.block_lt_of_cell? _ _ hv)).trans hv
    ⟨key _ _ hM, key _ _ hO, key _ _ c4, key _ _ t0⟩
  have HD : Hid (Below w.heap.size w w.drew) := ⟨rfl, rfl, rfl, Nat.le_refl _, fun _ _ => rfl⟩
  have HWI := hide (fun W (hW : Below w.heap.size w W) => within_any gi cp rest l W (hr.below hW))
  rw [hl] at HWI
  have HCF := hide (fun W f (hW : Below w.heap.size w W) (hf : SPred W f (fun x => l.getD x false)) => containsF_any (next s) bN I I f (fun x => l.getD x false) W (hnl s) (by omega) (NRow.below (show NRow w bN (next s) from hrow) hW) (fun x hx => by have := hnx s x hs hx; omega) hf)
  have hsi : (s : Int) < (S : Int) := by omega
  clear h hrow hnl hnx hr hl
  go_enter Tryz.func29, Tryz.ntmps29
  go_wp2_with fail
  go_region_held3 (fun W => W.cell? ⟨bM, 0, none⟩ = some (.pointer (some ⟨bm, 0, none⟩)) ∧ W.cell? ⟨bO, 0, none⟩ = some (.slice (some ⟨gi, 0, none⟩) S cp) ∧ W.cell? ⟨bm, 4, none⟩ = some (.slice (some ⟨gN, 0, none⟩) S S) ∧ W.cell? ⟨gN, s, none⟩ = some (.slice (some ⟨bN, 0, none⟩) I I)) ((refine HK.out _ ?_; first | exact HD.out | exact HB2.out | exact HB3.out | exact Below.refl _ _)) ((first
    | (go_at_call 31; (with_reducible refine (HWI.out _ HD.out).mono ?_); rintro e w2 ⟨f, rfl, ⟨c, rfl⟩, hp, hb2⟩; have HB2 : Hid (Below w.heap.size w w2) := HD.out.trans hb2; have HP := hide hp; clear hp hb2)
    | (go_at_call 30; (with_reducible refine (HCF.out _ _ HB2.out HP.out).mono ?_); rintro e w3 ⟨rfl, hb3⟩; have HB3 : Hid (Below w.heap.size w w3) := HB2.out.trans (hb3.mono HB2.out.size); clear hb3)))
  go_wp2_with fail
  go_ret
  exact ⟨rfl, HB3.out⟩
set_option maxHeartbeats 4000000 in
set_option maxRecDepth 100000 in
theorem comes1_any (bM bO bm S I gN gi cp : Nat) (next : Nat → List Nat) (uN : List Nat) (rest : List Value) (l : List Bool) (s : Nat) (w : World) (hM : w.cell? ⟨bM, 0, none⟩ = some (.pointer (some ⟨bm, 0, none⟩))) (hO : w.cell? ⟨bO, 0, none⟩ = some (.slice (some ⟨gi, 0, none⟩) S cp)) (h : NextAt w bm S I next gN uN) (hS : S ≤ 4096) (hI : I ≤ 64) (hnl : ∀ s, (next s).length = I) (hnx : ∀ f s, f < S → s ∈ next f → s < S) (hl : l.length = S) (hr : BRow w gi l rest) (hs : s < S) :
    Calls Tryz.prog 33 #[.int .i64 (s : Int), .pointer (some ⟨bM, 0, none⟩), .pointer (some ⟨bO, 0, none⟩)] w fun e w' => e = .returned (.bool ((next s).any (fun t => l.getD t false))) ∧ Below w.heap.size w w' := by
  obtain ⟨bN, hbN⟩ : ∃ b, uN[s]? = some b := ⟨_, List.getElem?_eq_getElem (by rw [h.2.1]; exact hs)⟩
  have c4 := h.1
  obtain ⟨t0, hrow⟩ := h.2.2 s bN hbN
  have HK : Hid (∀ W, Below w.heap.size w W → W.cell? ⟨bM, 0, none⟩ = some (.pointer (some ⟨bm, 0, none⟩)) ∧ W.cell? ⟨bO, 0, none⟩ = some (.slice (some ⟨gi, 0, none⟩) S cp) ∧ W.cell? ⟨bm, 4, none⟩ = some (.slice (some ⟨gN, 0, none⟩) S S) ∧ W.cell? ⟨gN, s, none⟩ = some (.slice (some ⟨bN, 0, none⟩) I I)) := fun W hW =>
    have key : ∀ (p : Addr) v, w.cell? p = some v → W.cell? p = some v := fun _ _ hv => (hW.cell (World.block_lt_of_cell? _ _ hv)).trans hv
    ⟨key _ _ hM, key _ _ hO, key _ _ c4, key _ _ t0⟩
  have HD : Hid (Below w.heap.size w w.drew) := ⟨rfl, rfl, rfl, Nat.le_refl _, fun _ _ => rfl⟩
  have HWI := hide (fun W (hW : Below w.heap.size w W) => within_any gi cp rest l W (hr.below hW))
  rw [hl] at HWI
  have HCF := hide (fun W f (hW : Below w.heap.size w W) (hf : SPred W f (fun x => l.getD x false)) => containsF_any (next s) bN I I f (fun x => l.getD x false) W (hnl s) (by omega) (NRow.below (show NRow w bN (next s) from hrow) hW) (fun x hx => by have := hnx s x hs hx; omega) hf)
  have hsi : (s : Int) < (S : Int) := by omega
  clear h hrow hnl hnx hr hl
  go_enter Tryz.func33, Tryz.ntmps33
  go_wp2_with fail
  go_region_held3 (fun W => W.cell? ⟨bM, 0, none⟩ = some (.pointer (some ⟨bm, 0, none⟩)) ∧ W.cell? ⟨bO, 0, none⟩ = some (.slice (some ⟨gi, 0, none⟩) S cp) ∧ W.cell? ⟨bm, 4, none⟩ = some (.slice (some ⟨gN, 0, none⟩) S S) ∧ W.cell? ⟨gN, s, none⟩ = some (.slice (some ⟨bN, 0, none⟩) I I)) ((refine HK.out _ ?_; first | exact HD.out | exact HB2.out | exact HB3.out | exact Below.refl _ _)) ((first
    | (go_at_call 31; (with_reducible refine (HWI.out _ HD.out).mono ?_); rintro e w2 ⟨f, rfl, ⟨c, rfl⟩, hp, hb2⟩; have HB2 : Hid (Below w.heap.size w w2) := HD.out.trans hb2; have HP := hide hp; clear hp hb2)
    | (go_at_call 30; (with_reducible refine (HCF.out _ _ HB2.out HP.out).mono ?_); rintro e w3 ⟨rfl, hb3⟩; have HB3 : Hid (Below w.heap.size w w3) := HB2.out.trans (hb3.mono HB2.out.size); clear hb3)))
  go_wp2_with fail
  go_ret
  exact ⟨rfl, HB3.out⟩
set_option maxHeartbeats 4000000 in
set_option maxRecDepth 100000 in
theorem forces1_any (bM bO bm S I gN gi cp : Nat) (next : Nat → List Nat) (uN : List Nat) (rest : List Value) (l : List Bool) (s : Nat) (w : World) (hM : w.cell? ⟨bM, 0, none⟩ = some (.pointer (some ⟨bm, 0, none⟩))) (hO : w.cell? ⟨bO, 0, none⟩ = some (.slice (some ⟨gi, 0, none⟩) S cp)) (h : NextAt w bm S I next gN uN) (hS : S ≤ 4096) (hI : I ≤ 64) (hnl : ∀ s, (next s).length = I) (hnx : ∀ f s, f < S → s ∈ next f → s < S) (hl : l.length = S) (hr : BRow w gi l rest) (hs : s < S) :
    Calls Tryz.prog 34 #[.int .i64 (s : Int), .pointer (some ⟨bM, 0, none⟩), .pointer (some ⟨bO, 0, none⟩)] w fun e w' => e = .returned (.bool (!(next s).any (fun t => !l.getD t false))) ∧ Below w.heap.size w w' := by
  obtain ⟨bN, hbN⟩ : ∃ b, uN[s]? = some b := ⟨_, List.getElem?_eq_getElem (by rw [h.2.1]; exact hs)⟩
  have c4 := h.1
  obtain ⟨t0, hrow⟩ := h.2.2 s bN hbN
  have HK : Hid (∀ W, Below w.heap.size w W → W.cell? ⟨bM, 0, none⟩ = some (.pointer (some ⟨bm, 0, none⟩)) ∧ W.cell? ⟨bO, 0, none⟩ = some (.slice (some ⟨gi, 0, none⟩) S cp) ∧ W.cell? ⟨bm, 4, none⟩ = some (.slice (some ⟨gN, 0, none⟩) S S) ∧ W.cell? ⟨gN, s, none⟩ = some (.slice (some ⟨bN, 0, none⟩) I I)) := fun W hW =>
    have key : ∀ (p : Addr) v, w.cell? p = some v → W.cell? p = some v := fun _ _ hv => (hW.cell (World.block_lt_of_cell? _ _ hv)).trans hv
    ⟨key _ _ hM, key _ _ hO, key _ _ c4, key _ _ t0⟩
  have HD : Hid (Below w.heap.size w w.drew) := ⟨rfl, rfl, rfl, Nat.le_refl _, fun _ _ => rfl⟩
  have HWI := hide (fun W (hW : Below w.heap.size w W) => without_any gi cp rest l W (hr.below hW))
  rw [hl] at HWI
  have HCF := hide (fun W f (hW : Below w.heap.size w W) (hf : SPred W f (fun x => !l.getD x false)) => containsF_any (next s) bN I I f (fun x => !l.getD x false) W (hnl s) (by omega) (NRow.below (show NRow w bN (next s) from hrow) hW) (fun x hx => by have := hnx s x hs hx; omega) hf)
  have hsi : (s : Int) < (S : Int) := by omega
  clear h hrow hnl hnx hr hl
  go_enter Tryz.func34, Tryz.ntmps34
  go_wp2_with fail
  go_region_held3 (fun W => W.cell? ⟨bM, 0, none⟩ = some (.pointer (some ⟨bm, 0, none⟩)) ∧ W.cell? ⟨bO, 0, none⟩ = some (.slice (some ⟨gi, 0, none⟩) S cp) ∧ W.cell? ⟨bm, 4, none⟩ = some (.slice (some ⟨gN, 0, none⟩) S S) ∧ W.cell? ⟨gN, s, none⟩ = some (.slice (some ⟨bN, 0, none⟩) I I)) ((refine HK.out _ ?_; first | exact HD.out | exact HB2.out | exact HB3.out | exact Below.refl _ _)) ((first
    | (go_at_call 35; (with_reducible refine (HWI.out _ HD.out).mono ?_); rintro e w2 ⟨f, rfl, ⟨c, rfl⟩, hp, hb2⟩; have HB2 : Hid (Below w.heap.size w w2) := HD.out.trans hb2; have HP := hide hp; clear hp hb2)
    | (go_at_call 30; (with_reducible refine (HCF.out _ _ HB2.out HP.out).mono ?_); rintro e w3 ⟨rfl, hb3⟩; have HB3 : Hid (Below w.heap.size w w3) := HB2.out.trans (hb3.mono HB2.out.size); clear hb3)))
  generalize ((next s).any fun x => !l.getD x false) = y at *
  cases y
  all_goals
    go_wp2_with fail
    go_ret
    exact ⟨rfl, HB3.out⟩
end
section
open Go.RowKit
theorem eqNilB_some (w : World) (a : Addr) (n c : Nat) : (binOp BinOp.eql 45 (.slice (some a) n c) (.slice none 0 0)).run Tryz.prog w = .ok (.bool false) w := by kernel_rfl
set_option maxHeartbeats 2000000 in
set_option maxRecDepth 100000 in
theorem cloneB_any (l : List Bool) (v : Value) (w : World) (h : Bools w v l) (hn0 : 0 < l.length) :
    Calls Tryz.prog 32 #[v] w fun e w' => ∃ g cp rest, e = .returned (.slice (some ⟨g, 0, none⟩) l.length cp) ∧ l.length ≤ cp ∧ BRow w' g l rest ∧ w.heap.size ≤ g ∧ Below w.heap.size w w' := by
  obtain ⟨i0, hi0, hz0, hz1, hz2⟩ := info_parts Tryz.infoBool
  have q1 := fun a n c => eqNilB_some w a n c
  have HBA : Hid (Below w.heap.size w (w.alloc (.cells #[] 4))) := (Below.refl _ w).alloc (Nat.le_refl _) _
  obtain ⟨a, cap, rfl, hlen, hat⟩ := h
  obtain ⟨g, rfl, _⟩ := hat 0 _ (List.getElem?_eq_getElem hn0)
  have HOWN : Hid ((w.alloc (.cells #[] 4)).ownsRow w.heap.size 4 1 (.slice (some ⟨w.heap.size, 0, none⟩) 0 0) 0 []) := own_zero w w.heap.size 4 1 (Nat.le_refl _)
  have HNEW : Hid (∀ j u, (l.map boolV)[j]? = some u → (w.alloc (.cells #[] 4)).cell? ((⟨g, 0, none⟩ : Addr).add j) = some u) := by
    intro j u hu
    have e : (⟨g, 0, none⟩ : Addr).add j = ⟨g, j, none⟩ := by unfold Addr.add; split <;> simp_all
    rw [e]
    rw [List.getElem?_map] at hu
    cases hb : l[j]? with
    | none => rw [hb] at hu; cases hu
    | some b =>
      rw [hb] at hu
      simp only [Option.map_some, Option.some.injEq] at hu
      subst hu
      obtain ⟨g', hg', hc⟩ := hat j b hb
      simp only [Option.some.injEq, Addr.mk.injEq] at hg'
      obtain ⟨rfl, _⟩ := hg'
      exact (HBA.out.cell (World.block_lt_of_cell? _ _ hc)).trans hc
  have HONE : Hid (∀ u ∈ l.map boolV, u.oneCell' = true) := by
    intro u hu
    obtain ⟨b, _, rfl⟩ := List.mem_map.1 hu
    rfl
  have HLC : Hid ((l.map boolV).length = l.length * 1) := by show _ = _; simp
  obtain ⟨n, hnn⟩ : ∃ n, n = l.length := ⟨_, rfl⟩
  have HN := hide hnn
  rw [← hnn] at hlen hn0 HLC ⊢
  clear hat hnn
  go_enter Tryz.func32, Tryz.ntmps32
  go_wp2_with (at_builtin; refine wpList_append_lies _ rfl (.tmp 5) (.tmp 6) 45 rfl w.heap.size 4 i0 _ 1 1 Tryz.underlying45 hi0 hz0 hz1 hz2 rfl (by decide) (.slice (some ⟨w.heap.size, 0, none⟩) 0 0) 0 [] rfl HOWN.out ⟨g, 0, none⟩ n cap (l.map boolV) rfl HLC.out HNEW.out HONE.out hn0 (by unfold maxLen; omega) (by omega) (by simp) (w.heap.size + 1) (by simp) ?_; intro g2 cap2 wC hown hgrow hat2 hltg)
  go_ret
  rcases hown.2 with ⟨hx, _⟩ | ⟨g3, cap3, cur, hx, hg3, hcur, hc3, _, _, htk⟩
  · cases hx
  · simp only [Value.slice.injEq, Option.some.injEq, Addr.mk.injEq] at hx
    obtain ⟨⟨rfl, _⟩, _, rfl⟩ := hx
    refine ⟨g2, cap2, cur.toList.drop n, rfl, by omega, ?_, hg3, HBA.out.grown hgrow (by simp) (fun j e => by simp only [Value.ownBlock, Option.some.injEq] at e; omega)⟩
    have e : l.map boolV ++ cur.toList.drop n = cur.toList := by
      rw [Nat.zero_add, Nat.mul_one, List.nil_append] at htk
      rw [← htk, List.take_append_drop]
    show RowIs wC g2 4 (l.map boolV ++ cur.toList.drop n)
    rw [e]
    exact hcur
end
end Go.Proofs.YtkfikffnljnepaaGreatDoor
