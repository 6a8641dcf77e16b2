/-
  The walks of the document's small functions of chapter 2: Number, Kind, index, within. Plain facts on how the document reads a program's line. The walk of the document's row: parts with a sign between. The walks of the document's whole: parts with | between, of pieces with & between. The walk of the document's piece.
-/
import Derived.Test.YtgldbliohpfljaaGreatDoorLdKindAll
import Derived.Test.YtgldbliohpfljaaGreatDoorRpRuneAll
import Derived.Deep.DeepCutAuto
import Derived.Deep.CutBlock
namespace Go.Proofs.YtgldbliohpfljaaGreatDoor
section
open Go.RowKit
theorem rwithin_any (n a b : Int) (w : World) : Calls Tryz.prog 149 #[.int .i64 n, .int .i64 a, .int .i64 b] w fun e w' => e = .returned (.bool (decide (a ≤ n) && decide (n ≤ b))) ∧ w' = w := by
  by_cases h1 : a ≤ n
  · go_enter Tryz.func149, Tryz.ntmps149
    go_wp2
    go_ret
    exact ⟨by simp [h1], rfl⟩
  · have e : (decide (a ≤ n) && decide (n ≤ b)) = false := by rw [decide_eq_false h1]; rfl
    have HE := hide e
    clear e
    go_enter Tryz.func149, Tryz.ntmps149
    go_wp2
    go_ret
    exact ⟨by rw [HE.out]; rfl, rfl⟩
set_option maxHeartbeats 2000000 in
set_option maxRecDepth 100000 in
theorem rNumber_any (ns : List Ld.Nme) (nv rv : Value) (s : List UInt8) (w : World) (hn : NamesAt w nv ns) (hr : ∃ a n c, rv = .slice a n c) :
    Calls Tryz.prog 23 #[.agg #[nv, rv], .string ⟨s.toArray⟩] w fun e w' => e = .returned (.int .i64 (Ld.number ns s)) ∧ Below w.heap.size w w' := by
  obtain ⟨ra, rn, rc, rfl⟩ := hr
  have HNA := hide hn
  obtain ⟨na, nc, rfl, hl6⟩ := hn.slice
  obtain ⟨nn, hnn⟩ : ∃ nn, nn = ns.length := ⟨_, rfl⟩
  have HNN := hide hnn
  rw [← hnn] at HNA hl6 ⊢
  clear hn hnn
  have hbs := bytes_list s
  go_enter Tryz.func23, Tryz.ntmps23
  go_wp2_with fail
  go_loopw [10] (fun i wr => ∃ k : Nat, k ≤ nn ∧ i = .int .i64 (k : Int) ∧ Hid (∀ j x, j < k → ns[j]? = some x → (x.name == s) = false) ∧ Hid (Below w.heap.size w wr)) (fun i _ => nn - (intOf i).toNat)
  case atStart => exact ⟨0, Nat.zero_le _, rfl, fun j x hj => absurd hj (Nat.not_lt_zero j), (Below.refl _ _).alloc (Nat.le_refl _) _⟩
  case round =>
    obtain ⟨k, hk, rfl, HNO, HB⟩ := hrel
    by_cases hlt : k < nn
    · have hkl : k < ns.length := by rw [← HNN.out]; exact hlt
      obtain ⟨g, hga, hcap, e1, e2, e3, e4, e5, e6⟩ := (HNA.out.below HB.out).at_ (List.getElem?_eq_getElem hkl)
      subst hga
      have HHIT : Hid ((ns[k].name == s) = true → Ld.number ns s = (k : Int)) := fun hp => Ld.number_hit ns s k hkl hp (fun j hj => HNO.out j _ hj (List.getElem?_eq_getElem (by omega)))
      have HON : Hid ((ns[k].name == s) = false → ∀ j x, j < k + 1 → ns[j]? = some x → (x.name == s) = false) := fun hp j x hj hx => by
        by_cases e : j = k
        · subst e; rw [List.getElem?_eq_getElem hkl] at hx; cases hx; exact hp
        · exact HNO.out j x (by omega) hx
      have HBA : Hid (∀ o, Below w.heap.size w (wr.alloc o)) := fun o => HB.out.alloc HB.out.size o
      have hbn := bytes_list ns[k].name
      have hki : (k : Int) < (nn : Int) := by omega
      generalize hy : ns[k] = y at *
      obtain ⟨nm, kd, ct⟩ := y
      clear hy
      dsimp only at e1 e2 e3 hbn HHIT HON
      cases hp : (nm == s) with
      | true =>
        have HF := hide (HHIT.out hp)
        go_wp2_with fail
        go_ret
        exact ⟨by rw [HF.out]; rfl, HBA.out _⟩
      | false =>
        have HF := hide (HON.out hp)
        go_wp2_with fail
        exact ⟨⟨k + 1, by omega, by go_num, HF.out, HBA.out _⟩, by simp [intOf]; omega⟩
    · have hkn : k = nn := by omega
      have HF : Hid (Ld.number ns s = -1) := Ld.number_none ns s (fun j hj => HNO.out j _ (by rw [← HNN.out] at hj; omega) (List.getElem?_eq_getElem hj))
      subst hkn
      go_wp2_with fail
      go_ret
      exact ⟨by rw [HF.out]; rfl, HB.out⟩
set_option maxHeartbeats 4000000 in
set_option maxRecDepth 100000 in
theorem rKind_any (ns : List Ld.Nme) (nv rv : Value) (s : Int) (w : World) (hn : NamesAt w nv ns) (hr : ∃ a n c, rv = .slice a n c) :
    Calls Tryz.prog 72 #[.agg #[nv, rv], .int .i64 s] w fun e w' => ∃ v, e = .returned v ∧ w'.ownsRow w.heap.size 3 1 v (Ld.kindL ns s).length ((Ld.kindL ns s).map intV) ∧ Below w.heap.size w w' := by
  obtain ⟨ra, rn, rc, rfl⟩ := hr
  obtain ⟨i0, hi0, hz0, hz1, hz2⟩ := info_parts Tryz.infoInt
  have HNA := hide hn
  obtain ⟨na, nc, rfl, hlen⟩ := hn.slice
  obtain ⟨n, hnn⟩ : ∃ n, n = ns.length := ⟨_, rfl⟩
  have HN := hide hnn
  have HKL : Hid (Ld.kindL ns s = Ld.placesTo (fun n => n.kind == s) ns n) := by show _ = _; rw [hnn]; rfl
  rw [HKL.out]
  rw [← hnn] at HNA hlen
  rw [← hnn]
  clear hnn hn
  go_enter Tryz.func72, Tryz.ntmps72
  go_wp2_with fail
  go_loopw [5, 11] (fun l i wr => ∃ k : Nat, k ≤ n ∧ i = .int .i64 (k : Int) ∧ (∃ a c, l = .slice a (Ld.placesTo (fun n => n.kind == s) ns k).length c) ∧ Hid (wr.ownsRow w.heap.size 3 1 l (Ld.placesTo (fun n => n.kind == s) ns k).length ((Ld.placesTo (fun n => n.kind == s) ns k).map intV)) ∧ Hid (Below w.heap.size w wr)) (fun _ i _ => n - (intOf i).toNat)
  case atStart => exact ⟨0, Nat.zero_le _, rfl, ⟨_, _, rfl⟩, World.ownsRow_nil _ _ _ _, (Below.refl _ _).alloc (Nat.le_refl _) _⟩
  case round =>
    obtain ⟨k, hk, rfl, ⟨la, lc, rfl⟩, HO, HB⟩ := hrel
    have hple := Ld.placesTo_le (fun n => n.kind == s) ns k
    by_cases hlt : k < n
    · have hkl : k < ns.length := by rw [← HN.out]; exact hlt
      obtain ⟨g, hga, hcap, e1, e2, e3, e4, e5, e6⟩ := (HNA.out.below HB.out).at_ (List.getElem?_eq_getElem hkl)
      subst hga
      have HSU := hide (Ld.placesTo_succ (fun n => n.kind == s) ns k hkl)
      have hki : (k : Int) < (n : Int) := by omega
      have hgl : g < wr.heap.size := World.block_lt_of_cell? _ _ e1
      generalize ns[k] = y at *
      obtain ⟨nm, kd, ct⟩ := y
      dsimp only at e1 e2 e3 HSU
      generalize hpl : Ld.placesTo (fun n => n.kind == s) ns k = pl at *
      clear hpl e4 e5 e6
      obtain ⟨w1, hw1⟩ : ∃ w1, w1 = wr.alloc (.cells #[.string ⟨nm.toArray⟩, .int .i64 kd, .int .i64 ct] 144) := ⟨_, rfl⟩
      have HW1 := hide hw1
      have HB1 : Hid (Below w.heap.size w w1) := by rw [hw1]; exact HB.out.alloc HB.out.size _
      have HO1 : Hid (w1.ownsRow w.heap.size 3 1 (.slice la pl.length lc) pl.length (pl.map intV)) := by rw [hw1]; exact HO.out.alloc _
      clear hw1
      cases hpy : (kd == s) with
      | true =>
        rw [hpy] at HSU
        have HOWN : Hid (∀ o, (w1.alloc o).ownsRow w.heap.size 3 1 (.slice la pl.length lc) pl.length (pl.map intV)) := fun o => HO1.out.alloc o
        have HONE : Hid (∀ u ∈ [Value.int .i64 (k : Int)], u.oneCell' = true) := by
          intro u hu
          simp only [List.mem_cons, List.not_mem_nil, or_false] at hu
          subst hu; rfl
        have HFIN : Hid (∀ (o : Obj) (g cap : Nat) (wA : World), wA.ownsRow w.heap.size 3 1 (.slice (some ⟨g, 0, none⟩) (pl.length + 1) cap) (pl.length + 1) (pl.map intV ++ [intV k]) → (w1.alloc o).grownBy wA (Value.slice la pl.length lc).ownBlock →
            (wA.ownsRow w.heap.size 3 1 (.slice (some ⟨g, 0, none⟩) (pl.length + 1) cap) (Ld.placesTo (fun n => n.kind == s) ns (k + 1)).length ((Ld.placesTo (fun n => n.kind == s) ns (k + 1)).map intV) ∧ (Ld.placesTo (fun n => n.kind == s) ns (k + 1)).length = pl.length + 1) ∧ Below w.heap.size w wA) := by
          intro o g cap wA hown hgrow
          rw [HSU.out, if_pos rfl]
          refine ⟨⟨by simpa using hown, by simp⟩, ?_⟩
          refine (HB1.out.alloc HB1.out.size o).grown hgrow (by simp; have := HB1.out.size; omega) (fun j e => (HO1.out.lt j e).1)
        have HNW : Hid (∀ j u, [Value.int .i64 (k : Int)][j]? = some u → ((wr.alloc (.cells #[.string ⟨nm.toArray⟩, .int .i64 kd, .int .i64 ct] 144)).alloc (.cells #[.int .i64 (k : Int)] 3)).cell? ((⟨wr.heap.size + 1, 0, none⟩ : Addr).add j) = some u) := by
          have h := World.news_of_block (heap_alloc_new (wr.alloc (.cells #[.string ⟨nm.toArray⟩, .int .i64 kd, .int .i64 ct] 144)) (.cells #[.int .i64 (k : Int)] 3))
          rw [World.size_alloc] at h
          exact h
        have hzr := HB.out.size
        rw [HW1.out] at HOWN HFIN
        clear HO1
        go_wp2_with (at_builtin; refine wpList_append_lies _ rfl (.tmp 20) (.tmp 22) 36 rfl w.heap.size 3 i0 _ 1 8 Tryz.underlying36 hi0 hz0 hz1 hz2 rfl (by decide) (.slice la pl.length lc) pl.length (pl.map intV) rfl (HOWN.out _) ⟨wr.heap.size + 1, 0, none⟩ 1 1 [.int .i64 (k : Int)] rfl rfl HNW.out HONE.out (by decide) (by unfold maxLen; omega) (by omega) (by simp; omega) (wr.heap.size + 2) (by simp) ?_; intro g2 cap2 wC hown hgrow hat hltg; obtain ⟨⟨hoC, hlC⟩, hbC⟩ := HFIN.out _ g2 cap2 wC hown hgrow; have HOC := hide hoC; have HLC := hide hlC; have HBC := hide hbC; clear hown hgrow hat hoC hlC hbC)
        exact ⟨⟨k + 1, by omega, by go_num, ⟨_, _, by rw [HLC.out]⟩, HOC.out, HBC.out⟩, by simp [intOf]; omega⟩
      | false =>
        rw [hpy] at HSU
        have HSE : Hid (Ld.placesTo (fun n => n.kind == s) ns (k + 1) = pl) := by show _ = _; rw [HSU.out]; simp
        rw [HW1.out] at HO1 HB1
        go_wp2_with fail
        exact ⟨⟨k + 1, by omega, by go_num, ⟨_, _, by rw [HSE.out]⟩, by rw [HSE.out]; exact HO1.out, HB1.out⟩, by simp [intOf]; omega⟩
    · have hkn : k = n := by omega
      subst hkn
      go_wp2_with fail
      go_ret
      exact ⟨_, rfl, HO.out, HB.out⟩
namespace Ld
/-- the first place at which a word stands; -1: none (nor of the empty one) -/
def idx (l : List (List UInt8)) (s : List UInt8) : Int := numOf (l.findIdx? fun x => x == s && !s.isEmpty)
end Ld
set_option maxHeartbeats 2000000 in
set_option maxRecDepth 100000 in
theorem rindex_any (l : List (List UInt8)) (sv : Value) (s : List UInt8) (w : World) (hl : Strs w sv (l.map toBA)) :
    Calls Tryz.prog 111 #[sv, .string ⟨s.toArray⟩] w fun e w' => e = .returned (.int .i64 (Ld.idx l s)) ∧ w' = w := by
  rcases hl with ⟨h0, a, cap, rfl⟩ | ⟨g, o, cap, rfl, hcap, hlen, hc⟩
  · have h1 : l = [] := by simpa using h0
    subst h1
    go_enter Tryz.func111, Tryz.ntmps111
    go_wp2_with fail
    go_loopw [9] (fun i wr => i = .int .i64 0 ∧ Hid (wr = w)) (fun _ _ => 0)
    case atStart => exact ⟨rfl, rfl⟩
    case round =>
      obtain ⟨rfl, HW⟩ := hrel
      go_wp2_with fail
      go_ret
      exact ⟨rfl, HW.out⟩
  · rw [List.length_map] at hcap hlen ⊢
    obtain ⟨n, hnn⟩ : ∃ n, n = l.length := ⟨_, rfl⟩
    have HN := hide hnn
    rw [← hnn] at hcap hlen ⊢
    have HC : Hid (∀ (k : Nat) x, l[k]? = some x → w.cell? ⟨g, o + k, none⟩ = some (.string ⟨x.toArray⟩)) := fun k x hx => hc k (toBA x) (by rw [List.getElem?_map, hx]; rfl)
    have hbs := bytes_list s
    obtain ⟨q, hq⟩ : ∃ q, q = !s.isEmpty := ⟨_, rfl⟩
    have HQ := hide hq
    have HID : Hid (Ld.idx l s = Ld.numOf (l.findIdx? fun x => x == s && q)) := by show _ = _; rw [hq]; rfl
    clear hq
    clear hc hnn
    go_enter Tryz.func111, Tryz.ntmps111
    go_wp2_with fail
    go_loopw [9] (fun i wr => ∃ k : Nat, k ≤ n ∧ i = .int .i64 (k : Int) ∧ Hid (∀ j x, j < k → l[j]? = some x → (x == s && q) = false) ∧ Hid (wr = w)) (fun i _ => n - (intOf i).toNat)
    case atStart => exact ⟨0, Nat.zero_le _, rfl, fun j x hj => absurd hj (Nat.not_lt_zero j), rfl⟩
    case round =>
      obtain ⟨k, hk, rfl, HNO, HW⟩ := hrel
      obtain rfl := HW.out
      by_cases hlt : k < n
      · have hkl : k < l.length := by rw [← HN.out]; exact hlt
        have c1 := HC.out k _ (List.getElem?_eq_getElem hkl)
        have hbx := bytes_list l[k]
        have HHIT : Hid ((l[k] == s && q) = true → Ld.idx l s = (k : Int)) := fun hp => by
          show _ = _
          rw [HID.out]
          rw [List.findIdx?_eq_some_iff_getElem.2 ⟨hkl, hp, fun j hj => by rw [HNO.out j l[j] hj (List.getElem?_eq_getElem (by omega))]; decide⟩]
          rfl
        have HON : Hid ((l[k] == s && q) = false → ∀ j x, j < k + 1 → l[j]? = some x → (x == s && q) = false) := fun hp j x hj hx => by
          by_cases e : j = k
          · subst e; rw [List.getElem?_eq_getElem hkl] at hx; cases hx; exact hp
          · exact HNO.out j x (by omega) hx
        have hki : (k : Int) < (n : Int) := by omega
        generalize l[k] = y at *
        cases hp : (y == s) with
        | true =>
          cases hs : s.isEmpty with
          | true =>
            have HF := hide (HON.out (by rw [HQ.out, hs]; simp))
            go_wp2_with fail
            exact ⟨⟨k + 1, by omega, by go_num, HF.out, trivial⟩, by simp [intOf]; omega⟩
          | false =>
            have HF := hide (HHIT.out (by rw [hp, HQ.out, hs]; rfl))
            go_wp2_with fail
            go_ret
            exact ⟨by rw [HF.out]; rfl, rfl⟩
        | false =>
          have HF := hide (HON.out (by rw [hp]; rfl))
          go_wp2_with fail
          exact ⟨⟨k + 1, by omega, by go_num, HF.out, trivial⟩, by simp [intOf]; omega⟩
      · have hkn : k = n := by omega
        have HF : Hid (Ld.idx l s = -1) := by
          show _ = _
          rw [HID.out]
          rw [List.findIdx?_eq_none_iff.2 (fun x hx => by obtain ⟨j, hj, rfl⟩ := List.getElem_of_mem hx; exact HNO.out j _ (by rw [← HN.out] at hj; omega) (List.getElem?_eq_getElem hj))]
          rfl
        subst hkn
        go_wp2_with fail
        go_ret
        exact ⟨by rw [HF.out]; rfl, rfl⟩
end
section
namespace Ld
def nameL : List (List UInt8) := [nameW 0, nameW 1, nameW 2, nameW 3, nameW 4]
def rungL : List (List UInt8) := [rungW 0, rungW 1, rungW 2, rungW 3, rungW 4, rungW 5, rungW 6]
theorem beq_no {a b : List UInt8} (h : b ≠ a) : (a == b) = false := by rw [beq_eq_false_iff_ne]; exact Ne.symm h
theorem idx_names (s : List UInt8) (h : s ≠ []) : idx nameL s = if kindN s = 0 then -1 else (kindN s : Int) := by
  by_cases h1 : s = nameW 1
  · subst h1; decide
  by_cases h2 : s = nameW 2
  · subst h2; decide
  by_cases h3 : s = nameW 3
  · subst h3; decide
  by_cases h4 : s = nameW 4
  · subst h4; decide
  have e0 : (nameW 0 == s) = false := beq_no h
  have hk : kindN s = 0 := by unfold kindN; rw [if_neg h1, if_neg h2, if_neg h3, if_neg h4]
  rw [hk, if_pos rfl]
  unfold idx nameL
  simp only [List.findIdx?_cons, e0, beq_no h1, beq_no h2, beq_no h3, beq_no h4, Bool.false_and, Bool.false_eq_true, if_false, List.findIdx?_nil, Option.map_none]
  rfl
theorem idx_rungs (s : List UInt8) (h : s ≠ []) : idx rungL s = if kindG s = 0 then -1 else (kindG s : Int) := by
  by_cases h2 : s = rungW 2
  · subst h2; decide
  by_cases h3 : s = rungW 3
  · subst h3; decide
  by_cases h4 : s = rungW 4
  · subst h4; decide
  by_cases h5 : s = rungW 5
  · subst h5; decide
  by_cases h6 : s = rungW 6
  · subst h6; decide
  have e0 : (rungW 0 == s) = false := beq_no h
  have e1 : (rungW 1 == s) = false := beq_no h
  have hk : kindG s = 0 := by unfold kindG; rw [if_neg h2, if_neg h3, if_neg h4, if_neg h5, if_neg h6]
  rw [hk, if_pos rfl]
  unfold idx rungL
  simp only [List.findIdx?_cons, e0, e1, beq_no h2, beq_no h3, beq_no h4, beq_no h5, beq_no h6, Bool.false_and, Bool.false_eq_true, if_false, List.findIdx?_nil, Option.map_none]
  rfl
theorem kindN_le (s : List UInt8) : kindN s ≤ 4 := by
  unfold kindN
  repeat' split
  all_goals decide
theorem kindG_le (s : List UInt8) : kindG s ≤ 6 ∧ kindG s ≠ 1 := by
  unfold kindG
  repeat' split
  all_goals decide
theorem split_blank : ∀ l : List UInt8, (split 32 l).filter (fun w => !w.isEmpty) = [] ↔ isBlank l = true
  | [] => by decide
  | a :: r => by
    have ih := split_blank r
    unfold split
    by_cases h : a = 32
    · subst h
      rw [if_pos rfl]
      simp only [List.filter_cons, List.isEmpty_nil, Bool.not_true, Bool.false_eq_true, if_false]
      rw [ih]
      simp [isBlank]
    · rw [if_neg h]
      have hb : isBlank (a :: r) = false := by simp [isBlank, h]
      rw [hb]
      cases hs : split 32 r with
      | nil => simp
      | cons x t => simp
theorem words_blank (l : List UInt8) : words l = [] ↔ isBlank l = true := split_blank l
theorem rdName_bad (w0 : List UInt8) (rest : List (List UInt8)) (h : kindN w0 = 0) : rdName (w0 :: rest) = none := by
  match rest with
  | [] => rfl
  | [_] => simp only [rdName, h]; simp
  | [_, _] => simp only [rdName, h]; simp
  | _ :: _ :: _ :: _ => rfl
theorem rdName_few (w0 : List UInt8) (rest : List (List UInt8)) (h : kindN w0 < 3) (hl : (w0 :: rest).length ≠ 2) : rdName (w0 :: rest) = none := by
  match rest with
  | [] => rfl
  | [_] => simp at hl
  | [_, _] => simp only [rdName]; rw [if_neg (by omega)]
  | _ :: _ :: _ :: _ => rfl
theorem rdName_many (w0 : List UInt8) (rest : List (List UInt8)) (h : 3 ≤ kindN w0) (hl : (w0 :: rest).length ≠ 3) : rdName (w0 :: rest) = none := by
  match rest with
  | [] => rfl
  | [_] => simp only [rdName]; rw [if_neg (by omega)]
  | [_, _] => simp at hl
  | _ :: _ :: _ :: _ => rfl
theorem rdName_two (w0 nm : List UInt8) (h : kindN w0 ≠ 0) (h3 : kindN w0 < 3) : rdName [w0, nm] = some ⟨nm, (kindN w0 : Int), 0⟩ := by
  simp only [rdName]
  rw [if_pos (by omega)]
theorem rdName_three (w0 nm c : List UInt8) (h3 : 3 ≤ kindN w0) : rdName [w0, nm, c] = (rdCount c).map fun n => ⟨nm, (kindN w0 : Int), n⟩ := by
  have := kindN_le w0
  simp only [rdName]
  rw [if_pos (by omega)]
/-- a line without = -/
theorem take_plain (r : Rdg) (st : Nat) (s : List UInt8) (h : (61 : UInt8) ∉ s) : take r st s = match rdName (words s) with
    | none => .inl (3, st)
    | some n => if r.rungs = [] then .inr ⟨r.names ++ [n], r.rungs, r.starts ++ [st]⟩ else .inl (3, st) := by
  unfold take
  rw [cutE_none s h]
  rfl
theorem take_rung (r : Rdg) (st : Nat) (s a t : List UInt8) (hs : s = a ++ 61 :: t) (h : (61 : UInt8) ∉ a) : take r st s = match rdHead (words a) with
    | none => .inl (3, st)
    | some (k, nm) => match Ex.parse t with
      | .inl (e, pl) => .inl (e, st + a.length + 1 + pl.getD 0)
      | .inr x => .inr ⟨r.names, r.rungs ++ [⟨(k : Int), nm, some x⟩], r.starts ++ [st]⟩ := by
  unfold take
  rw [hs, cutE_at a t h]
  rfl
theorem take_none (r : Rdg) (st : Nat) (s : List UInt8) (h : (61 : UInt8) ∉ s) (hn : rdName (words s) = none) : take r st s = .inl (3, st) := by rw [take_plain r st s h, hn]
theorem take_late (r : Rdg) (st : Nat) (s : List UInt8) (h : (61 : UInt8) ∉ s) (hr : r.rungs ≠ []) : take r st s = .inl (3, st) := by
  rw [take_plain r st s h]
  cases rdName (words s) with
  | none => rfl
  | some n => simp only [if_neg hr]
theorem take_name (r : Rdg) (st : Nat) (s : List UInt8) (n : Nme) (h : (61 : UInt8) ∉ s) (hn : rdName (words s) = some n) (hr : r.rungs = []) : take r st s = .inr ⟨r.names ++ [n], r.rungs, r.starts ++ [st]⟩ := by
  rw [take_plain r st s h, hn]
  simp only [if_pos hr]
theorem take_head (r : Rdg) (st : Nat) (s a t : List UInt8) (hs : s = a ++ 61 :: t) (h : (61 : UInt8) ∉ a) (hh : rdHead (words a) = none) : take r st s = .inl (3, st) := by rw [take_rung r st s a t hs h, hh]
theorem take_err (r : Rdg) (st : Nat) (s a t : List UInt8) (hs : s = a ++ 61 :: t) (h : (61 : UInt8) ∉ a) (k : Nat) (nm : List UInt8) (hh : rdHead (words a) = some (k, nm)) (e : Nat) (pl : Option Nat) (hp : Ex.parse t = .inl (e, pl)) : take r st s = .inl (e, st + a.length + 1 + pl.getD 0) := by rw [take_rung r st s a t hs h, hh]; simp only [hp]
theorem take_ok (r : Rdg) (st : Nat) (s a t : List UInt8) (hs : s = a ++ 61 :: t) (h : (61 : UInt8) ∉ a) (k : Nat) (nm : List UInt8) (hh : rdHead (words a) = some (k, nm)) (x : Ex) (hp : Ex.parse t = .inr x) : take r st s = .inr ⟨r.names, r.rungs ++ [⟨(k : Int), nm, some x⟩], r.starts ++ [st]⟩ := by rw [take_rung r st s a t hs h, hh]; simp only [hp]
theorem rdHead_bad (w0 nm : List UInt8) (h : kindG w0 = 0) : rdHead [w0, nm] = none := by simp only [rdHead, h, if_pos]
theorem rdHead_two (w0 nm : List UInt8) (h : kindG w0 ≠ 0) : rdHead [w0, nm] = some (kindG w0, nm) := by simp only [rdHead]; rw [if_neg h]
/-- what the next line comes to, of all that was read -/
theorem takes_next (L : List (List UInt8)) (j : Nat) (s : List UInt8) (r : Rdg) (hj : L[j]? = some s) (h : takes ⟨[], [], []⟩ (linesOf (L.take j)) = .inr r) (hb : isBlank s = false) : takes ⟨[], [], []⟩ (linesOf (L.take (j + 1))) = take r (total (L.take j)) s := by
  obtain ⟨hl, e⟩ := List.getElem?_eq_some_iff.1 hj
  rw [List.take_succ_eq_append_getElem hl, linesOf_snoc, e, hb, if_neg Bool.false_ne_true, takes_snoc, h]
theorem takes_blank (L : List (List UInt8)) (j : Nat) (s : List UInt8) (hj : L[j]? = some s) (hb : isBlank s = true) : linesOf (L.take (j + 1)) = linesOf (L.take j) := by
  obtain ⟨hl, e⟩ := List.getElem?_eq_some_iff.1 hj
  rw [List.take_succ_eq_append_getElem hl, linesOf_snoc, e, hb, if_pos rfl, List.append_nil]
theorem takes_stop (L : List (List UInt8)) (j : Nat) (e : Nat × Nat) (h : takes ⟨[], [], []⟩ (linesOf (L.take j)) = .inl e) : takes ⟨[], [], []⟩ (linesOf L) = .inl e := by
  obtain ⟨r, hr⟩ := linesOf_pre (L.take j) (L.drop j)
  rw [List.take_append_drop] at hr
  rw [hr]
  exact takes_app r _ _ _ h
theorem total_next (L : List (List UInt8)) (j : Nat) (s : List UInt8) (hj : L[j]? = some s) : total (L.take (j + 1)) = total (L.take j) + (s.length + 1) := by
  obtain ⟨hl, e⟩ := List.getElem?_eq_some_iff.1 hj
  rw [List.take_succ_eq_append_getElem hl, total_snoc, e]
theorem total_split : ∀ (l : List UInt8), total (split 10 l) = l.length + 1
  | [] => by simp [split, total]
  | a :: r => by
    have ih := total_split r
    unfold split
    by_cases h : a = 10
    · rw [if_pos h]; simp only [total, ih, List.length_nil, List.length_cons]; omega
    · rw [if_neg h]
      cases hs : split 10 r with
      | nil => rw [hs] at ih; simp [total] at ih
      | cons x t => rw [hs] at ih; simp only [total, List.length_cons] at ih ⊢; omega
theorem total_take (L : List (List UInt8)) (j : Nat) : total (L.take j) ≤ total L := by
  have h : ∀ (a b : List (List UInt8)), total (a ++ b) = total a + total b := by
    intro a
    induction a with
    | nil => intro b; simp [total]
    | cons x r ih => intro b; simp only [List.cons_append, total, ih]; omega
  have h1 := h (L.take j) (L.drop j)
  rw [List.take_append_drop] at h1
  omega
theorem bad_pos (f : Nat → Nat) : ∀ (n e i : Nat), bad f n = some (e, i) → e ≠ 0
  | 0, e, i, h => by simp [bad] at h
  | n + 1, e, i, h => by
    unfold bad at h
    cases hb : bad f n with
    | some r =>
      rw [hb] at h
      simp only [Option.some.injEq] at h
      subst h
      exact bad_pos f n e i hb
    | none =>
      rw [hb] at h
      by_cases hf : f n = 0
      · simp [hf] at h
      · simp only [if_neg hf, Option.some.injEq, Prod.mk.injEq] at h
        rw [← h.1]; exact hf
theorem check_pos (p : Prg) (e : Nat) (pl : Option Nat) (h : check p = some (e, pl)) : e ≠ 0 := by
  unfold check at h
  split at h
  · simp only [Option.some.injEq, Prod.mk.injEq] at h
    omega
  · split at h
    · rename_i q hq
      simp only [Option.some.injEq, Prod.mk.injEq] at h
      rw [← h.1]
      exact bad_pos _ _ _ _ hq
    · split at h
      · rename_i q hq
        simp only [Option.some.injEq, Prod.mk.injEq] at h
        rw [← h.1]
        exact bad_pos _ _ _ _ hq
      · cases h
end Ld
end
section
open Go.RowKit
/-- what is left, behind a part that was read up to j -/
def cont (l : List UInt8) (sep : Nat) (R : Nat → Ex.Res Ex) (xs : List Ex) (n j : Nat) : Ex.Res (List Ex) :=
  if Ex.sg l (Ex.skip l j) = sep then comb xs (Ex.listP l sep R n (Ex.skip l j + 1)) else .inr (xs, Ex.skip l j)
theorem cont_of (l : List UInt8) (sep : Nat) (R : Nat → Ex.Res Ex) (f i : Nat) (xs : List Ex) (x : Ex) (j : Nat) (h : R i = .inr (x, j)) : comb xs (Ex.listP l sep R (f + 1) i) = cont l sep R (xs ++ [x]) f j := by
  unfold cont
  by_cases hc : Ex.sg l (Ex.skip l j) = sep
  · rw [if_pos hc]; exact listP_more l sep R f i xs x j h hc
  · rw [if_neg hc]; exact listP_end l sep R f i xs x j h hc
/-- a function value that reads, and how it is called -/
def PartV (b : Nat) (fv : Value) (K : Nat) (d : Int) (args : Array Value) : Prop :=
  (fv = .func (.func K) #[.pointer (some ⟨b, 0, none⟩)] #[] ∧ args = #[.pointer (some ⟨b, 0, none⟩), .int .i64 d]) ∨ ∃ c, fv = .func (.func K) #[] #[.pointer (some ⟨c, 0, none⟩)] ∧ args = #[.int .i64 d, .pointer (some ⟨c, 0, none⟩)]
theorem Tryz.infoRef : (Tryz.prog.info? 28).map (fun i => (i.zero, i.size, i.bytes)) = some (some (.pointer none), 1, 8) := by kernel_rfl
/-- what the loop holds -/
def RowRel (b : Nat) (s : ByteArray) (D : Nat) (w : World) (sep : Nat) (R : Nat → Ex.Res Ex) (T : Ex.Res (List Ex)) (n : Nat) (v : Value) (wr : World) : Prop :=
  ∃ us, LR b w v us wr ∧ us.length ≤ 3000 ∧
    ((∃ xs j, Good w v xs us wr ∧ Rp b s j 0 (-1) wr ∧ j ≤ s.size ∧ us.length ≤ j ∧ s.size - j < n ∧ T = cont s.data.toList sep R xs n j) ∨
     (∃ err p i, T = .inl (err, p) ∧ err ≠ 0 ∧ i ≤ s.size + D ∧ Rp b s i (err : Int) (p : Int) wr))
/-- what it comes to -/
def RowEnd (b : Nat) (s : ByteArray) (D : Nat) (w : World) (T : Ex.Res (List Ex)) (v : Value) (wr : World) : Prop :=
  ∃ us, LR b w v us wr ∧ us.length ≤ 3000 ∧
    ((∃ xs m, Good w v xs us wr ∧ Rp b s m 0 (-1) wr ∧ T = .inr (xs, m)) ∨
     (∃ err p i, T = .inl (err, p) ∧ err ≠ 0 ∧ i ≤ s.size + D ∧ Rp b s i (err : Int) (p : Int) wr))
theorem LR.slice {b : Nat} {w : World} {v : Value} {us : List Value} {wr : World} (h : LR b w v us wr) : ∃ g cap, v = .slice (some ⟨g, 0, none⟩) us.length cap ∧ us.length ≤ cap ∧ w.heap.size ≤ g ∧ ∀ (k : Nat) u, us[k]? = some u → wr.cell? ⟨g, k, none⟩ = some u := by
  have hown := h.own
  rcases h.own.2 with ⟨_, h0⟩ | ⟨g, cap, cur, hv, hbg, hg, hnc, _⟩
  · exact absurd (List.length_eq_zero_iff.1 h0) h.ne
  · refine ⟨g, cap, hv, hnc, hbg, fun k u hu => ?_⟩
    have := hown.cells (g := g) (by rw [hv]; rfl) k u hu
    cases k <;> simpa [Addr.add] using this
theorem rmade_one (kind : Nat) (x : Ex) (m : Nat) : Ex.made kind (.inr ([x], m)) = .inr (x, m) := rfl
theorem rmade_more (kind : Nat) (xs : List Ex) (m : Nat) (h : xs.length ≠ 1) : Ex.made kind (.inr (xs, m)) = .inr (⟨kind, [], xs⟩, m) := by
  match xs, h with
  | [], _ => rfl
  | [_], h => simp at h
  | _ :: _ :: _, _ => rfl
/-- what is returned, behind the loop -/
theorem RowEnd.fin {b : Nat} {s : ByteArray} {D : Nat} {w : World} {T : Ex.Res (List Ex)} {v : Value} {wr : World} {us : List Value} {sep kind : Nat} (hsep : (sep = 38 ∧ kind = 6) ∨ (sep = 124 ∧ kind = 7)) (hlr : LR b w v us wr) (hul : us.length ≤ 3000)
    (hcase : (∃ xs m, Good w v xs us wr ∧ Rp b s m 0 (-1) wr ∧ T = .inr (xs, m)) ∨ (∃ err p i, T = .inl (err, p) ∧ err ≠ 0 ∧ i ≤ s.size + D ∧ Rp b s i (err : Int) (p : Int) wr)) :
    (us.length = 1 → ∀ q, us[0]? = some (.pointer q) → ReadR b s D w (Ex.made kind T) (.returned (.pointer q)) wr) ∧
    (us.length ≠ 1 → ∀ g cap, v = .slice (some ⟨g, 0, none⟩) us.length cap → ReadR b s D w (Ex.made kind T) (.returned (.pointer (some ⟨wr.heap.size, 0, none⟩))) (wr.alloc (.cells #[.string ⟨(kindS kind).toArray⟩, .string ⟨#[]⟩, v] 197))) := by
  rcases hcase with ⟨xs, m, hg, hrp, rfl⟩ | ⟨err, p, i, rfl, herr, hi, hrp⟩
  · constructor
    · intro h1 q hq
      have hx1 : xs.length = 1 := by rw [← hg.len]; exact h1
      match xs, hx1, hg with
      | [x], _, hg =>
        rw [rmade_one]
        obtain ⟨g, e, hx⟩ := hg.each 0 x _ rfl hq
        rw [e]
        exact ⟨hlr.keep, g, rfl, IsRx.stay (fun g i u _ hc => hc) (fun g hg => hg.1) x g hx, hrp⟩
    · intro h1 g cap hv
      rw [rmade_more kind xs m (by rw [← hg.len]; exact h1)]
      have hal : Below wr.heap.size wr (wr.alloc (.cells #[.string ⟨(kindS kind).toArray⟩, .string ⟨#[]⟩, v] 197)) := (Below.refl _ _).alloc (Nat.le_refl _) _
      have h2 : 2 ≤ xs.length := by
        have := List.length_pos_iff.2 hlr.ne
        rw [hg.len] at this h1
        omega
      refine ⟨hlr.keep.alloc _, wr.heap.size, rfl, ?_, hrp.alloc _⟩
      rw [IsRx.def]
      refine ⟨hlr.keep.size, ?_, by rw [← hg.len]; omega, by simp [World.cell?_alloc_at], by simp [World.cell?_alloc_at], v, by simp [World.cell?_alloc_at], ?_⟩
      · rcases hsep with ⟨_, rfl⟩ | ⟨_, rfl⟩
        · exact .inr (.inr (.inr ⟨by omega, by omega, rfl, h2⟩))
        · exact .inr (.inr (.inr ⟨by omega, by omega, rfl, h2⟩))
      · obtain ⟨ga, ca, hv2, hca, hga, hcl⟩ := hlr.slice
        refine .inr ⟨by omega, ga, ca, by rw [← hg.len]; exact hv2, by rw [← hg.len]; exact hca, hga, ?_⟩
        intro i P hP
        rw [List.getElem?_map] at hP
        cases hl : xs[i]? with
        | none => rw [hl] at hP; simp at hP
        | some y =>
          rw [hl] at hP
          simp only [Option.map_some, Option.some.injEq] at hP
          have hil : i < us.length := by rw [hg.len]; exact (List.getElem?_eq_some_iff.1 hl).1
          obtain ⟨q, e, hx⟩ := hg.each i y us[i] hl (List.getElem?_eq_getElem hil)
          have hc := hcl i us[i] (List.getElem?_eq_getElem hil)
          rw [e] at hc
          refine ⟨q, Stay.below (ok := fun _ => True) hal ga i _ trivial hc, ?_⟩
          rw [← hP]
          exact IsRx.stay (Stay.below hal) (fun g hg => hg.1) y q hx
  · constructor
    · intro _ q _
      exact ⟨hlr.keep, q, i, rfl, hi, herr, hrp⟩
    · intro _ g cap hv
      exact ⟨hlr.keep.alloc _, _, i, rfl, hi, herr, hrp.alloc _⟩
theorem ReadR.ptr {b : Nat} {s : ByteArray} {D : Nat} {w : World} {r : Ex.Res Ex} {e : Ending} {w' : World} (h : ReadR b s D w r e w') : ∃ q, e = .returned (.pointer q) := by
  obtain ⟨_, h⟩ := h
  match r, h with
  | .inl (_, _), ⟨q, _, he, _⟩ => exact ⟨q, he⟩
  | .inr (_, _), ⟨g, he, _⟩ => exact ⟨_, he⟩
set_option maxHeartbeats 4000000 in
set_option maxRecDepth 100000 in
theorem row_any (b : Nat) (s : ByteArray) (i D N K : Nat) (d : Int) (fv : Value) (args : Array Value) (hent : Entered K) (hfv : PartV b fv K d args) (hN : s.size < N) (sep kind : Nat) (hsep : (sep = 38 ∧ kind = 6) ∨ (sep = 124 ∧ kind = 7)) (R : Nat → Ex.Res Ex) (hadv : Ex.Adv s.data.toList R) (w0 w : World)
    (hR : ∀ (i : Nat) (w : World), Keep b w0 w → Rp b s i 0 (-1) w → i ≤ s.size → Calls Tryz.prog K args w (ReadR b s D w (R i))) (hk0 : Keep b w0 w) (h : Rp b s i 0 (-1) w) (hi : i ≤ s.size) (hs : s.size ≤ 2000) :
    Calls Tryz.prog 129 #[.pointer (some ⟨b, 0, none⟩), .int .u8 (sep : Int), .int .i64 d, fv] w (ReadR b s D w (Ex.made kind (Ex.listP s.data.toList sep R N i))) := by
  obtain ⟨i0, hi0, hz0, hz1, hz2⟩ := info_parts Tryz.infoRef
  have HR := hide hR
  have HA := hide hadv
  have HL : Hid (s.data.toList.length = s.size) := by show _ = _; simp
  have H := hide h
  have HK0 := hide hk0
  have HSEP := hide hsep
  have hent' : ∀ (args : Array Value) (w : World), (callFunc K args).run Tryz.prog w = .ok (.enter K args) w := hent
  have hlt := h.lt
  obtain ⟨n0, hn0⟩ : ∃ n0, N = n0 + 1 := ⟨N - 1, by omega⟩
  subst hn0
  clear hR hadv h hsep hent hk0
  obtain ⟨T, hT⟩ : ∃ T, T = Ex.listP s.data.toList sep R (n0 + 1) i := ⟨_, rfl⟩
  rw [← hT]
  have HT : Hid (T = comb [] (Ex.listP s.data.toList sep R (n0 + 1) i)) := by
    show _ = _
    rw [comb_nil, hT]
  clear hT
  have HFIRST := hide (HR.out i w HK0.out H.out hi)
  rcases hfv with ⟨rfl, rfl⟩ | ⟨c, rfl, rfl⟩
  all_goals
    go_enter Tryz.func129, Tryz.ntmps129
    go_wp2_with fail
    refine HFIRST.out.mono ?_
    intro e w1 hq
    clear HFIRST
    have hst : ∃ q, e = .returned (.pointer q) ∧ Keep b w w1 ∧ RowRel b s D w sep R T n0 (.slice (some ⟨w1.heap.size, 0, none⟩) 1 1) (w1.alloc (.cells #[.pointer q] 28)) := by
      obtain ⟨hk, hq⟩ := hq
      cases hRi : R i with
      | inl p =>
        obtain ⟨err, pl⟩ := p
        rw [hRi] at hq
        obtain ⟨q, j, rfl, hj, herr, hrp⟩ := hq
        refine ⟨q, rfl, hk, [.pointer q], LR.start hk hlt q, by simp, .inr ⟨err, pl, j, ?_, herr, hj, hrp.alloc _⟩⟩
        rw [HT.out]; exact listP_err _ _ _ _ _ _ _ hRi
      | inr p =>
        obtain ⟨x, m⟩ := p
        rw [hRi] at hq
        obtain ⟨g, rfl, hx, hrp⟩ := hq
        have ha := HA.out i x m (by rw [HL.out]; exact hi) hRi
        rw [HL.out] at ha
        refine ⟨_, rfl, hk, [.pointer (some ⟨g, 0, none⟩)], LR.start hk hlt _, by simp, .inl ⟨[x], m, Good.start hx, hrp.alloc _, ha.2, by simp; omega, by omega, ?_⟩⟩
        rw [HT.out]; exact cont_of _ _ _ _ _ [] _ _ hRi
    obtain ⟨q, rfl, hk1, hrel0⟩ := hst
    have HREL0 := hide hrel0
    have HK1 := hide hk1
    clear hrel0 hk1 hq HT
    go_upto_block 0 with fail
    go_cut [9] (fun v wx => RowEnd b s D w T v wx)
    case first =>
      go_wp2_with fail
      go_loopg [9] n0 (fun n v wr => RowRel b s D w sep R T n v wr)
      case atStart => exact HREL0.out
      case round =>
        obtain ⟨us, hlr, hul, hcase⟩ := hrel
        have HLR := hide hlr
        have HUL := hide hul
        obtain ⟨ga, ca, hu9, hca, hga, hcl⟩ := hlr.slice
        subst hu9
        clear hlr hga hcl HREL0
        rcases hcase with ⟨xs, j, hgood, hrp, hj, husj, hn, hTc⟩ | ⟨err, p, i', hTe, herr, hi', hrp⟩
        · have HG := hide hgood
          have HRP := hide hrp
          have HTC := hide hTc
          obtain ⟨c0, c1, c2, c3, f1, f2, f3⟩ := hrp
          have hle := Ex.skip_le s.data.toList j (by rw [HL.out]; exact hj)
          rw [HL.out] at hle
          have hge := Ex.skip_ge s.data.toList j
          have HNX := hide (rnext_any b s j 0 (-1) wr HRP.out hj hs)
          have HIFF := hide (rsg_iff s.data.toList (Ex.skip s.data.toList j) sep (by have := HSEP.out; omega) (by have := HSEP.out; omega))
          have HSL : Hid (Ex.sg s.data.toList (Ex.skip s.data.toList j) = sep → Ex.skip s.data.toList j < s.size) := fun e => by
            have := Ex.sg_lt s.data.toList _ (by rw [e]; have := HSEP.out; omega)
            rwa [HL.out] at this
          clear hgood hTc
          by_cases hc : rsg s.data.toList (Ex.skip s.data.toList j) = sep
          · have hsg := HIFF.out.1 hc
            have hq := HSL.out hsg
            have HTM : Hid (T = comb xs (Ex.listP s.data.toList sep R gk (Ex.skip s.data.toList j + 1))) := by show _ = _; rw [HTC.out, cont, if_pos hsg]
            rw [hc] at HNX
            clear hc hsg HIFF HSL HTC
            generalize Ex.skip s.data.toList j = q1 at *
            obtain ⟨n', hn'⟩ : ∃ n', gk = n' + 1 := ⟨gk - 1, by omega⟩
            subst hn'
            go_wp2_with fail
            refine HNX.out.mono ?_
            rintro e w2 ⟨rfl, hr2, hk2⟩
            have HL2 := hide (HLR.out.read hk2)
            have HG2 := hide (HG.out.read HLR.out.hb hk2)
            have HR2 := hide hr2
            clear c0 c1 c2 c3 f1 f2 f3 HNX hk2
            obtain ⟨c0, c1, c2, c3, f1, f2, f3⟩ := hr2
            have hks : Keep b w2 (w2.setCell ⟨b, 1, none⟩ (.int .i64 ((q1 + 1 : Nat) : Int))) := (Keep.refl b w2).setCell rfl _
            have HL3 := hide (HL2.out.read hks)
            have HG3 := hide (HG2.out.read HLR.out.hb hks)
            have HCALL := hide (HR.out (q1 + 1) _ (HK0.out.trans HL3.out.keep) (HR2.out.set1 (q1 + 1)) (by omega))
            clear hks
            go_wp2_with fail
            refine HCALL.out.mono ?_
            intro e w3 hq3
            obtain ⟨q3, hq3e⟩ := hq3.ptr
            subst hq3e
            have HQ3 := hide hq3
            have HL4 := hide (HL3.out.read hq3.1)
            have HG4 := hide (HG3.out.read HLR.out.hb hq3.1)
            have HSZ : Hid (w.heap.size ≤ (w2.setCell ⟨b, 1, none⟩ (.int .i64 ((q1 + 1 : Nat) : Int))).heap.size) := HL3.out.keep.size
            have HVL : Hid (∀ k, (Value.slice (some ⟨ga, 0, none⟩) us.length ca).ownBlock = some k → k < (w2.setCell ⟨b, 1, none⟩ (.int .i64 ((q1 + 1 : Nat) : Int))).heap.size) := fun k hk => (HL3.out.own.lt k hk).2
            clear hq3 HCALL HL3 HG3 HL2 HG2 HG c0 c1 c2 c3 f1 f2 f3
            have HOWN := hide (HL4.out.own.alloc (.cells #[.pointer q3] 28))
            have hsz4 := HL4.out.keep.size
            go_wp2_with (at_builtin; refine wpList_append_own_at _ rfl (.tmp 33) (.tmp 37) 118 rfl w.heap.size 28 i0 (.pointer none) 1 8 Tryz.underlying118 hi0 hz0 hz1 hz2 rfl (by decide) _ us.length us rfl HOWN.out ⟨w3.heap.size, 0, none⟩ 1 1 [.pointer q3] rfl rfl (cell_one_new _ _ _) ?c2 ?c3 ?c4 ?c5 ?_)
            case c2 => intro z hz; simp at hz; subst hz; rfl
            case c3 => unfold maxLen; omega
            case c4 => omega
            case c5 => simp; omega
            intro v' w4 hown' hgrow _ hat
            have HL5 := hide (HL4.out.push hgrow hown' ⟨q3, rfl⟩)
            have HNB : Hid (∀ j e p, Rp b s j e p w3 → Rp b s j e p w4) := fun j e p hr => (hr.alloc _).grown hgrow HL4.out.nb
            have HG5 : Hid (∀ x g, q3 = some ⟨g, 0, none⟩ → IsRx (fun g => (w2.setCell ⟨b, 1, none⟩ (.int .i64 ((q1 + 1 : Nat) : Int))).heap.size ≤ g) w3 x g → Good w v' (xs ++ [x]) (us ++ [.pointer q3]) w4) := fun x g hq hx => by
              subst hq
              exact HG4.out.push HSZ.out HVL.out hx hgrow hat
            obtain ⟨g5, cap5, hv', _, _, _⟩ := HL5.out.slice
            subst hv'
            clear hown' hgrow hat HOWN HG4 HSZ HVL
            go_wp2_with fail
            go_roundg n'
            case measure => omega
            case rel =>
              refine ⟨us ++ [.pointer q3], HL5.out, by simp; omega, ?_⟩
              have hq3 := HQ3.out.2
              cases hRi : R (q1 + 1) with
              | inl p =>
                obtain ⟨err, pl⟩ := p
                rw [hRi] at hq3
                obtain ⟨q, jj, _, hjj, herr, hrp⟩ := hq3
                refine .inr ⟨err, pl, jj, ?_, herr, hjj, HNB.out _ _ _ hrp⟩
                rw [HTM.out]; exact listP_err _ _ _ _ _ _ _ hRi
              | inr p =>
                obtain ⟨x, m⟩ := p
                rw [hRi] at hq3
                obtain ⟨g, hge2, hx, hrp⟩ := hq3
                have ha := HA.out (q1 + 1) x m (by rw [HL.out]; omega) hRi
                rw [HL.out] at ha
                simp only [Ending.returned.injEq, Value.pointer.injEq] at hge2
                refine .inl ⟨xs ++ [x], m, HG5.out x g hge2 hx, HNB.out _ _ _ hrp, ha.2, by simp; omega, by omega, ?_⟩
                rw [HTM.out]; exact cont_of _ _ _ _ _ xs _ _ hRi
          · have hsg : ¬ Ex.sg s.data.toList (Ex.skip s.data.toList j) = sep := fun e => hc (HIFF.out.2 e)
            have HTM : Hid (T = .inr (xs, Ex.skip s.data.toList j)) := by show _ = _; rw [HTC.out, cont, if_neg hsg]
            have e1 : ((rsg s.data.toList (Ex.skip s.data.toList j) : Int) == (sep : Int)) = false := beq_eq_false_iff_ne.2 (by omega)
            clear hc hsg HIFF HSL HTC
            generalize rsg s.data.toList (Ex.skip s.data.toList j) = cc at *
            generalize Ex.skip s.data.toList j = q1 at *
            go_wp2_with fail
            refine HNX.out.mono ?_
            rintro e w2 ⟨rfl, hr2, hk2⟩
            have HL2 := hide (HLR.out.read hk2)
            have HG2 := hide (HG.out.read HLR.out.hb hk2)
            have HR2 := hide hr2
            clear c0 c1 c2 c3 f1 f2 f3 HNX hk2 hr2
            go_wp2_with fail
            go_meet
            exact ⟨us, HL2.out, HUL.out, .inl ⟨xs, q1, HG2.out, HR2.out, HTM.out⟩⟩
        · have e1 : ((err : Int) == 0) = false := beq_eq_false_iff_ne.2 (by omega)
          have HRP := hide hrp
          have HTE := hide hTe
          obtain ⟨c0, c1, c2, c3, f1, f2, f3⟩ := hrp
          clear hTe
          go_wp2_with fail
          go_meet
          exact ⟨us, HLR.out, HUL.out, .inr ⟨err, p, i', HTE.out, herr, hi', HRP.out⟩⟩
    case rest =>
      obtain ⟨us, hlr, hul, hcase⟩ := hcut
      have HEND := hide (RowEnd.fin (kind := kind) HSEP.out hlr hul hcase)
      obtain ⟨ga, ca, hu9, hca, hga, hcl⟩ := hlr.slice
      subst hu9
      have hne := hlr.ne
      have henc : Utf8.encode (sep : Int) = ⟨(kindS kind).toArray⟩ := by rcases HSEP.out with ⟨rfl, rfl⟩ | ⟨rfl, rfl⟩ <;> decide
      by_cases h1 : us.length = 1
      · obtain ⟨u0, hu0⟩ : ∃ u0, us[0]? = some u0 := ⟨us[0], List.getElem?_eq_getElem (by omega)⟩
        obtain ⟨q0, hq0⟩ := hlr.ptr u0 (List.mem_of_getElem? hu0)
        subst hq0
        have hcell := hcl 0 _ hu0
        have HF := hide (HEND.out.1 h1 q0 hu0)
        have hlen : (us.length : Int) = 1 := by omega
        clear hlr hcase hul hne hcl hga hu0 HREL0 henc
        generalize us.length = nu at *
        go_wp2_with fail
        go_ret
        exact HF.out
      · have HF := hide (HEND.out.2 h1)
        have h1' : ((us.length : Int) == 1) = false := beq_eq_false_iff_ne.2 (by omega)
        clear hlr hcase hne hcl hga HREL0
        have HSL : Hid (us.length ≤ 3000) := hul
        generalize us.length = nu at *
        clear h1
        go_wp2_with fail
        go_ret
        exact HF.out ga ca rfl
theorem ReadR.from {b : Nat} {s : ByteArray} {D : Nat} {w w1 w' : World} {r : Ex.Res Ex} {e : Ending} (hk : Keep b w w1) (h : ReadR b s D w1 r e w') : ReadR b s D w r e w' := by
  obtain ⟨h1, h2⟩ := h
  refine ⟨hk.trans h1, ?_⟩
  match r, h2 with
  | .inl (err, p), h2 => exact h2
  | .inr (x, m), ⟨g, he, hx, hrd⟩ => exact ⟨g, he, IsRx.stay (fun g i u _ hc => hc) (fun g hg => Nat.le_trans hk.size hg) x g hx, hrd⟩
/-- a function that reads, by its number -/
def ReadsR (b : Nat) (s : ByteArray) (D : Nat) (K : Nat) (args : Array Value) (R : Nat → Ex.Res Ex) (w0 : World) : Prop :=
  ∀ (i : Nat) (w : World), Keep b w0 w → Rp b s i 0 (-1) w → i ≤ s.size → Calls Tryz.prog K args w (ReadR b s D w (R i))
theorem entered_rpiece : Entered 131 := fun _ _ => by kernel_rfl
theorem entered_rwhole1 : Entered 130 := fun _ _ => by kernel_rfl
set_option maxHeartbeats 1000000 in
set_option maxRecDepth 100000 in
theorem rpart_any (b c : Nat) (s : ByteArray) (D : Nat) (d : Int) (R : Nat → Ex.Res Ex) (hadv : Ex.Adv s.data.toList R) (w0 : World) (hcb : c ≠ b) (hc : w0.cell? ⟨c, 0, none⟩ = some (.pointer (some ⟨b, 0, none⟩))) (hR : ReadsR b s D 131 #[.pointer (some ⟨b, 0, none⟩), .int .i64 d] R w0) (hs : s.size ≤ 2000) :
    ReadsR b s D 130 #[.int .i64 d, .pointer (some ⟨c, 0, none⟩)] (Ex.partP s.data.toList R) w0 := by
  intro i w hk h hi
  have HL : Hid (s.data.toList.length = s.size) := by show _ = _; simp
  have HROW := hide (row_any b s i D (s.data.toList.length + 1) _ d _ _ entered_rpiece (.inl ⟨rfl, rfl⟩) (by rw [HL.out]; omega) 38 6 (.inl ⟨rfl, rfl⟩) R hadv w0 w hR hk h hi hs)
  have hmf : ∀ (fn : Fn) (first cap : Array Value) (w : World), (Instr.makeFunc fn first cap).run Tryz.prog w = .ok (.func fn first cap) w := fun _ _ _ _ => rfl
  have hcw : w.cell? ⟨c, 0, none⟩ = some (.pointer (some ⟨b, 0, none⟩)) := by rw [hk.cell (World.block_lt_of_cell? _ _ hc) hcb]; exact hc
  change Hid (Calls _ _ _ _ (ReadR b s D w (Ex.partP s.data.toList R i))) at HROW
  clear hR hadv hk h hc
  generalize Ex.partP s.data.toList R i = r at *
  go_enter Tryz.func130, Tryz.ntmps130
  go_wp2_with fail
  refine HROW.out.mono ?_
  intro e w1 hq
  obtain ⟨q, he⟩ := hq.ptr
  subst he
  have HQ := hide hq
  clear hq HROW
  go_wp2_with fail
  go_ret
  exact HQ.out
set_option maxHeartbeats 1000000 in
set_option maxRecDepth 100000 in
theorem rwhole_any (b : Nat) (s : ByteArray) (D : Nat) (d : Int) (R : Nat → Ex.Res Ex) (hadv : Ex.Adv s.data.toList R) (w0 : World) (hR : ReadsR b s D 131 #[.pointer (some ⟨b, 0, none⟩), .int .i64 d] R w0) (hs : s.size ≤ 2000) :
    ReadsR b s D 80 #[.pointer (some ⟨b, 0, none⟩), .int .i64 d] (Ex.wholeP s.data.toList R) w0 := by
  intro i w hk h hi
  have HL : Hid (s.data.toList.length = s.size) := by show _ = _; simp
  have hlt := h.lt
  have hka : Keep b w (w.alloc (.cells #[.pointer (some ⟨b, 0, none⟩)] 169)) := (Keep.refl b w).alloc _
  have hP := rpart_any b w.heap.size s D d R hadv (w.alloc (.cells #[.pointer (some ⟨b, 0, none⟩)] 169)) (by omega) (by simp) (fun i w' hk' => hR i w' ((hk.trans hka).trans hk')) hs
  have HROW := hide (row_any b s i D (s.data.toList.length + 1) _ d _ _ entered_rwhole1 (.inr ⟨w.heap.size, rfl, rfl⟩) (by rw [HL.out]; omega) 124 7 (.inr ⟨rfl, rfl⟩) _ (Ex.partP_adv _ _ hadv) _ _ hP (Keep.refl b _) (h.alloc _) hi hs)
  have hmf : ∀ (fn : Fn) (first cap : Array Value) (w : World), (Instr.makeFunc fn first cap).run Tryz.prog w = .ok (.func fn first cap) w := fun _ _ _ _ => rfl
  have HKA := hide hka
  change Hid (Calls _ _ _ _ (ReadR b s D _ (Ex.wholeP s.data.toList R i))) at HROW
  clear hR hadv hk h hka hP
  generalize Ex.wholeP s.data.toList R i = r at *
  go_enter Tryz.func80, Tryz.ntmps80
  go_wp2_with fail
  refine HROW.out.mono ?_
  intro e w1 hq
  obtain ⟨q, he⟩ := hq.ptr
  subst he
  have HQ := hide (ReadR.from HKA.out hq)
  clear hq HROW
  go_wp2_with fail
  go_ret
  exact HQ.out
theorem wordP_ne (l : List UInt8) (i : Nat) (n : List UInt8) (m : Nat) (h : wordP l i = .inr (n, m)) : n ≠ [] := by
  unfold wordP wordAt at h
  split at h
  · cases h
  · split at h
    · rename_i h2
      simp only [Sum.inr.injEq, Prod.mk.injEq] at h
      rw [h.1] at h2
      intro e
      rw [e] at h2
      revert h2
      decide
    · cases h
theorem IsRx.leaf (ok : Nat → Prop) (w : World) (k : Nat) (nm : List UInt8) (hok : ok w.heap.size) (hf : RWf k nm 0) : IsRx ok (w.alloc (.cells #[.string ⟨(kindS k).toArray⟩, .string ⟨nm.toArray⟩, .slice none 0 0] 197)) ⟨k, nm, []⟩ w.heap.size := by
  rw [IsRx.def]
  exact ⟨hok, hf, by simp, by simp [World.cell?_alloc_at], by simp [World.cell?_alloc_at], _, by simp [World.cell?_alloc_at], .inl ⟨rfl, rfl⟩⟩
theorem setCell_size (w : World) (a : Addr) (v : Value) : (w.setCell a v).heap.size = w.heap.size := by simp [World.setCell]
theorem IsRx.leaf_at (ok : Nat → Prop) (w : World) (k : Nat) (nm : List UInt8) (g : Nat) (hg : w.heap.size = g) (hok : ok w.heap.size) (hf : RWf k nm 0) : IsRx ok (w.alloc (.cells #[.string ⟨(kindS k).toArray⟩, .string ⟨nm.toArray⟩, .slice none 0 0] 197)) ⟨k, nm, []⟩ g := by
  rw [← hg]; exact IsRx.leaf ok w k nm hok hf
theorem IsRx.not (B : Nat) (w : World) (x : Ex) (g : Nat) (hB : B ≤ w.heap.size) (hx : IsRx (fun g => B ≤ g) w x g) :
    IsRx (fun g => B ≤ g) ((w.alloc (.cells #[.pointer (some ⟨g, 0, none⟩)] 28)).alloc (.cells #[.string ⟨#[33]⟩, .string ⟨#[]⟩, .slice (some ⟨w.heap.size, 0, none⟩) 1 1] 197)) ⟨5, [], [x]⟩ (w.heap.size + 1) := by
  have hb1 : Below w.heap.size w (w.alloc (.cells #[.pointer (some ⟨g, 0, none⟩)] 28)) := (Below.refl _ _).alloc (Nat.le_refl _) _
  have hb2 : Below w.heap.size w ((w.alloc (.cells #[.pointer (some ⟨g, 0, none⟩)] 28)).alloc (.cells #[.string ⟨#[33]⟩, .string ⟨#[]⟩, .slice (some ⟨w.heap.size, 0, none⟩) 1 1] 197)) := hb1.alloc (by simp) _
  rw [IsRx.def]
  refine ⟨by omega, .inr (.inr (.inl ⟨rfl, rfl, rfl⟩)), by simp, ?_, ?_, _, ?_, .inr ⟨by simp, w.heap.size, 1, rfl, by simp, hB, ?_⟩⟩
  · simp [kindS]
  · simp
  · simp
  · intro i P hP
    match i, hP with
    | 0, hP =>
      simp at hP
      subst hP
      exact ⟨g, by simp, IsRx.stay (Stay.below hb2) (fun _ h => h) x g hx⟩
    | i + 1, hP => simp at hP
/-- what comes of a word: an expression of a name -/
theorem ReadR.word {b : Nat} {s : ByteArray} {D : Nat} {w w1 : World} {kind i : Nat} {t : ByteArray} (hk2 : 2 ≤ kind) (hk4 : kind ≤ 4) (h : Word b s w (wordP s.data.toList i) (.returned (.string t)) w1) :
    ReadR b s D w (Ex.nameP s.data.toList kind i) (.returned (.pointer (some ⟨w1.heap.size, 0, none⟩))) (w1.alloc (.cells #[.string ⟨(kindS kind).toArray⟩, .string t, .slice none 0 0] 197)) := by
  rw [nameP_word]
  obtain ⟨hk, h⟩ := h
  cases hw : wordP s.data.toList i with
  | inl p =>
    obtain ⟨err, pl⟩ := p
    have herr : err ≠ 0 := by
      unfold wordP wordAt at hw
      split at hw
      · simp only [Sum.inl.injEq, Prod.mk.injEq] at hw; omega
      · split at hw
        · cases hw
        · simp only [Sum.inl.injEq, Prod.mk.injEq] at hw; omega
    rw [hw] at h
    obtain ⟨t', _, hp, hrp⟩ := h
    exact ⟨hk.alloc _, _, pl, rfl, by omega, herr, hrp.alloc _⟩
  | inr p =>
    obtain ⟨n, m⟩ := p
    rw [hw] at h
    obtain ⟨he, hrp⟩ := h
    simp only [Ending.returned.injEq, Value.string.injEq] at he
    subst he
    exact ⟨hk.alloc _, _, rfl, IsRx.leaf _ w1 kind n hk.size (.inr (.inl ⟨hk2, hk4, wordP_ne _ _ _ _ hw, rfl⟩)), hrp.alloc _⟩
/-- what comes of not -/
theorem ReadR.not {b : Nat} {s : ByteArray} {D : Nat} {w w1 : World} {r : Ex.Res Ex} {q : Option Addr} (h : ReadR b s D w r (.returned (.pointer q)) w1) :
    ReadR b s (D + 1) w (Ex.notP r) (.returned (.pointer (some ⟨w1.heap.size + 1, 0, none⟩))) ((w1.alloc (.cells #[.pointer q] 28)).alloc (.cells #[.string ⟨#[33]⟩, .string ⟨#[]⟩, .slice (some ⟨w1.heap.size, 0, none⟩) 1 1] 197)) := by
  obtain ⟨hk, h⟩ := h
  match r, h with
  | .inl (err, p), ⟨q', i, _, hi, herr, hrp⟩ => exact ⟨(hk.alloc _).alloc _, _, i, rfl, by omega, herr, (hrp.alloc _).alloc _⟩
  | .inr (x, m), ⟨g, he, hx, hrp⟩ =>
    simp only [Ending.returned.injEq, Value.pointer.injEq] at he
    subst he
    exact ⟨(hk.alloc _).alloc _, _, rfl, IsRx.not _ w1 x g hk.size hx, (hrp.alloc _).alloc _⟩
theorem Word.str {b : Nat} {s : ByteArray} {w : World} {r : (Nat × Nat) ⊕ (List UInt8 × Nat)} {e : Ending} {w' : World} (h : Word b s w r e w') : ∃ t, e = .returned (.string t) := by
  obtain ⟨_, h⟩ := h
  match r, h with
  | .inl (_, _), ⟨t, he, _⟩ => exact ⟨t, he⟩
  | .inr (_, _), ⟨he, _⟩ => exact ⟨_, he⟩
theorem Word.from {b : Nat} {s : ByteArray} {w w1 : World} {r : (Nat × Nat) ⊕ (List UInt8 × Nat)} {e : Ending} {w' : World} (hk : Keep b w w1) (h : Word b s w1 r e w') : Word b s w r e w' := ⟨hk.trans h.1, h.2⟩
set_option maxHeartbeats 4000000 in
set_option maxRecDepth 100000 in
theorem rpiece_any (b : Nat) (s : ByteArray) (hs : s.size ≤ 2000) (w0 : World) : ∀ (D d : Nat), d + D = 20 → ReadsR b s D 131 #[.pointer (some ⟨b, 0, none⟩), .int .i64 (d : Int)] (Ex.pieceP s.data.toList D) w0 := by
  intro D
  induction D with
  | zero =>
    intro d hd i w hk0 h hi
    have hd' : d = 20 := by omega
    subst hd'
    have HF := hide (rfail_any b s i (-1) 4 w h hi hs)
    have HL : Hid (s.data.toList.length = s.size) := by show _ = _; simp
    have hle := Ex.skip_le s.data.toList i (by rw [HL.out]; exact hi)
    rw [HL.out] at hle
    have HP : Hid (Ex.pieceP s.data.toList 0 i = .inl (4, Ex.skip s.data.toList i)) := rfl
    generalize Ex.pieceP s.data.toList 0 i = r at *
    generalize Ex.skip s.data.toList i = q at *
    obtain ⟨c0, c1, c2, c3, f1, f2, f3⟩ := h
    go_enter Tryz.func131, Tryz.ntmps131
    go_wp2_with fail
    refine HF.out.mono ?_
    rintro e w1 ⟨rfl, hr1, hk1⟩
    have HK1 := hide hk1
    have HR1 := hide hr1
    clear hr1 hk1
    go_wp2_with fail
    go_ret
    rw [HP.out]
    exact ⟨HK1.out, _, q, rfl, by omega, by decide, HR1.out⟩
  | succ D ih =>
    intro d hd i w hk0 h hi
    have hP := ih (d + 1) (by omega)
    have hA := Ex.pieceP_adv s.data.toList D
    have HNOT := hide (fun (i : Nat) (w : World) (hk : Keep b w0 w) (hr : Rp b s i 0 (-1) w) (hi : i ≤ s.size) => hP i w hk hr hi)
    have HPAR := hide (fun (i : Nat) (w : World) (hk : Keep b w0 w) (hr : Rp b s i 0 (-1) w) (hi : i ≤ s.size) => rwhole_any b s D ((d + 1 : Nat) : Int) _ hA w0 hP hs i w hk hr hi)
    have HWA := hide (Ex.wholeP_adv s.data.toList _ hA)
    have HL : Hid (s.data.toList.length = s.size) := by show _ = _; simp
    have HNX := hide (rnext_any b s i 0 (-1) w h hi hs)
    have hge := Ex.skip_ge s.data.toList i
    have hle := Ex.skip_le s.data.toList i (by rw [HL.out]; exact hi)
    rw [HL.out] at hle
    have HSK : Hid (Ex.skip s.data.toList (Ex.skip s.data.toList i) = Ex.skip s.data.toList i) := skip_skip _ _ (by rw [HL.out]; exact hi)
    have HLT : Hid (Ex.sg s.data.toList (Ex.skip s.data.toList i) ≠ 32 → Ex.skip s.data.toList i < s.size) := fun hc => by have := Ex.sg_lt s.data.toList _ hc; rw [HL.out] at this; exact this
    have HP : Hid (Ex.pieceP s.data.toList (D + 1) i = pieceAt s.data.toList D (Ex.skip s.data.toList i) (Ex.sg s.data.toList (Ex.skip s.data.toList i))) := rfl
    have HIFF := hide (fun c h0 h32 => rsg_iff s.data.toList (Ex.skip s.data.toList i) c h0 h32)
    have HK0 := hide hk0
    have HBW : Hid (b < w.heap.size) := h.lt
    obtain ⟨c0, c1, c2, c3, f1, f2, f3⟩ := h
    clear ih hP hA hk0
    generalize Ex.pieceP s.data.toList (D + 1) i = r at *
    generalize Ex.skip s.data.toList i = q at *
    generalize Ex.sg s.data.toList q = cs at *
    generalize rsg s.data.toList q = c at *
    have hd19 : ¬ (20 : Int) ≤ (d : Int) := by omega
    go_enter Tryz.func131, Tryz.ntmps131
    go_wp2_with fail
    refine HNX.out.mono ?_
    rintro e w1 ⟨rfl, hr1, hk1⟩
    have HK1 := hide hk1
    have HR1 := hide hr1
    clear c0 c1 c2 c3 f1 f2 f3 HNX hk1
    obtain ⟨c0, c1, c2, c3, f1, f2, f3⟩ := hr1
    have HKS : Hid (Keep b w (w1.setCell ⟨b, 1, none⟩ (.int .i64 ((q + 1 : Nat) : Int)))) := HK1.out.setCell rfl _
    by_cases q1 : c = 33
    · have hcs := (HIFF.out 33 (by decide) (by decide)).1 q1
      have hq := HLT.out (by omega)
      have HF : Hid (r = Ex.notP (Ex.pieceP s.data.toList D (q + 1))) := by show _ = _; rw [HP.out, pieceAt, if_pos hcs]
      have e1 : ((c : Int) == 33) = true := beq_iff_eq.2 (by omega)
      have HCALL := hide (HNOT.out (q + 1) _ (HK0.out.trans HKS.out) (HR1.out.set1 (q + 1)) (by omega))
      clear q1 hcs HP HIFF HNOT HPAR
      go_wp2_with fail
      refine HCALL.out.mono ?_
      intro e w2 hq2
      obtain ⟨q2, he⟩ := hq2.ptr
      subst he
      have HQ2 := hide hq2
      clear hq2 HCALL c0 c1 c2 c3 f1 f2 f3
      go_wp2_with fail
      go_ret
      rw [HF.out]
      exact ReadR.not (ReadR.from HKS.out HQ2.out)
    have e1 : ((c : Int) == 33) = false := beq_eq_false_iff_ne.2 (by omega)
    have n1 : cs ≠ 33 := fun e => q1 ((HIFF.out 33 (by decide) (by decide)).2 e)
    by_cases q2 : c = 40
    · have hcs := (HIFF.out 40 (by decide) (by decide)).1 q2
      have hq := HLT.out (by omega)
      have HF : Hid (r = Ex.parP s.data.toList (Ex.wholeP s.data.toList (Ex.pieceP s.data.toList D) (q + 1))) := by show _ = _; rw [HP.out, pieceAt, if_neg n1, if_pos hcs]
      have e2 : ((c : Int) == 40) = true := beq_iff_eq.2 (by omega)
      have HCALL := hide (HPAR.out (q + 1) _ (HK0.out.trans HKS.out) (HR1.out.set1 (q + 1)) (by omega))
      have HADV := hide (fun x m (he : Ex.wholeP s.data.toList (Ex.pieceP s.data.toList D) (q + 1) = .inr (x, m)) => HWA.out (q + 1) x m (by rw [HL.out]; omega) he)
      rw [HL.out] at HADV
      generalize Ex.wholeP s.data.toList (Ex.pieceP s.data.toList D) (q + 1) = rw0 at *
      clear q1 q2 n1 hcs HP HIFF HNOT HPAR HWA
      go_wp2_with fail
      refine HCALL.out.mono ?_
      intro e w2 hq2
      obtain ⟨q2, he⟩ := hq2.ptr
      subst he
      have HQ2 := hide (ReadR.from HKS.out hq2)
      clear hq2 HCALL c0 c1 c2 c3 f1 f2 f3
      match rw0, HQ2, HF, HADV with
      | .inl (err, pl), HQ2, HF, _ =>
        obtain ⟨hk2, q3, i3, he3, hi3, herr, hrp3⟩ := HQ2.out
        have HK2 := hide hk2
        have HR2 := hide hrp3
        obtain ⟨c0, c1, c2, c3, f1, f2, f3⟩ := hrp3
        have e3 : ((err : Int) == 0) = false := beq_eq_false_iff_ne.2 (by omega)
        clear hk2 he3 HQ2
        go_wp2_with fail
        go_ret
        rw [HF.out]
        exact ⟨HK2.out.setCell rfl _, _, i3 + 1, rfl, by omega, herr, HR2.out.set1 (i3 + 1)⟩
      | .inr (x, m), HQ2, HF, HADV =>
        obtain ⟨hk2, g3, he3, hx3, hrp3⟩ := HQ2.out
        have hm := HADV.out x m rfl
        simp only [Ending.returned.injEq, Value.pointer.injEq] at he3
        subst he3
        have HK2 := hide hk2
        have HR2 := hide hrp3
        have HX3 := hide hx3
        have HNX := hide (rnext_any b s m 0 (-1) w2 hrp3 hm.2 hs)
        have hge3 := Ex.skip_ge s.data.toList m
        have hle3 := Ex.skip_le s.data.toList m (by rw [HL.out]; exact hm.2)
        rw [HL.out] at hle3
        have HSK3 : Hid (Ex.skip s.data.toList (Ex.skip s.data.toList m) = Ex.skip s.data.toList m) := skip_skip _ _ (by rw [HL.out]; exact hm.2)
        have HI3 := hide (rsg_iff s.data.toList (Ex.skip s.data.toList m) 41 (by decide) (by decide))
        have HF3 : Hid (r = if Ex.sg s.data.toList (Ex.skip s.data.toList m) = 41 then .inr (x, Ex.skip s.data.toList m + 1) else .inl (3, Ex.skip s.data.toList m)) := HF.out
        obtain ⟨c0, c1, c2, c3, f1, f2, f3⟩ := hrp3
        clear hk2 HQ2 hx3 HF HADV
        have hs3 : Stay (fun g => w.heap.size ≤ g) w2 w2 := fun g i u _ hc => hc
        clear hs3
        generalize Ex.skip s.data.toList m = q4 at *
        generalize Ex.sg s.data.toList q4 = cs4 at *
        generalize rsg s.data.toList q4 = c4 at *
        go_wp2_with fail
        refine HNX.out.mono ?_
        rintro e w3 ⟨rfl, hr3, hk3⟩
        have HK3 := hide hk3
        have HR3 := hide hr3
        have HX4 : Hid (IsRx (fun g => w.heap.size ≤ g) w3 x g3) := IsRx.stay (Stay.keep hk3 fun g hg e => by have := HBW.out; omega) (fun _ h => h) x g3 HX3.out
        clear c0 c1 c2 c3 f1 f2 f3 HNX hk3
        obtain ⟨c0, c1, c2, c3, f1, f2, f3⟩ := hr3
        by_cases q41 : c4 = 41
        · have HF4 : Hid (r = .inr (x, q4 + 1)) := by show _ = _; rw [HF3.out, if_pos (HI3.out.1 q41)]
          have e4 : ((c4 : Int) != 41) = false := by rw [q41]; rfl
          clear q41 HF3 HI3
          go_wp2_with fail
          go_ret
          rw [HF4.out]
          refine ⟨(HK2.out.trans HK3.out).setCell rfl _, _, rfl, IsRx.stay (Stay.keep ((Keep.refl b w3).setCell rfl _) fun g hg e => by have := HBW.out; omega) (fun _ h => h) x g3 HX4.out, HR3.out.set1 (q4 + 1)⟩
        · have HF4 : Hid (r = .inl (3, q4)) := by show _ = _; rw [HF3.out, if_neg (fun e => q41 (HI3.out.2 e))]
          have e4 : ((c4 : Int) != 41) = true := by simp; omega
          have HFL := hide (rfail_any b s q4 (-1) 3 w3 HR3.out hle3 hs)
          rw [HSK3.out] at HFL
          clear q41 HF3 HI3
          go_wp2_with fail
          refine HFL.out.mono ?_
          rintro e w4 ⟨rfl, hr4, hk4⟩
          have HK4 := hide hk4
          have HR4 := hide hr4
          clear hr4 hk4 HFL
          go_wp2_with fail
          go_ret
          rw [HF4.out]
          exact ⟨(HK2.out.trans HK3.out).trans HK4.out, _, q4, rfl, by omega, by decide, HR4.out⟩
    have e2 : ((c : Int) == 40) = false := beq_eq_false_iff_ne.2 (by omega)
    have n2 : cs ≠ 40 := fun e => q2 ((HIFF.out 40 (by decide) (by decide)).2 e)
    clear HNOT HPAR HWA
    by_cases q3 : c = 48
    · have hcs := (HIFF.out 48 (by decide) (by decide)).1 q3
      have hq := HLT.out (by omega)
      have HF : Hid (r = .inr (⟨0, [], []⟩, q + 1)) := by show _ = _; rw [HP.out, pieceAt, if_neg n1, if_neg n2, if_pos hcs]
      have e3 : ((c : Int) == 48) = true := beq_iff_eq.2 (by omega)
      have henc : Utf8.encode (c : Int) = ⟨#[48]⟩ := by rw [q3]; decide
      clear q1 q2 q3 n1 n2 hcs HP HIFF
      go_wp2_with fail
      go_ret
      rw [HF.out]
      exact ⟨HKS.out.alloc _, _, rfl, IsRx.leaf_at _ _ 0 [] _ (setCell_size w1 _ _) HKS.out.size (.inl ⟨by decide, rfl, rfl⟩), (HR1.out.set1 (q + 1)).alloc _⟩
    have e3 : ((c : Int) == 48) = false := beq_eq_false_iff_ne.2 (by omega)
    have n3 : cs ≠ 48 := fun e => q3 ((HIFF.out 48 (by decide) (by decide)).2 e)
    by_cases q4 : c = 49
    · have hcs := (HIFF.out 49 (by decide) (by decide)).1 q4
      have hq := HLT.out (by omega)
      have HF : Hid (r = .inr (⟨1, [], []⟩, q + 1)) := by show _ = _; rw [HP.out, pieceAt, if_neg n1, if_neg n2, if_neg n3, if_pos hcs]
      have e4 : ((c : Int) == 49) = true := beq_iff_eq.2 (by omega)
      have henc : Utf8.encode (c : Int) = ⟨#[49]⟩ := by rw [q4]; decide
      clear q1 q2 q3 q4 n1 n2 n3 hcs HP HIFF
      go_wp2_with fail
      go_ret
      rw [HF.out]
      exact ⟨HKS.out.alloc _, _, rfl, IsRx.leaf_at _ _ 1 [] _ (setCell_size w1 _ _) HKS.out.size (.inl ⟨by decide, rfl, rfl⟩), (HR1.out.set1 (q + 1)).alloc _⟩
    have e4 : ((c : Int) == 49) = false := beq_eq_false_iff_ne.2 (by omega)
    have n4 : cs ≠ 49 := fun e => q4 ((HIFF.out 49 (by decide) (by decide)).2 e)
    by_cases q5 : c = 94
    · have hcs := (HIFF.out 94 (by decide) (by decide)).1 q5
      have hq := HLT.out (by omega)
      have HF : Hid (r = Ex.nameP s.data.toList 3 (q + 1)) := by show _ = _; rw [HP.out, pieceAt, if_neg n1, if_neg n2, if_neg n3, if_neg n4, if_pos hcs]
      have e5 : ((c : Int) == 94) = true := beq_iff_eq.2 (by omega)
      have henc : Utf8.encode (c : Int) = ⟨#[94]⟩ := by rw [q5]; decide
      have HCALL := hide (word_any b s (q + 1) _ (HR1.out.set1 (q + 1)) (by omega) hs)
      clear q1 q2 q3 q4 q5 n1 n2 n3 n4 hcs HP HIFF
      go_wp2_with fail
      refine HCALL.out.mono ?_
      intro e w2 hq2
      obtain ⟨tt, he⟩ := hq2.str
      subst he
      have HQ2 := hide (Word.from HKS.out hq2)
      clear hq2 HCALL c0 c1 c2 c3 f1 f2 f3
      go_wp2_with fail
      go_ret
      rw [HF.out]
      exact ReadR.word (by decide) (by decide) HQ2.out
    have e5 : ((c : Int) == 94) = false := beq_eq_false_iff_ne.2 (by omega)
    have n5 : cs ≠ 94 := fun e => q5 ((HIFF.out 94 (by decide) (by decide)).2 e)
    by_cases q6 : c = 126
    · have hcs := (HIFF.out 126 (by decide) (by decide)).1 q6
      have hq := HLT.out (by omega)
      have HF : Hid (r = Ex.nameP s.data.toList 4 (q + 1)) := by show _ = _; rw [HP.out, pieceAt, if_neg n1, if_neg n2, if_neg n3, if_neg n4, if_neg n5, if_pos hcs]
      have e6 : ((c : Int) == 126) = true := beq_iff_eq.2 (by omega)
      have henc : Utf8.encode (c : Int) = ⟨#[126]⟩ := by rw [q6]; decide
      have HCALL := hide (word_any b s (q + 1) _ (HR1.out.set1 (q + 1)) (by omega) hs)
      clear q1 q2 q3 q4 q5 q6 n1 n2 n3 n4 n5 hcs HP HIFF
      go_wp2_with fail
      refine HCALL.out.mono ?_
      intro e w2 hq2
      obtain ⟨tt, he⟩ := hq2.str
      subst he
      have HQ2 := hide (Word.from HKS.out hq2)
      clear hq2 HCALL c0 c1 c2 c3 f1 f2 f3
      go_wp2_with fail
      go_ret
      rw [HF.out]
      exact ReadR.word (by decide) (by decide) HQ2.out
    have e6 : ((c : Int) == 126) = false := beq_eq_false_iff_ne.2 (by omega)
    have n6 : cs ≠ 126 := fun e => q6 ((HIFF.out 126 (by decide) (by decide)).2 e)
    have HF : Hid (r = Ex.nameP s.data.toList 2 q) := by show _ = _; rw [HP.out, pieceAt, if_neg n1, if_neg n2, if_neg n3, if_neg n4, if_neg n5, if_neg n6]
    have HCALL := hide (word_any b s q w1 HR1.out hle hs)
    clear q1 q2 q3 q4 q5 q6 n1 n2 n3 n4 n5 n6 HP HIFF
    go_wp2_with fail
    refine HCALL.out.mono ?_
    intro e w2 hq2
    obtain ⟨tt, he⟩ := hq2.str
    subst he
    have HQ2 := hide (Word.from HK1.out hq2)
    clear hq2 HCALL c0 c1 c2 c3 f1 f2 f3
    go_wp2_with fail
    go_ret
    rw [HF.out]
    exact ReadR.word (by decide) (by decide) HQ2.out
end
end Go.Proofs.YtgldbliohpfljaaGreatDoor
