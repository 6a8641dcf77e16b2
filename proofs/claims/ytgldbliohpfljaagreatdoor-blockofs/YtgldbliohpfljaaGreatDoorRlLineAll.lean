/-
  The walks of the document's small functions of chapter 2: Number, Kind, index, within. Plain facts on how the document reads a program's line.
-/
import Derived.Test.YtgldbliohpfljaaGreatDoorLdKindAll
import Derived.Test.YtgldbliohpfljaaGreatDoorRpRuneAll
namespace Go.Proofs.YtgldbliohpfljaaGreatDoor
section
open Go.RowKit
theorem rwithin_any (n a b : Int) (w : World) : Calls Tryz.prog 149 #[.int .i64 n, .int .i64 a, .int .i64 b] w fun e w' => e = .returned (.bool (decide (a ≤ n) && decide (n ≤ b))) ∧ w' = w := by
  by_cases h1 : a ≤ n
  · go_enter Tryz.func149, Tryz.ntmps149
    go_wp2
    go_ret
    exact ⟨by simp [h1], rfl⟩
  · have e : (decide (a ≤ n) && decide (n ≤ b)) = false := by rw [decide_eq_false h1]; rfl
    have HE := hide e
    clear e
    go_enter Tryz.func149, Tryz.ntmps149
    go_wp2
    go_ret
    exact ⟨by rw [HE.out]; rfl, rfl⟩
set_option maxHeartbeats 2000000 in
set_option maxRecDepth 100000 in
theorem rNumber_any (ns : List Ld.Nme) (nv rv : Value) (s : List UInt8) (w : World) (hn : NamesAt w nv ns) (hr : ∃ a n c, rv = .slice a n c) :
    Calls Tryz.prog 23 #[.agg #[nv, rv], .string ⟨s.toArray⟩] w fun e w' => e = .returned (.int .i64 (Ld.number ns s)) ∧ Below w.heap.size w w' := by
  obtain ⟨ra, rn, rc, rfl⟩ := hr
  have HNA := hide hn
  obtain ⟨na, nc, rfl, hl6⟩ := hn.slice
  obtain ⟨nn, hnn⟩ : ∃ nn, nn = ns.length := ⟨_, rfl⟩
  have HNN := hide hnn
  rw [← hnn] at HNA hl6 ⊢
  clear hn hnn
  have hbs := bytes_list s
  go_enter Tryz.func23, Tryz.ntmps23
  go_wp2_with fail
  go_loopw [10] (fun i wr => ∃ k : Nat, k ≤ nn ∧ i = .int .i64 (k : Int) ∧ Hid (∀ j x, j < k → ns[j]? = some x → (x.name == s) = false) ∧ Hid (Below w.heap.size w wr)) (fun i _ => nn - (intOf i).toNat)
  case atStart => exact ⟨0, Nat.zero_le _, rfl, fun j x hj => absurd hj (Nat.not_lt_zero j), (Below.refl _ _).alloc (Nat.le_refl _) _⟩
  case round =>
    obtain ⟨k, hk, rfl, HNO, HB⟩ := hrel
    by_cases hlt : k < nn
    · have hkl : k < ns.length := by rw [← HNN.out]; exact hlt
      obtain ⟨g, hga, hcap, e1, e2, e3, e4, e5, e6⟩ := (HNA.out.below HB.out).at_ (List.getElem?_eq_getElem hkl)
      subst hga
      have HHIT : Hid ((ns[k].name == s) = true → Ld.number ns s = (k : Int)) := fun hp => Ld.number_hit ns s k hkl hp (fun j hj => HNO.out j _ hj (List.getElem?_eq_getElem (by omega)))
      have HON : Hid ((ns[k].name == s) = false → ∀ j x, j < k + 1 → ns[j]? = some x → (x.name == s) = false) := fun hp j x hj hx => by
        by_cases e : j = k
        · subst e; rw [List.getElem?_eq_getElem hkl] at hx; cases hx; exact hp
        · exact HNO.out j x (by omega) hx
      have HBA : Hid (∀ o, Below w.heap.size w (wr.alloc o)) := fun o => HB.out.alloc HB.out.size o
      have hbn := bytes_list ns[k].name
      have hki : (k : Int) < (nn : Int) := by omega
      generalize hy : ns[k] = y at *
      obtain ⟨nm, kd, ct⟩ := y
      clear hy
      dsimp only at e1 e2 e3 hbn HHIT HON
      cases hp : (nm == s) with
      | true =>
        have HF := hide (HHIT.out hp)
        go_wp2_with fail
        go_ret
        exact ⟨by rw [HF.out]; rfl, HBA.out _⟩
      | false =>
        have HF := hide (HON.out hp)
        go_wp2_with fail
        exact ⟨⟨k + 1, by omega, by go_num, HF.out, HBA.out _⟩, by simp [intOf]; omega⟩
    · have hkn : k = nn := by omega
      have HF : Hid (Ld.number ns s = -1) := Ld.number_none ns s (fun j hj => HNO.out j _ (by rw [← HNN.out] at hj; omega) (List.getElem?_eq_getElem hj))
      subst hkn
      go_wp2_with fail
      go_ret
      exact ⟨by rw [HF.out]; rfl, HB.out⟩
set_option maxHeartbeats 4000000 in
set_option maxRecDepth 100000 in
theorem rKind_any (ns : List Ld.Nme) (nv rv : Value) (s : Int) (w : World) (hn : NamesAt w nv ns) (hr : ∃ a n c, rv = .slice a n c) :
    Calls Tryz.prog 72 #[.agg #[nv, rv], .int .i64 s] w fun e w' => ∃ v, e = .returned v ∧ w'.ownsRow w.heap.size 3 1 v (Ld.kindL ns s).length ((Ld.kindL ns s).map intV) ∧ Below w.heap.size w w' := by
  obtain ⟨ra, rn, rc, rfl⟩ := hr
  obtain ⟨i0, hi0, hz0, hz1, hz2⟩ := info_parts Tryz.infoInt
  have HNA := hide hn
  obtain ⟨na, nc, rfl, hlen⟩ := hn.slice
  obtain ⟨n, hnn⟩ : ∃ n, n = ns.length := ⟨_, rfl⟩
  have HN := hide hnn
  have HKL : Hid (Ld.kindL ns s = Ld.placesTo (fun n => n.kind == s) ns n) := by show _ = _; rw [hnn]; rfl
  rw [HKL.out]
  rw [← hnn] at HNA hlen
  rw [← hnn]
  clear hnn hn
  go_enter Tryz.func72, Tryz.ntmps72
  go_wp2_with fail
  go_loopw [5, 11] (fun l i wr => ∃ k : Nat, k ≤ n ∧ i = .int .i64 (k : Int) ∧ (∃ a c, l = .slice a (Ld.placesTo (fun n => n.kind == s) ns k).length c) ∧ Hid (wr.ownsRow w.heap.size 3 1 l (Ld.placesTo (fun n => n.kind == s) ns k).length ((Ld.placesTo (fun n => n.kind == s) ns k).map intV)) ∧ Hid (Below w.heap.size w wr)) (fun _ i _ => n - (intOf i).toNat)
  case atStart => exact ⟨0, Nat.zero_le _, rfl, ⟨_, _, rfl⟩, World.ownsRow_nil _ _ _ _, (Below.refl _ _).alloc (Nat.le_refl _) _⟩
  case round =>
    obtain ⟨k, hk, rfl, ⟨la, lc, rfl⟩, HO, HB⟩ := hrel
    have hple := Ld.placesTo_le (fun n => n.kind == s) ns k
    by_cases hlt : k < n
    · have hkl : k < ns.length := by rw [← HN.out]; exact hlt
      obtain ⟨g, hga, hcap, e1, e2, e3, e4, e5, e6⟩ := (HNA.out.below HB.out).at_ (List.getElem?_eq_getElem hkl)
      subst hga
      have HSU := hide (Ld.placesTo_succ (fun n => n.kind == s) ns k hkl)
      have hki : (k : Int) < (n : Int) := by omega
      have hgl : g < wr.heap.size := World.block_lt_of_cell? _ _ e1
      generalize ns[k] = y at *
      obtain ⟨nm, kd, ct⟩ := y
      dsimp only at e1 e2 e3 HSU
      generalize hpl : Ld.placesTo (fun n => n.kind == s) ns k = pl at *
      clear hpl e4 e5 e6
      obtain ⟨w1, hw1⟩ : ∃ w1, w1 = wr.alloc (.cells #[.string ⟨nm.toArray⟩, .int .i64 kd, .int .i64 ct] 144) := ⟨_, rfl⟩
      have HW1 := hide hw1
      have HB1 : Hid (Below w.heap.size w w1) := by rw [hw1]; exact HB.out.alloc HB.out.size _
      have HO1 : Hid (w1.ownsRow w.heap.size 3 1 (.slice la pl.length lc) pl.length (pl.map intV)) := by rw [hw1]; exact HO.out.alloc _
      clear hw1
      cases hpy : (kd == s) with
      | true =>
        rw [hpy] at HSU
        have HOWN : Hid (∀ o, (w1.alloc o).ownsRow w.heap.size 3 1 (.slice la pl.length lc) pl.length (pl.map intV)) := fun o => HO1.out.alloc o
        have HONE : Hid (∀ u ∈ [Value.int .i64 (k : Int)], u.oneCell' = true) := by
          intro u hu
          simp only [List.mem_cons, List.not_mem_nil, or_false] at hu
          subst hu; rfl
        have HFIN : Hid (∀ (o : Obj) (g cap : Nat) (wA : World), wA.ownsRow w.heap.size 3 1 (.slice (some ⟨g, 0, none⟩) (pl.length + 1) cap) (pl.length + 1) (pl.map intV ++ [intV k]) → (w1.alloc o).grownBy wA (Value.slice la pl.length lc).ownBlock →
            (wA.ownsRow w.heap.size 3 1 (.slice (some ⟨g, 0, none⟩) (pl.length + 1) cap) (Ld.placesTo (fun n => n.kind == s) ns (k + 1)).length ((Ld.placesTo (fun n => n.kind == s) ns (k + 1)).map intV) ∧ (Ld.placesTo (fun n => n.kind == s) ns (k + 1)).length = pl.length + 1) ∧ Below w.heap.size w wA) := by
          intro o g cap wA hown hgrow
          rw [HSU.out, if_pos rfl]
          refine ⟨⟨by simpa using hown, by simp⟩, ?_⟩
          refine (HB1.out.alloc HB1.out.size o).grown hgrow (by simp; have := HB1.out.size; omega) (fun j e => (HO1.out.lt j e).1)
        have HNW : Hid (∀ j u, [Value.int .i64 (k : Int)][j]? = some u → ((wr.alloc (.cells #[.string ⟨nm.toArray⟩, .int .i64 kd, .int .i64 ct] 144)).alloc (.cells #[.int .i64 (k : Int)] 3)).cell? ((⟨wr.heap.size + 1, 0, none⟩ : Addr).add j) = some u) := by
          have h := World.news_of_block (heap_alloc_new (wr.alloc (.cells #[.string ⟨nm.toArray⟩, .int .i64 kd, .int .i64 ct] 144)) (.cells #[.int .i64 (k : Int)] 3))
          rw [World.size_alloc] at h
          exact h
        have hzr := HB.out.size
        rw [HW1.out] at HOWN HFIN
        clear HO1
        go_wp2_with (at_builtin; refine wpList_append_lies _ rfl (.tmp 20) (.tmp 22) 36 rfl w.heap.size 3 i0 _ 1 8 Tryz.underlying36 hi0 hz0 hz1 hz2 rfl (by decide) (.slice la pl.length lc) pl.length (pl.map intV) rfl (HOWN.out _) ⟨wr.heap.size + 1, 0, none⟩ 1 1 [.int .i64 (k : Int)] rfl rfl HNW.out HONE.out (by decide) (by unfold maxLen; omega) (by omega) (by simp; omega) (wr.heap.size + 2) (by simp) ?_; intro g2 cap2 wC hown hgrow hat hltg; obtain ⟨⟨hoC, hlC⟩, hbC⟩ := HFIN.out _ g2 cap2 wC hown hgrow; have HOC := hide hoC; have HLC := hide hlC; have HBC := hide hbC; clear hown hgrow hat hoC hlC hbC)
        exact ⟨⟨k + 1, by omega, by go_num, ⟨_, _, by rw [HLC.out]⟩, HOC.out, HBC.out⟩, by simp [intOf]; omega⟩
      | false =>
        rw [hpy] at HSU
        have HSE : Hid (Ld.placesTo (fun n => n.kind == s) ns (k + 1) = pl) := by show _ = _; rw [HSU.out]; simp
        rw [HW1.out] at HO1 HB1
        go_wp2_with fail
        exact ⟨⟨k + 1, by omega, by go_num, ⟨_, _, by rw [HSE.out]⟩, by rw [HSE.out]; exact HO1.out, HB1.out⟩, by simp [intOf]; omega⟩
    · have hkn : k = n := by omega
      subst hkn
      go_wp2_with fail
      go_ret
      exact ⟨_, rfl, HO.out, HB.out⟩
namespace Ld
/-- the first place at which a word stands; -1: none (nor of the empty one) -/
def idx (l : List (List UInt8)) (s : List UInt8) : Int := numOf (l.findIdx? fun x => x == s && !s.isEmpty)
end Ld
set_option maxHeartbeats 2000000 in
set_option maxRecDepth 100000 in
theorem rindex_any (l : List (List UInt8)) (sv : Value) (s : List UInt8) (w : World) (hl : Strs w sv (l.map toBA)) :
    Calls Tryz.prog 111 #[sv, .string ⟨s.toArray⟩] w fun e w' => e = .returned (.int .i64 (Ld.idx l s)) ∧ w' = w := by
  rcases hl with ⟨h0, a, cap, rfl⟩ | ⟨g, o, cap, rfl, hcap, hlen, hc⟩
  · have h1 : l = [] := by simpa using h0
    subst h1
    go_enter Tryz.func111, Tryz.ntmps111
    go_wp2_with fail
    go_loopw [9] (fun i wr => i = .int .i64 0 ∧ Hid (wr = w)) (fun _ _ => 0)
    case atStart => exact ⟨rfl, rfl⟩
    case round =>
      obtain ⟨rfl, HW⟩ := hrel
      go_wp2_with fail
      go_ret
      exact ⟨rfl, HW.out⟩
  · rw [List.length_map] at hcap hlen ⊢
    obtain ⟨n, hnn⟩ : ∃ n, n = l.length := ⟨_, rfl⟩
    have HN := hide hnn
    rw [← hnn] at hcap hlen ⊢
    have HC : Hid (∀ (k : Nat) x, l[k]? = some x → w.cell? ⟨g, o + k, none⟩ = some (.string ⟨x.toArray⟩)) := fun k x hx => hc k (toBA x) (by rw [List.getElem?_map, hx]; rfl)
    have hbs := bytes_list s
    obtain ⟨q, hq⟩ : ∃ q, q = !s.isEmpty := ⟨_, rfl⟩
    have HQ := hide hq
    have HID : Hid (Ld.idx l s = Ld.numOf (l.findIdx? fun x => x == s && q)) := by show _ = _; rw [hq]; rfl
    clear hq
    clear hc hnn
    go_enter Tryz.func111, Tryz.ntmps111
    go_wp2_with fail
    go_loopw [9] (fun i wr => ∃ k : Nat, k ≤ n ∧ i = .int .i64 (k : Int) ∧ Hid (∀ j x, j < k → l[j]? = some x → (x == s && q) = false) ∧ Hid (wr = w)) (fun i _ => n - (intOf i).toNat)
    case atStart => exact ⟨0, Nat.zero_le _, rfl, fun j x hj => absurd hj (Nat.not_lt_zero j), rfl⟩
    case round =>
      obtain ⟨k, hk, rfl, HNO, HW⟩ := hrel
      obtain rfl := HW.out
      by_cases hlt : k < n
      · have hkl : k < l.length := by rw [← HN.out]; exact hlt
        have c1 := HC.out k _ (List.getElem?_eq_getElem hkl)
        have hbx := bytes_list l[k]
        have HHIT : Hid ((l[k] == s && q) = true → Ld.idx l s = (k : Int)) := fun hp => by
          show _ = _
          rw [HID.out]
          rw [List.findIdx?_eq_some_iff_getElem.2 ⟨hkl, hp, fun j hj => by rw [HNO.out j l[j] hj (List.getElem?_eq_getElem (by omega))]; decide⟩]
          rfl
        have HON : Hid ((l[k] == s && q) = false → ∀ j x, j < k + 1 → l[j]? = some x → (x == s && q) = false) := fun hp j x hj hx => by
          by_cases e : j = k
          · subst e; rw [List.getElem?_eq_getElem hkl] at hx; cases hx; exact hp
          · exact HNO.out j x (by omega) hx
        have hki : (k : Int) < (n : Int) := by omega
        generalize l[k] = y at *
        cases hp : (y == s) with
        | true =>
          cases hs : s.isEmpty with
          | true =>
            have HF := hide (HON.out (by rw [HQ.out, hs]; simp))
            go_wp2_with fail
            exact ⟨⟨k + 1, by omega, by go_num, HF.out, trivial⟩, by simp [intOf]; omega⟩
          | false =>
            have HF := hide (HHIT.out (by rw [hp, HQ.out, hs]; rfl))
            go_wp2_with fail
            go_ret
            exact ⟨by rw [HF.out]; rfl, rfl⟩
        | false =>
          have HF := hide (HON.out (by rw [hp]; rfl))
          go_wp2_with fail
          exact ⟨⟨k + 1, by omega, by go_num, HF.out, trivial⟩, by simp [intOf]; omega⟩
      · have hkn : k = n := by omega
        have HF : Hid (Ld.idx l s = -1) := by
          show _ = _
          rw [HID.out]
          rw [List.findIdx?_eq_none_iff.2 (fun x hx => by obtain ⟨j, hj, rfl⟩ := List.getElem_of_mem hx; exact HNO.out j _ (by rw [← HN.out] at hj; omega) (List.getElem?_eq_getElem hj))]
          rfl
        subst hkn
        go_wp2_with fail
        go_ret
        exact ⟨by rw [HF.out]; rfl, rfl⟩
end
section
namespace Ld
def nameL : List (List UInt8) := [nameW 0, nameW 1, nameW 2, nameW 3, nameW 4]
def rungL : List (List UInt8) := [rungW 0, rungW 1, rungW 2, rungW 3, rungW 4, rungW 5, rungW 6]
theorem beq_no {a b : List UInt8} (h : b ≠ a) : (a == b) = false := by rw [beq_eq_false_iff_ne]; exact Ne.symm h
theorem idx_names (s : List UInt8) (h : s ≠ []) : idx nameL s = if kindN s = 0 then -1 else (kindN s : Int) := by
  by_cases h1 : s = nameW 1
  · subst h1; decide
  by_cases h2 : s = nameW 2
  · subst h2; decide
  by_cases h3 : s = nameW 3
  · subst h3; decide
  by_cases h4 : s = nameW 4
  · subst h4; decide
  have e0 : (nameW 0 == s) = false := beq_no h
  have hk : kindN s = 0 := by unfold kindN; rw [if_neg h1, if_neg h2, if_neg h3, if_neg h4]
  rw [hk, if_pos rfl]
  unfold idx nameL
  simp only [List.findIdx?_cons, e0, beq_no h1, beq_no h2, beq_no h3, beq_no h4, Bool.false_and, Bool.false_eq_true, if_false, List.findIdx?_nil, Option.map_none]
  rfl
theorem idx_rungs (s : List UInt8) (h : s ≠ []) : idx rungL s = if kindG s = 0 then -1 else (kindG s : Int) := by
  by_cases h2 : s = rungW 2
  · subst h2; decide
  by_cases h3 : s = rungW 3
  · subst h3; decide
  by_cases h4 : s = rungW 4
  · subst h4; decide
  by_cases h5 : s = rungW 5
  · subst h5; decide
  by_cases h6 : s = rungW 6
  · subst h6; decide
  have e0 : (rungW 0 == s) = false := beq_no h
  have e1 : (rungW 1 == s) = false := beq_no h
  have hk : kindG s = 0 := by unfold kindG; rw [if_neg h2, if_neg h3, if_neg h4, if_neg h5, if_neg h6]
  rw [hk, if_pos rfl]
  unfold idx rungL
  simp only [List.findIdx?_cons, e0, e1, beq_no h2, beq_no h3, beq_no h4, beq_no h5, beq_no h6, Bool.false_and, Bool.false_eq_true, if_false, List.findIdx?_nil, Option.map_none]
  rfl
theorem kindN_le (s : List UInt8) : kindN s ≤ 4 := by
  unfold kindN
  repeat' split
  all_goals decide
theorem kindG_le (s : List UInt8) : kindG s ≤ 6 ∧ kindG s ≠ 1 := by
  unfold kindG
  repeat' split
  all_goals decide
theorem split_blank : ∀ l : List UInt8, (split 32 l).filter (fun w => !w.isEmpty) = [] ↔ isBlank l = true
  | [] => by decide
  | a :: r => by
    have ih := split_blank r
    unfold split
    by_cases h : a = 32
    · subst h
      rw [if_pos rfl]
      simp only [List.filter_cons, List.isEmpty_nil, Bool.not_true, Bool.false_eq_true, if_false]
      rw [ih]
      simp [isBlank]
    · rw [if_neg h]
      have hb : isBlank (a :: r) = false := by simp [isBlank, h]
      rw [hb]
      cases hs : split 32 r with
      | nil => simp
      | cons x t => simp
theorem words_blank (l : List UInt8) : words l = [] ↔ isBlank l = true := split_blank l
theorem rdName_bad (w0 : List UInt8) (rest : List (List UInt8)) (h : kindN w0 = 0) : rdName (w0 :: rest) = none := by
  match rest with
  | [] => rfl
  | [_] => simp only [rdName, h]; simp
  | [_, _] => simp only [rdName, h]; simp
  | _ :: _ :: _ :: _ => rfl
theorem rdName_few (w0 : List UInt8) (rest : List (List UInt8)) (h : kindN w0 < 3) (hl : (w0 :: rest).length ≠ 2) : rdName (w0 :: rest) = none := by
  match rest with
  | [] => rfl
  | [_] => simp at hl
  | [_, _] => simp only [rdName]; rw [if_neg (by omega)]
  | _ :: _ :: _ :: _ => rfl
theorem rdName_many (w0 : List UInt8) (rest : List (List UInt8)) (h : 3 ≤ kindN w0) (hl : (w0 :: rest).length ≠ 3) : rdName (w0 :: rest) = none := by
  match rest with
  | [] => rfl
  | [_] => simp only [rdName]; rw [if_neg (by omega)]
  | [_, _] => simp at hl
  | _ :: _ :: _ :: _ => rfl
theorem rdName_two (w0 nm : List UInt8) (h : kindN w0 ≠ 0) (h3 : kindN w0 < 3) : rdName [w0, nm] = some ⟨nm, (kindN w0 : Int), 0⟩ := by
  simp only [rdName]
  rw [if_pos (by omega)]
theorem rdName_three (w0 nm c : List UInt8) (h3 : 3 ≤ kindN w0) : rdName [w0, nm, c] = (rdCount c).map fun n => ⟨nm, (kindN w0 : Int), n⟩ := by
  have := kindN_le w0
  simp only [rdName]
  rw [if_pos (by omega)]
/-- a line without = -/
theorem take_plain (r : Rdg) (st : Nat) (s : List UInt8) (h : (61 : UInt8) ∉ s) : take r st s = match rdName (words s) with
    | none => .inl (3, st)
    | some n => if r.rungs = [] then .inr ⟨r.names ++ [n], r.rungs, r.starts ++ [st]⟩ else .inl (3, st) := by
  unfold take
  rw [cutE_none s h]
  rfl
theorem take_rung (r : Rdg) (st : Nat) (s a t : List UInt8) (hs : s = a ++ 61 :: t) (h : (61 : UInt8) ∉ a) : take r st s = match rdHead (words a) with
    | none => .inl (3, st)
    | some (k, nm) => match Ex.parse t with
      | .inl (e, pl) => .inl (e, st + a.length + 1 + pl.getD 0)
      | .inr x => .inr ⟨r.names, r.rungs ++ [⟨(k : Int), nm, some x⟩], r.starts ++ [st]⟩ := by
  unfold take
  rw [hs, cutE_at a t h]
  rfl
theorem take_none (r : Rdg) (st : Nat) (s : List UInt8) (h : (61 : UInt8) ∉ s) (hn : rdName (words s) = none) : take r st s = .inl (3, st) := by rw [take_plain r st s h, hn]
theorem take_late (r : Rdg) (st : Nat) (s : List UInt8) (h : (61 : UInt8) ∉ s) (hr : r.rungs ≠ []) : take r st s = .inl (3, st) := by
  rw [take_plain r st s h]
  cases rdName (words s) with
  | none => rfl
  | some n => simp only [if_neg hr]
theorem take_name (r : Rdg) (st : Nat) (s : List UInt8) (n : Nme) (h : (61 : UInt8) ∉ s) (hn : rdName (words s) = some n) (hr : r.rungs = []) : take r st s = .inr ⟨r.names ++ [n], r.rungs, r.starts ++ [st]⟩ := by
  rw [take_plain r st s h, hn]
  simp only [if_pos hr]
theorem take_head (r : Rdg) (st : Nat) (s a t : List UInt8) (hs : s = a ++ 61 :: t) (h : (61 : UInt8) ∉ a) (hh : rdHead (words a) = none) : take r st s = .inl (3, st) := by rw [take_rung r st s a t hs h, hh]
theorem take_err (r : Rdg) (st : Nat) (s a t : List UInt8) (hs : s = a ++ 61 :: t) (h : (61 : UInt8) ∉ a) (k : Nat) (nm : List UInt8) (hh : rdHead (words a) = some (k, nm)) (e : Nat) (pl : Option Nat) (hp : Ex.parse t = .inl (e, pl)) : take r st s = .inl (e, st + a.length + 1 + pl.getD 0) := by rw [take_rung r st s a t hs h, hh]; simp only [hp]
theorem take_ok (r : Rdg) (st : Nat) (s a t : List UInt8) (hs : s = a ++ 61 :: t) (h : (61 : UInt8) ∉ a) (k : Nat) (nm : List UInt8) (hh : rdHead (words a) = some (k, nm)) (x : Ex) (hp : Ex.parse t = .inr x) : take r st s = .inr ⟨r.names, r.rungs ++ [⟨(k : Int), nm, some x⟩], r.starts ++ [st]⟩ := by rw [take_rung r st s a t hs h, hh]; simp only [hp]
theorem rdHead_bad (w0 nm : List UInt8) (h : kindG w0 = 0) : rdHead [w0, nm] = none := by simp only [rdHead, h, if_pos]
theorem rdHead_two (w0 nm : List UInt8) (h : kindG w0 ≠ 0) : rdHead [w0, nm] = some (kindG w0, nm) := by simp only [rdHead]; rw [if_neg h]
/-- what the next line comes to, of all that was read -/
theorem takes_next (L : List (List UInt8)) (j : Nat) (s : List UInt8) (r : Rdg) (hj : L[j]? = some s) (h : takes ⟨[], [], []⟩ (linesOf (L.take j)) = .inr r) (hb : isBlank s = false) : takes ⟨[], [], []⟩ (linesOf (L.take (j + 1))) = take r (total (L.take j)) s := by
  obtain ⟨hl, e⟩ := List.getElem?_eq_some_iff.1 hj
  rw [List.take_succ_eq_append_getElem hl, linesOf_snoc, e, hb, if_neg Bool.false_ne_true, takes_snoc, h]
theorem takes_blank (L : List (List UInt8)) (j : Nat) (s : List UInt8) (hj : L[j]? = some s) (hb : isBlank s = true) : linesOf (L.take (j + 1)) = linesOf (L.take j) := by
  obtain ⟨hl, e⟩ := List.getElem?_eq_some_iff.1 hj
  rw [List.take_succ_eq_append_getElem hl, linesOf_snoc, e, hb, if_pos rfl, List.append_nil]
theorem takes_stop (L : List (List UInt8)) (j : Nat) (e : Nat × Nat) (h : takes ⟨[], [], []⟩ (linesOf (L.take j)) = .inl e) : takes ⟨[], [], []⟩ (linesOf L) = .inl e := by
  obtain ⟨r, hr⟩ := linesOf_pre (L.take j) (L.drop j)
  rw [List.take_append_drop] at hr
  rw [hr]
  exact takes_app r _ _ _ h
theorem total_next (L : List (List UInt8)) (j : Nat) (s : List UInt8) (hj : L[j]? = some s) : total (L.take (j + 1)) = total (L.take j) + (s.length + 1) := by
  obtain ⟨hl, e⟩ := List.getElem?_eq_some_iff.1 hj
  rw [List.take_succ_eq_append_getElem hl, total_snoc, e]
theorem total_split : ∀ (l : List UInt8), total (split 10 l) = l.length + 1
  | [] => by simp [split, total]
  | a :: r => by
    have ih := total_split r
    unfold split
    by_cases h : a = 10
    · rw [if_pos h]; simp only [total, ih, List.length_nil, List.length_cons]; omega
    · rw [if_neg h]
      cases hs : split 10 r with
      | nil => rw [hs] at ih; simp [total] at ih
      | cons x t => rw [hs] at ih; simp only [total, List.length_cons] at ih ⊢; omega
theorem total_take (L : List (List UInt8)) (j : Nat) : total (L.take j) ≤ total L := by
  have h : ∀ (a b : List (List UInt8)), total (a ++ b) = total a + total b := by
    intro a
    induction a with
    | nil => intro b; simp [total]
    | cons x r ih => intro b; simp only [List.cons_append, total, ih]; omega
  have h1 := h (L.take j) (L.drop j)
  rw [List.take_append_drop] at h1
  omega
theorem bad_pos (f : Nat → Nat) : ∀ (n e i : Nat), bad f n = some (e, i) → e ≠ 0
  | 0, e, i, h => by simp [bad] at h
  | n + 1, e, i, h => by
    unfold bad at h
    cases hb : bad f n with
    | some r =>
      rw [hb] at h
      simp only [Option.some.injEq] at h
      subst h
      exact bad_pos f n e i hb
    | none =>
      rw [hb] at h
      by_cases hf : f n = 0
      · simp [hf] at h
      · simp only [if_neg hf, Option.some.injEq, Prod.mk.injEq] at h
        rw [← h.1]; exact hf
theorem check_pos (p : Prg) (e : Nat) (pl : Option Nat) (h : check p = some (e, pl)) : e ≠ 0 := by
  unfold check at h
  split at h
  · simp only [Option.some.injEq, Prod.mk.injEq] at h
    omega
  · split at h
    · rename_i q hq
      simp only [Option.some.injEq, Prod.mk.injEq] at h
      rw [← h.1]
      exact bad_pos _ _ _ _ hq
    · split at h
      · rename_i q hq
        simp only [Option.some.injEq, Prod.mk.injEq] at h
        rw [← h.1]
        exact bad_pos _ _ _ _ hq
      · cases h
end Ld
end
end Go.Proofs.YtgldbliohpfljaaGreatDoor
