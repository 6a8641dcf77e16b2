/-
  The walk of the statements' own says: a fact of one expression.
-/
import Derived.Test.YtmchohajfgemcaaDoorParse
import Derived.Test.YtmchohajfgemcaaDoorTxList
import Derived.Test.YtmchohajfgemcaaDoorKeAmong
namespace Go.Proofs.YtmchohajfgemcaaDoor
open Go.RowKit
/-- the expression a & !b -/
def exAB : Ex := ⟨6, [], [⟨2, [97], []⟩, ⟨5, [], [⟨2, [98], []⟩]⟩]⟩
theorem parse_ab : Ex.parse [97, 32, 38, 32, 33, 98] = .inr exAB := by kernel_rfl
theorem text_ab : exAB.text = [97, 32, 38, 32, 33, 98] := by simp [exAB, Ex.text, Ex.join, Ex.par]
theorem eval_a : exAB.eval (amongB [⟨#[97]⟩]) (amongB []) = true := by simp [exAB, Ex.eval, amongB]
theorem eval_ab : exAB.eval (amongB [⟨#[97]⟩, ⟨#[98]⟩]) (amongB []) = false := by simp [exAB, Ex.eval, amongB]
theorem strs_nil (w : World) : Strs w (.slice none 0 0) [] := .inl ⟨rfl, _, _, rfl⟩
theorem IsEx.later {ok : Nat → Prop} {w w' : World} {x : Ex} {v : Value} (h : IsEx ok w x v) (hb : Below w.heap.size w w') : IsEx (fun _ => True) w' x v := IsEx.stay (Stay.below hb) (fun _ _ => trivial) x v h
set_option maxHeartbeats 2000000 in
theorem says_any (w : World) : Calls Tryd.prog 10 #[] w fun e w' => e = .returned (.bool true) ∧ Below w.heap.size w w' := by
  have HP := hide (Parse_any ⟨#[97, 32, 38, 32, 33, 98]⟩ w (by decide))
  change Hid (Calls _ _ _ _ (Parsed w (Ex.parse [97, 32, 38, 32, 33, 98]))) at HP
  rw [parse_ab] at HP
  go_enter Tryd.func10, Tryd.ntmps10
  go_wp2_with fail
  refine HP.out.mono ?_
  rintro e w1 ⟨hb1, v, rfl, hx1⟩
  have HB1 := hide hb1
  have HX1 := hide hx1
  obtain ⟨tu, yu, hiu⟩ := IsEx.iface _ v hx1
  subst hiu
  clear hb1 hx1 HP
  go_wp2_with fail
  have ha : Below w1.heap.size w1 (w1.alloc (.cells #[.string ⟨#[97]⟩] 9)) := (Below.refl _ _).alloc (Nat.le_refl _) _
  have hs : Strs (w1.alloc (.cells #[.string ⟨#[97]⟩] 9)) (.slice (some ⟨w1.heap.size, 0, none⟩) 1 1) [⟨#[97]⟩] := .inr ⟨w1.heap.size, 0, 1, rfl, by decide, by decide, fun k s hk => by
    match k, hk with
    | 0, hk => simp at hk; subst hk; simp
    | k + 1, hk => simp at hk⟩
  refine (among_any _ _ _ hs).mono ?_
  rintro e w2 ⟨f, rfl, ht, hb⟩
  have HT2 := hide ht
  have HB2 := hide (ha.trans (hb.mono (by simp)))
  obtain ⟨K, c, hf, _, _⟩ := ht
  subst hf
  clear hb ha hs
  go_wp2_with fail
  refine (among_any _ _ _ (strs_nil w2)).mono ?_
  rintro e w3 ⟨f, rfl, ht, hb⟩
  have HT3 := hide ht
  have HB3 := hide hb
  obtain ⟨K3, c3, hf, _, _⟩ := ht
  subst hf
  clear hb
  go_wp2_with fail
  have HX3 := hide (HX1.out.later (HB2.out.trans (HB3.out.mono HB2.out.size)))
  refine (Eval_any _ exAB _ _ _ _ _ w3 HX3.out (HT2.out.below HB3.out) HT3.out).mono ?_
  rintro e w4 ⟨rfl, hb⟩
  rw [eval_a]
  have HB4 := hide hb
  clear hb
  go_wp2_with fail
  have ha : Below w4.heap.size w4 (w4.alloc (.cells #[.string ⟨#[97]⟩, .string ⟨#[98]⟩] 9)) := (Below.refl _ _).alloc (Nat.le_refl _) _
  have hs : Strs (w4.alloc (.cells #[.string ⟨#[97]⟩, .string ⟨#[98]⟩] 9)) (.slice (some ⟨w4.heap.size, 0, none⟩) 2 2) [⟨#[97]⟩, ⟨#[98]⟩] := .inr ⟨w4.heap.size, 0, 2, rfl, by decide, by decide, fun k s hk => by
    match k, hk with
    | 0, hk => simp at hk; subst hk; simp
    | 1, hk => simp at hk; subst hk; simp
    | k + 2, hk => simp at hk⟩
  refine (among_any _ _ _ hs).mono ?_
  rintro e w5 ⟨f, rfl, ht, hb⟩
  have HT5 := hide ht
  have HB5 := hide (ha.trans (hb.mono (by simp)))
  obtain ⟨K5, c5, hf, _, _⟩ := ht
  subst hf
  clear hb ha hs
  go_wp2_with fail
  refine (among_any _ _ _ (strs_nil w5)).mono ?_
  rintro e w6 ⟨f, rfl, ht, hb⟩
  have HT6 := hide ht
  have HB6 := hide hb
  obtain ⟨K6, c6, hf, _, _⟩ := ht
  subst hf
  clear hb
  have HX4 := hide (HX3.out.later HB4.out)
  have HX6 := hide (HX4.out.later (HB5.out.trans (HB6.out.mono HB5.out.size)))
  go_wp2_with fail
  refine (Eval_any _ exAB _ _ _ _ _ w6 HX6.out (HT5.out.below HB6.out) HT6.out).mono ?_
  rintro e w7 ⟨rfl, hb⟩
  rw [eval_ab]
  have HB7 := hide hb
  clear hb
  have HX7 := hide (HX6.out.later HB7.out)
  go_wp2_with fail
  refine (Text_any _ exAB _ w7 HX7.out (by rw [text_ab]; decide)).mono ?_
  rintro e w8 ⟨rfl, hb⟩
  have HB8 := hide hb
  rw [text_ab]
  clear hb
  go_wp2_with fail
  go_ret
  refine ⟨rfl, ?_⟩
  have s1 := HB1.out.size
  have s2 := HB2.out.size
  have s3 := HB3.out.size
  have s4 := HB4.out.size
  have s5 := HB5.out.size
  have s6 := HB6.out.size
  have s7 := HB7.out.size
  exact ((((((HB1.out.trans (HB2.out.mono (by omega))).trans (HB3.out.mono (by omega))).trans (HB4.out.mono (by omega))).trans (HB5.out.mono (by omega))).trans (HB6.out.mono (by omega))).trans (HB7.out.mono (by omega))).trans (HB8.out.mono (by omega))
end Go.Proofs.YtmchohajfgemcaaDoor
