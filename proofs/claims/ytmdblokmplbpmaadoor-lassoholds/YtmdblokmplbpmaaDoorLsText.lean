/-
  The walks of package lasso's written and Text.
-/
import Derived.Test.YtmdblokmplbpmaaDoorLsRight
import Derived.Test.YtmdblokmplbpmaaDoorLsPushM
namespace Go.Proofs.YtmdblokmplbpmaaDoor
namespace Ls
open Go.RowKit
/-- the table of signs, in memory -/
def SG (w : World) : Prop := ∀ k : Nat, k ≤ 10 → w.cell? ⟨1, k, none⟩ = some (.string ⟨(sign (k : Int)).toArray⟩)
theorem SG.below {w w' : World} (h : SG w) (hb : Below w.heap.size w w') : SG w' := fun k hk => kept hb (h k hk)
theorem bytes_app (a b : List UInt8) : (⟨a.toArray⟩ : ByteArray) ++ ⟨b.toArray⟩ = ⟨(a ++ b).toArray⟩ := by
  apply ByteArray.ext
  simp
/-- written, at this formula -/
def TextOK (x : Fm) : Prop := ∀ (a : Nat), ok x a = true → size x ≤ 100 → ∀ (w : World) (v : Value), IsF (fun _ => True) w x v → PT w → SG w → Calls Tryd.prog 30 #[v] w fun e w' => e = .returned (.string ⟨(textF x).toArray⟩) ∧ Below w.heap.size w w'
set_option maxHeartbeats 8000000 in
set_option maxRecDepth 100000 in
theorem written_any (x : Fm) : TextOK x := by
  induction x using Fm.ind with
  | h z k nm l ih =>
    intro a hok hsz w v hF hP hS
    have htl := text_len _ a hok
    rw [ok_eq, Bool.and_eq_true, List.all_eq_true] at hok
    obtain ⟨hz, -, hk1, hk10, hlp, -, -⟩ := wrongN_zero (of_decide_eq_true hok.1)
    subst hz
    obtain ⟨-, hnm, -, b, sa, sc, -, rfl, c0, c1, c2, hrow⟩ := isF_node.1 hF
    obtain ⟨j, rfl⟩ : ∃ j : Nat, k = (j : Int) := ⟨k.toNat, by omega⟩
    have cp := hP j (by omega)
    have cs := hS j (by omega)
    have hj11 : (j : Int) < 11 := by omega
    have HBN : Hid (∀ n, Below w.heap.size w (w.drewN n)) := fun n => ⟨rfl, rfl, rfl, Nat.le_refl _, fun _ _ => rfl⟩
    have HD := hide (drewB w)
    have HP := hide hP
    have HS := hide hS
    rw [textF_eq] at htl ⊢
    unfold textK at htl ⊢
    by_cases h1 : j = 1
    · subst h1
      rw [if_pos (by decide)]
      clear htl hrow hF ih hP hS
      go_enter Tryd.func30, Tryd.ntmps30
      go_wp2_with fail
      go_ret
      exact ⟨rfl, Below.refl _ _⟩
    have h1i : ¬ (j : Int) = 1 := by omega
    rw [if_neg h1i] at htl ⊢
    by_cases h2 : j = 2
    · subst h2
      rw [if_pos (by decide)]
      clear htl hrow hF ih hP hS
      go_enter Tryd.func30, Tryd.ntmps30
      go_wp2_with fail
      go_ret
      exact ⟨rfl, Below.refl _ _⟩
    have h2i : ¬ (j : Int) = 2 := by omega
    rw [if_neg h2i] at htl ⊢
    by_cases h3 : partsOf (j : Int) = 1
    · rw [if_pos h3] at htl ⊢
      obtain ⟨y, rfl⟩ := one_part (hlp.trans h3)
      obtain ⟨g, o, u, -, rfl, -, hc, hyu⟩ := hrow 0 y rfl
      have hsy : size y ≤ 100 := by rw [size_eq] at hsz; simp at hsz; omega
      have HC := hide (fun W (hW : Below w.heap.size w W) => ih y (by simp) (a + 1) (hok.2 y (by simp)) hsy W u (hyu.below hW) (HP.out.below hW) (HS.out.below hW))
      have hc' : w.cell? ⟨g, o, none⟩ = some u := hc
      have c2' : w.cell? ⟨b, 2, none⟩ = some (.slice (some ⟨g, o, none⟩) 1 sc) := c2
      obtain ⟨pu, rfl⟩ := hyu.ptr
      rw [h3] at cp
      have hlen : (sign (j : Int) ++ textF y).length ≤ 800 := by
        have : ((List.map (fun x => textF x) [y]).getD 0 []) = textF y := rfl
        rw [this] at htl
        omega
      have e0 : ((List.map (fun x => textF x) [y]).getD 0 []) = textF y := rfl
      rw [e0]
      have HAPP := hide (bytes_app (sign (j : Int)) (textF y))
      have hsl := hlen
      rw [List.length_append] at hsl
      clear htl hrow hF ih hP hS hyu hok hsz hsy hc c2 e0 hlen
      generalize sign (j : Int) = sg at *
      generalize textF y = ty at *
      have n1 : ¬ 9223372036854775807 < sg.length + ty.length := by omega
      clear hsl
      obtain ⟨T, hT⟩ : ∃ T, T = sg ++ ty := ⟨_, rfl⟩
      rw [← hT] at HAPP ⊢
      clear hT
      go_enter Tryd.func30, Tryd.ntmps30
      go_wp2_with fail
      go_region_held3 (fun W => W.cell? ⟨b, 0, none⟩ = some (.int .i64 (j : Int)) ∧ W.cell? ⟨b, 2, none⟩ = some (.slice (some ⟨g, o, none⟩) 1 sc) ∧ W.cell? ⟨g, o, none⟩ = some (.pointer pu) ∧ W.cell? ⟨1, j, none⟩ = some (.string ⟨sg.toArray⟩)) ((first
        | exact ⟨c0, c2', hc', cs⟩ | exact ⟨kept HD.out c0, kept HD.out c2', kept HD.out hc', kept HD.out cs⟩ | exact ⟨kept HB1.out c0, kept HB1.out c2', kept HB1.out hc', kept HB1.out cs⟩)) ((go_at_call 30; (with_reducible refine (HC.out _ HD.out).mono ?_); rintro e w1 ⟨rfl, hb1⟩; have HB1 : Hid (Below w.heap.size w w1) := then_ HD.out hb1; clear hb1))
      go_wp2_with fail
      go_ret
      exact ⟨by rw [← HAPP.out]; rfl, HB1.out⟩
    · rw [if_neg h3] at htl ⊢
      have h4 : partsOf (j : Int) = 2 := by
        have := partsOf_le (j : Int)
        have : partsOf (j : Int) ≠ 0 := by unfold partsOf; split <;> (try split) <;> omega
        omega
      obtain ⟨y, z, rfl⟩ := two_parts (hlp.trans h4)
      obtain ⟨g, o, u, -, hsa, -, hc, hyu⟩ := hrow 0 y rfl
      obtain ⟨g', o', u2, -, hsa', -, hcb, hzu⟩ := hrow 1 z rfl
      subst hsa
      simp only [Option.some.injEq, Addr.mk.injEq, and_true] at hsa'
      obtain ⟨rfl, rfl⟩ := hsa'
      have hsy : size y ≤ 100 := by rw [size_eq] at hsz; simp at hsz; omega
      have hszz : size z ≤ 100 := by rw [size_eq] at hsz; simp at hsz; omega
      have HC := hide (fun W (hW : Below w.heap.size w W) => ih y (by simp) (a + 1) (hok.2 y (by simp)) hsy W u (hyu.below hW) (HP.out.below hW) (HS.out.below hW))
      have HC2 := hide (fun W (hW : Below w.heap.size w W) => ih z (by simp) (a + 1) (hok.2 z (by simp)) hszz W u2 (hzu.below hW) (HP.out.below hW) (HS.out.below hW))
      have hc' : w.cell? ⟨g, o, none⟩ = some u := hc
      have c2' : w.cell? ⟨b, 2, none⟩ = some (.slice (some ⟨g, o, none⟩) 2 sc) := c2
      obtain ⟨pu, rfl⟩ := hyu.ptr
      obtain ⟨pz, rfl⟩ := hzu.ptr
      have e0 : ((List.map (fun x => textF x) [y, z]).getD 0 []) = textF y := rfl
      have e1 : ((List.map (fun x => textF x) [y, z]).getD 1 []) = textF z := rfl
      rw [e0, e1] at htl ⊢
      rw [h4] at cp
      have hsl : 1 + (textF y).length + (sign (j : Int)).length + (textF z).length + 1 ≤ 800 := by
        rw [List.length_append, List.length_append, List.length_append, List.length_append] at htl
        simp only [List.length_cons, List.length_nil] at htl
        omega
      have HAPP : Hid ((⟨#[40]⟩ : ByteArray) ++ ⟨(textF y).toArray⟩ ++ ⟨(sign (j : Int)).toArray⟩ ++ ⟨(textF z).toArray⟩ ++ ⟨#[41]⟩ = ⟨([40] ++ textF y ++ sign (j : Int) ++ textF z ++ [41]).toArray⟩) := by
        show _ = _
        have a1 : (⟨#[40]⟩ : ByteArray) = ⟨([40] : List UInt8).toArray⟩ := rfl
        have a2 : (⟨#[41]⟩ : ByteArray) = ⟨([41] : List UInt8).toArray⟩ := rfl
        rw [a1, a2, bytes_app, bytes_app, bytes_app, bytes_app]
      clear htl hrow hF ih hP hS hyu hzu hok hsz hsy hszz hc c2 e0 e1
      generalize sign (j : Int) = sg at *
      generalize textF y = ty at *
      generalize textF z = tz at *
      have n1 : ¬ 9223372036854775807 < 1 + ty.length := by omega
      have n2 : ¬ 9223372036854775807 < 1 + ty.length + sg.length := by omega
      have n3 : ¬ 9223372036854775807 < 1 + ty.length + sg.length + tz.length := by omega
      have n4 : ¬ 9223372036854775807 < 1 + ty.length + sg.length + tz.length + 1 := by omega
      clear hsl
      obtain ⟨T, hT⟩ : ∃ T, T = [40] ++ ty ++ sg ++ tz ++ [41] := ⟨_, rfl⟩
      rw [← hT] at HAPP ⊢
      clear hT
      go_enter Tryd.func30, Tryd.ntmps30
      go_wp2_with fail
      go_region_held3 (fun W => W.cell? ⟨b, 0, none⟩ = some (.int .i64 (j : Int)) ∧ W.cell? ⟨b, 2, none⟩ = some (.slice (some ⟨g, o, none⟩) 2 sc) ∧ W.cell? ⟨g, o, none⟩ = some (.pointer pu) ∧ W.cell? ⟨g, o + 1, none⟩ = some (.pointer pz) ∧ W.cell? ⟨1, j, none⟩ = some (.string ⟨sg.toArray⟩)) ((first
        | exact ⟨c0, c2', hc', hcb, cs⟩ | exact ⟨kept HD.out c0, kept HD.out c2', kept HD.out hc', kept HD.out hcb, kept HD.out cs⟩ | exact ⟨kept HB1.out c0, kept HB1.out c2', kept HB1.out hc', kept HB1.out hcb, kept HB1.out cs⟩ | exact ⟨kept HB2.out c0, kept HB2.out c2', kept HB2.out hc', kept HB2.out hcb, kept HB2.out cs⟩)) ((first
        | (go_at_call 30; (with_reducible refine (HC.out _ HD.out).mono ?_); rintro e w1 ⟨rfl, hb1⟩; have HB1 : Hid (Below w.heap.size w w1) := then_ HD.out hb1; clear hb1)
        | (go_at_call 30; (with_reducible refine (HC2.out _ HB1.out).mono ?_); rintro e w2 ⟨rfl, hb2⟩; have HB2 : Hid (Below w.heap.size w w2) := then_ HB1.out hb2; clear hb2)))
      go_wp2_with fail
      go_ret
      exact ⟨by rw [← HAPP.out]; rfl, HB2.out⟩
/-- the text of a formula that may be; else empty -/
def textOf (x : Fm) : List UInt8 := if (right x).isSome then [] else textF x
theorem errNeqT (k : Nat) (w : World) : (binOp BinOp.neq 34 (.iface 30 (.int .i64 (k : Int))) .nilIface).run Tryd.prog w = .ok (.bool true) w := by kernel_rfl
theorem nilNeqT (w : World) : (binOp BinOp.neq 34 .nilIface .nilIface).run Tryd.prog w = .ok (.bool false) w := by kernel_rfl
set_option maxHeartbeats 2000000 in
set_option maxRecDepth 100000 in
theorem Text_any (x : Fm) (v : Value) (w : World) (hF : IsF (fun _ => True) w x v) (hP : PT w) (hS : SG w) :
    Calls Tryd.prog 15 #[v] w fun e w' => e = .returned (.string ⟨(textOf x).toArray⟩) ∧ Below w.heap.size w w' := by
  have q1 := errNeqT
  have q2 := nilNeqT
  have HR := hide (Right_any x v w hF hP)
  have HT := hide (fun (h : right x = none) W (hW : Below w.heap.size w W) => written_any x 0 ((right_none x).1 h).1 ((right_none x).1 h).2 W v (hF.below hW) (hP.below hW) (hS.below hW))
  obtain ⟨pv, rfl⟩ := hF.ptr
  clear hF hP hS
  cases hr : right x with
  | some k =>
    have HE : Hid (textOf x = []) := by show _ = _; unfold textOf; rw [hr]; rfl
    rw [hr, show errV (some k) = .iface 30 (.int .i64 (k : Int)) from rfl] at HR
    clear hr HT
    go_enter Tryd.func15, Tryd.ntmps15
    go_wp2_with fail
    refine HR.out.mono ?_
    rintro e w1 ⟨rfl, hb1⟩
    have HB1 := hide hb1
    clear hb1 HR
    go_wp2_with fail
    go_ret
    exact ⟨by rw [HE.out]; rfl, HB1.out⟩
  | none =>
    have HE : Hid (textOf x = textF x) := by show _ = _; unfold textOf; rw [hr]; rfl
    have HC := hide (HT.out hr)
    rw [hr, show errV none = .nilIface from rfl] at HR
    clear hr HT
    go_enter Tryd.func15, Tryd.ntmps15
    go_wp2_with fail
    refine HR.out.mono ?_
    rintro e w1 ⟨rfl, hb1⟩
    have HB1 := hide hb1
    have HC1 := hide (HC.out w1 hb1)
    clear hb1 HR HC
    go_wp2_with fail
    refine HC1.out.mono ?_
    rintro e w2 ⟨rfl, hb2⟩
    have HB2 := hide (then_ HB1.out hb2)
    clear hb2 HC1
    go_wp2_with fail
    go_ret
    exact ⟨by rw [HE.out]; rfl, HB2.out⟩
end Ls
end Go.Proofs.YtmdblokmplbpmaaDoor
