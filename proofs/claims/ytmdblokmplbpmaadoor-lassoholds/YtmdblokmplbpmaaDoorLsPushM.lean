/-
  Plain mathematics of 10.3: Not pushed inwards, and texts.
-/
import Derived.Test.YtmdblokmplbpmaaDoorLsGrowM
namespace Go.Proofs.YtmdblokmplbpmaaDoor
namespace Ls
/-- of its kind, and with as many parts as that has: it and all within -/
def wf : Fm → Bool
  | ⟨z, k, _, l⟩ => decide (z = false ∧ 1 ≤ k ∧ k ≤ 10 ∧ l.length = partsOf k) && ((l.map fun x => wf x).all id)
theorem wf_eq (z : Bool) (k : Int) (nm : List UInt8) (l : List Fm) : wf ⟨z, k, nm, l⟩ = (decide (z = false ∧ 1 ≤ k ∧ k ≤ 10 ∧ l.length = partsOf k) && l.all wf) := by
  rw [wf]; simp [List.all_map, Function.comp_def]
theorem wf_parts {z : Bool} {k : Int} {nm : List UInt8} {l : List Fm} (h : wf ⟨z, k, nm, l⟩ = true) : (z = false ∧ 1 ≤ k ∧ k ≤ 10 ∧ l.length = partsOf k) ∧ ∀ x, x ∈ l → wf x = true := by
  rw [wf_eq, Bool.and_eq_true, List.all_eq_true] at h
  exact ⟨of_decide_eq_true h.1, h.2⟩
theorem wf_mk {k : Int} {nm : List UInt8} {l : List Fm} (h1 : 1 ≤ k) (h2 : k ≤ 10) (h3 : l.length = partsOf k) (h4 : ∀ x, x ∈ l → wf x = true) : wf ⟨false, k, nm, l⟩ = true := by
  rw [wf_eq, Bool.and_eq_true, List.all_eq_true]
  exact ⟨decide_eq_true ⟨rfl, h1, h2, h3⟩, h4⟩
theorem ok_wf : ∀ (x : Fm) (a : Nat), ok x a = true → wf x = true := by
  intro x
  induction x using Fm.ind with
  | h z k nm l ih =>
    intro a h
    rw [ok_eq, Bool.and_eq_true, List.all_eq_true] at h
    obtain ⟨hz, _, h2, h3, h4, _, _⟩ := wrongN_zero (of_decide_eq_true h.1)
    subst hz
    exact wf_mk h2 h3 h4 fun y hy => ih y hy (a + 1) (h.2 y hy)
def other (k : Int) : Int := if k = 4 then 5 else if k = 5 then 4 else if k = 7 then 8 else if k = 8 then 7 else k
def leafP (k : Int) (nm : List UInt8) (no : Bool) : Fm := if no then nd 3 [⟨false, k, nm, []⟩] else ⟨false, k, nm, []⟩
def pushK (k : Int) (nm : List UInt8) (p : Bool → Fm) (ps : List (Bool → Fm)) (no : Bool) : Fm :=
  if k = 3 then p (!no)
  else if k = 9 then nd (if no then 8 else 7) [leafP 2 [] no, p no]
  else if k = 10 then nd (if no then 7 else 8) [leafP 2 [] (!no), p no]
  else if k = 1 ∨ k = 2 then leafP k nm no
  else nd (if no then other k else k) (ps.map fun f => f no)
def push : Fm → Bool → Fm
  | ⟨_, k, nm, l⟩ => pushK k nm ((l.map fun x => push x).getD 0 fun _ => ⟨false, 2, [], []⟩) (l.map fun x => push x)
theorem push_eq (z : Bool) (k : Int) (nm : List UInt8) (l : List Fm) : push ⟨z, k, nm, l⟩ = pushK k nm ((l.map fun x => push x).getD 0 fun _ => ⟨false, 2, [], []⟩) (l.map fun x => push x) := by rw [push]
theorem push_not (z : Bool) (nm : List UInt8) (y : Fm) (no : Bool) : push ⟨z, 3, nm, [y]⟩ no = push y (!no) := by rw [push_eq]; simp [pushK]
theorem push_ever (z : Bool) (nm : List UInt8) (y : Fm) (no : Bool) : push ⟨z, 9, nm, [y]⟩ no = nd (if no then 8 else 7) [leafP 2 [] no, push y no] := by rw [push_eq]; simp [pushK]
theorem push_always (z : Bool) (nm : List UInt8) (y : Fm) (no : Bool) : push ⟨z, 10, nm, [y]⟩ no = nd (if no then 7 else 8) [leafP 2 [] (!no), push y no] := by rw [push_eq]; simp [pushK]
theorem push_leaf (z : Bool) (k : Int) (nm : List UInt8) (l : List Fm) (no : Bool) (hk : k = 1 ∨ k = 2) : push ⟨z, k, nm, l⟩ no = leafP k nm no := by
  rw [push_eq]
  rcases hk with rfl | rfl <;> simp [pushK]
theorem push_node (z : Bool) (k : Int) (nm : List UInt8) (l : List Fm) (no : Bool) (hk : k = 4 ∨ k = 5 ∨ k = 6 ∨ k = 7 ∨ k = 8) : push ⟨z, k, nm, l⟩ no = nd (if no then other k else k) (l.map fun x => push x no) := by
  rw [push_eq]
  rcases hk with rfl | rfl | rfl | rfl | rfl <;> simp [pushK, List.map_map, Function.comp_def]
theorem kinds {k : Int} (h1 : 1 ≤ k) (h2 : k ≤ 10) : k = 3 ∨ k = 9 ∨ k = 10 ∨ (k = 1 ∨ k = 2) ∨ (k = 4 ∨ k = 5 ∨ k = 6 ∨ k = 7 ∨ k = 8) := by omega
theorem one_part {α : Type} {l : List α} (h : l.length = 1) : ∃ y, l = [y] := by
  match l, h with
  | [y], _ => exact ⟨y, rfl⟩
theorem two_parts {α : Type} {l : List α} (h : l.length = 2) : ∃ y z, l = [y, z] := by
  match l, h with
  | [y, z], _ => exact ⟨y, z, rfl⟩
theorem leaf_self (k : Int) (nm : List UInt8) (no : Bool) (hk : k = 1 ∨ k = 2) : push (leafP k nm no) false = leafP k nm no := by
  unfold leafP
  cases no with
  | false => rw [if_neg (by decide), push_leaf _ _ _ _ _ hk]; rfl
  | true => rw [if_pos rfl, nd, push_not, push_leaf _ _ _ _ _ hk]; rfl
theorem node_self (k : Int) (l : List Fm) (hk : k = 4 ∨ k = 5 ∨ k = 6 ∨ k = 7 ∨ k = 8) (h : ∀ x, x ∈ l → push x false = x) : push (nd k l) false = nd k l := by
  have e : push (nd k l) false = nd k (l.map fun x => push x false) := push_node false k [] l false hk
  rw [e]
  congr 1
  rw [List.map_congr_left h]
  simp
/-- pushed once more it is the same -/
theorem push_push : ∀ (x : Fm), wf x = true → ∀ no, push (push x no) false = push x no := by
  intro x
  induction x using Fm.ind with
  | h z k nm l ih =>
    intro h no
    obtain ⟨⟨rfl, h1, h2, h3⟩, h4⟩ := wf_parts h
    rcases kinds h1 h2 with rfl | rfl | rfl | hk | hk
    · obtain ⟨y, rfl⟩ := one_part (h3.trans (by decide))
      rw [push_not]
      exact ih y (by simp) (h4 y (by simp)) (!no)
    · obtain ⟨y, rfl⟩ := one_part (h3.trans (by decide))
      rw [push_ever]
      have hy := ih y (by simp) (h4 y (by simp)) no
      refine node_self _ _ (by cases no <;> simp) (fun x hx => ?_)
      rcases List.mem_cons.1 hx with rfl | hx
      · exact leaf_self 2 [] no (.inr rfl)
      · obtain rfl := List.mem_singleton.1 hx; exact hy
    · obtain ⟨y, rfl⟩ := one_part (h3.trans (by decide))
      rw [push_always]
      have hy := ih y (by simp) (h4 y (by simp)) no
      refine node_self _ _ (by cases no <;> simp) (fun x hx => ?_)
      rcases List.mem_cons.1 hx with rfl | hx
      · exact leaf_self 2 [] (!no) (.inr rfl)
      · obtain rfl := List.mem_singleton.1 hx; exact hy
    · rw [push_leaf _ _ _ _ _ hk]
      exact leaf_self k nm no hk
    · rw [push_node _ _ _ _ _ hk]
      refine node_self _ _ ?_ (fun x hx => ?_)
      · cases no
        · exact hk
        · rcases hk with rfl | rfl | rfl | rfl | rfl <;> simp [other]
      · obtain ⟨y, hy, rfl⟩ := List.mem_map.1 hx
        exact ih y hy (h4 y hy) no
section
variable {L : List (List (List UInt8))} {r : Nat}
theorem sem_leaf (k : Int) (nm : List UInt8) (no : Bool) (t : Nat) : sem L r (leafP k nm no) t = (sem L r ⟨false, k, nm, []⟩ t != no) := by
  unfold leafP
  cases no with
  | false => simp
  | true => rw [if_pos rfl, sn_not]; simp
theorem sem_two (z : Bool) (nm : List UInt8) (l : List Fm) (t : Nat) : sem L r ⟨z, 2, nm, l⟩ t = true := by rw [sem_eq]; simp [semK]
theorem sem_z (z : Bool) (k : Int) (nm : List UInt8) (l : List Fm) : k ≠ 1 → sem L r ⟨z, k, nm, l⟩ = sem L r (nd k l) := fun hk => by
  unfold nd
  rw [sem_eq, sem_eq]
  funext t
  unfold semK
  rw [if_neg hk, if_neg hk]
/-- a formula with not ahead of names alone holds at the same times -/
theorem sem_push : ∀ (x : Fm), wf x = true → ∀ no, sem L r (push x no) = fun t => (sem L r x t != no) := by
  intro x
  induction x using Fm.ind with
  | h z k nm l ih =>
    intro h no
    obtain ⟨⟨rfl, h1, h2, h3⟩, h4⟩ := wf_parts h
    funext t
    rcases kinds h1 h2 with rfl | rfl | rfl | hk | hk
    · obtain ⟨y, rfl⟩ := one_part (h3.trans (by decide))
      rw [push_not, ih y (by simp) (h4 y (by simp)) (!no), sem_z _ _ _ _ (by decide), sn_not]
      show (sem L r y t != !no) = ((!sem L r y t) != no)
      cases sem L r y t <;> cases no <;> rfl
    · obtain ⟨y, rfl⟩ := one_part (h3.trans (by decide))
      rw [push_ever, sem_z _ _ _ _ (by decide), sn_ever]
      have hy := ih y (by simp) (h4 y (by simp)) no
      have hl : sem L r (leafP 2 [] no) = fun _ => (true != no) := by funext s; rw [sem_leaf, sem_two]
      cases no with
      | false =>
        show sem L r (nd 7 _) t = _
        rw [sn_until, hy, hl]
        simp
      | true =>
        show sem L r (nd 8 _) t = _
        rw [sn_release, hy, hl]
        simp
    · obtain ⟨y, rfl⟩ := one_part (h3.trans (by decide))
      rw [push_always, sem_z _ _ _ _ (by decide), sn_always]
      have hy := ih y (by simp) (h4 y (by simp)) no
      have hl : sem L r (leafP 2 [] (!no)) = fun _ => (true != (!no)) := by funext s; rw [sem_leaf, sem_two]
      cases no with
      | false =>
        show sem L r (nd 8 _) t = _
        rw [sn_release, hy, hl]
        simp
      | true =>
        show sem L r (nd 7 _) t = _
        rw [sn_until, hy, hl]
        simp
    · rw [push_leaf _ _ _ _ _ hk, sem_leaf]
      have hp : l.length = 0 := by rcases hk with rfl | rfl <;> exact h3.trans (by decide)
      rw [List.length_eq_zero_iff.1 hp]
    · rw [push_node _ _ _ _ _ hk, sem_z _ _ _ _ (by omega)]
      rcases hk with rfl | rfl | rfl | rfl | rfl
      · obtain ⟨y, z, rfl⟩ := two_parts (h3.trans (by decide))
        have hy := ih y (by simp) (h4 y (by simp)) no
        have hz := ih z (by simp) (h4 z (by simp)) no
        rw [sn_and]
        cases no with
        | false => show sem L r (nd 4 [push y false, push z false]) t = _; rw [sn_and, hy, hz]; simp
        | true => show sem L r (nd 5 [push y true, push z true]) t = _; rw [sn_or, hy, hz]; simp
      · obtain ⟨y, z, rfl⟩ := two_parts (h3.trans (by decide))
        have hy := ih y (by simp) (h4 y (by simp)) no
        have hz := ih z (by simp) (h4 z (by simp)) no
        rw [sn_or]
        cases no with
        | false => show sem L r (nd 5 [push y false, push z false]) t = _; rw [sn_or, hy, hz]; simp
        | true => show sem L r (nd 4 [push y true, push z true]) t = _; rw [sn_and, hy, hz]; simp
      · obtain ⟨y, rfl⟩ := one_part (h3.trans (by decide))
        have hy := ih y (by simp) (h4 y (by simp)) no
        rw [sn_next]
        cases no with
        | false => show sem L r (nd 6 [push y false]) t = _; rw [sn_next, hy]
        | true => show sem L r (nd 6 [push y true]) t = _; rw [sn_next, hy]
      · obtain ⟨y, z, rfl⟩ := two_parts (h3.trans (by decide))
        have hy := ih y (by simp) (h4 y (by simp)) no
        have hz := ih z (by simp) (h4 z (by simp)) no
        rw [sn_until]
        cases no with
        | false => show sem L r (nd 7 [push y false, push z false]) t = _; rw [sn_until, hy, hz]; simp
        | true => show sem L r (nd 8 [push y true, push z true]) t = _; rw [sn_release, hy, hz]; simp
      · obtain ⟨y, z, rfl⟩ := two_parts (h3.trans (by decide))
        have hy := ih y (by simp) (h4 y (by simp)) no
        have hz := ih z (by simp) (h4 z (by simp)) no
        rw [sn_release]
        cases no with
        | false => show sem L r (nd 8 [push y false, push z false]) t = _; rw [sn_release, hy, hz]; simp
        | true => show sem L r (nd 7 [push y true, push z true]) t = _; rw [sn_until, hy, hz]; simp
end
/- texts -/
def sign (k : Int) : List UInt8 := if k = 3 then [33] else if k = 4 then [32, 38, 32] else if k = 5 then [32, 124, 32] else if k = 6 then [88, 32] else if k = 7 then [32, 85, 32] else if k = 8 then [32, 82, 32] else if k = 9 then [70, 32] else if k = 10 then [71, 32] else []
def textK (k : Int) (nm : List UInt8) (a b : List UInt8) : List UInt8 :=
  if k = 1 then nm else if k = 2 then [116, 114, 117, 101] else if partsOf k = 1 then sign k ++ a else [40] ++ a ++ sign k ++ b ++ [41]
def textF : Fm → List UInt8
  | ⟨_, k, nm, l⟩ => textK k nm ((l.map fun x => textF x).getD 0 []) ((l.map fun x => textF x).getD 1 [])
theorem textF_eq (z : Bool) (k : Int) (nm : List UInt8) (l : List Fm) : textF ⟨z, k, nm, l⟩ = textK k nm ((l.map fun x => textF x).getD 0 []) ((l.map fun x => textF x).getD 1 []) := by rw [textF]
theorem sign_len (k : Int) : (sign k).length ≤ 3 := by unfold sign; repeat' split
                                                       all_goals simp
theorem name_len {nm : List UInt8} (h : Nm.name nm = true) : nm.length ≤ 8 := by
  by_cases h8 : 8 < nm.length
  · rw [Nm.no_long nm h8] at h; cases h
  · omega
theorem text_len : ∀ (x : Fm) (a : Nat), ok x a = true → (textF x).length ≤ 8 * size x := by
  intro x
  induction x using Fm.ind with
  | h z k nm l ih =>
    intro a h
    rw [ok_eq, Bool.and_eq_true, List.all_eq_true] at h
    obtain ⟨_, _, h2, h3, h4, _, h6⟩ := wrongN_zero (of_decide_eq_true h.1)
    have hs := sign_len k
    rw [textF_eq, size_eq]
    unfold textK
    by_cases k1 : k = 1
    · rw [if_pos k1]
      have := name_len (h6 k1)
      omega
    rw [if_neg k1]
    by_cases k2 : k = 2
    · rw [if_pos k2]
      simp; omega
    rw [if_neg k2]
    by_cases k3 : partsOf k = 1
    · rw [if_pos k3]
      obtain ⟨y, rfl⟩ := one_part (h4.trans k3)
      have := ih y (by simp) (a + 1) (h.2 y (by simp))
      simp; omega
    · rw [if_neg k3]
      have k4 : partsOf k = 2 := by
        have := partsOf_le k
        have : partsOf k ≠ 0 := by unfold partsOf; split <;> (try split) <;> omega
        omega
      obtain ⟨y, z, rfl⟩ := two_parts (h4.trans k4)
      have i1 := ih y (by simp) (a + 1) (h.2 y (by simp))
      have i2 := ih z (by simp) (a + 1) (h.2 z (by simp))
      simp; omega
end Ls
end Go.Proofs.YtmdblokmplbpmaaDoor
