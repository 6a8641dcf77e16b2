/-
  The table of numbers in memory, and the walk of number: a text's number in it.
-/
import Derived.Test.YtmchohajfgemcaaDoorTdNum
import Derived.Test.YtmchohajfgemcaaDoorTxLeaf
import Derived.Maps.OwnSet
import Derived.Maps.OwnOps
import Derived.WalkMore
namespace Go.Proofs.YtmchohajfgemcaaDoor
open Go.RowKit Go.Maps
theorem keyStr (s : List UInt8) (h : s.length ≤ maxLen) : keyOf Tryd.prog 9 (.string ⟨s.toArray⟩) = some (.string s) := by
  have := Go.WideMaps.keyOf_string_mk (P := Tryd.prog) (k := 9) Tryd.underlying9 (s := ⟨s.toArray⟩) (by show s.toArray.size ≤ maxLen; simpa using h)
  simpa using this
theorem keyed : Keyed Tryd.prog 9 := string_keyed Tryd.underlying9
/-- block mb is a map that has each text of the table at its place -/
structure Tbl (mb : Nat) (tb : List (List UInt8)) (w : World) : Prop where
  ex : ∃ D : DataW Unit, w.ownsMap Tryd.prog 9 (plainElem Tryd.prog 3) mb tb.length D ∧ (∀ s, Maps.has D (.string s) = decide (s ∈ tb)) ∧ (∀ (i : Nat) (s : List UInt8), tb[i]? = some s → ∀ z, D.atKey (.string s) z = .lit (.int .i64 (i : Int))) ∧ Maps.size D = tb.length
  nodup : tb.Nodup
theorem Tbl.lt {mb : Nat} {tb : List (List UInt8)} {w : World} (h : Tbl mb tb w) : mb < w.heap.size := by
  obtain ⟨D, h1, _⟩ := h.ex
  exact h1.lt
theorem Tbl.kept {mb : Nat} {tb : List (List UInt8)} {w w' : World} {row : Option Nat} (h : Tbl mb tb w) (hg : w.grownBy w' row) (hne : some mb ≠ row) : Tbl mb tb w' := by
  obtain ⟨D, h1, h2⟩ := h.ex
  exact ⟨⟨D, h1.kept hg hne, h2⟩, h.nodup⟩
/-- the table with one text more -/
theorem Tbl.put {mb : Nat} {tb : List (List UInt8)} {w w' : World} {s : List UInt8} {D : DataW Unit} (hn : tb.Nodup) (ho : w.ownsMap Tryd.prog 9 (plainElem Tryd.prog 3) mb tb.length D) (h1 : ∀ s, Maps.has D (.string s) = decide (s ∈ tb)) (h2 : ∀ (i : Nat) (s : List UInt8), tb[i]? = some s → ∀ z, D.atKey (.string s) z = .lit (.int .i64 (i : Int))) (h3 : Maps.size D = tb.length)
    (hs : s ∉ tb) (ho' : w'.ownsMap Tryd.prog 9 (plainElem Tryd.prog 3) mb (tb.length + 1) (D.put (.string s) (.lit (.int .i64 (tb.length : Int))))) : Tbl mb (tb ++ [s]) w' := by
  have hk : WideAt.IsKeyLit (.string s) := trivial
  have ht : Maps.Tidy D := ho.tidy keyed
  refine ⟨⟨_, by simpa using ho', ?_, ?_, ?_⟩, ?_⟩
  · intro r
    by_cases e : r = s
    · subst e; rw [Maps.has_put_same ht.isMap hk]; simp
    · rw [Maps.has_put_other (by simpa using e), h1]; simp [e]
  · intro i r hr z
    by_cases hi : i < tb.length
    · rw [List.getElem?_append_left hi] at hr
      have hne : r ≠ s := fun e => hs (e ▸ List.mem_of_getElem? hr)
      rw [Maps.atKey_put_other (by simpa using hne)]
      exact h2 i r hr z
    · rw [List.getElem?_append_right (by omega)] at hr
      have hi0 : i - tb.length = 0 := by
        by_cases h : i - tb.length = 0
        · exact h
        · rw [List.getElem?_eq_none (by simp; omega)] at hr; simp at hr
      rw [hi0] at hr
      simp only [List.getElem?_cons_zero, Option.some.injEq] at hr
      subst hr
      rw [Maps.atKey_put_same ht.isMap hk, show i = tb.length by omega]
  · rw [Maps.size_put ht, h1, if_neg (by simpa using hs), h3]; simp
  · rw [List.nodup_append]
    refine ⟨hn, by simp, ?_⟩
    intro a ha b hb
    simp only [List.mem_singleton] at hb
    subst hb
    intro e
    exact hs (e ▸ ha)
/-- number: the place of a text in the table, to which it is added if it isn't there -/
def Numbered (mb : Nat) (tb : List (List UInt8)) (s : List UInt8) (w : World) (e : Ending) (w' : World) : Prop :=
  ∃ (i : Nat) (more : List (List UInt8)), e = .returned (.int .i64 (i : Int)) ∧ Tbl mb (tb ++ more) w' ∧ (tb ++ more)[i]? = some s ∧ more.length ≤ 1 ∧ w.grownBy w' (some mb)
set_option maxHeartbeats 2000000 in
set_option maxRecDepth 100000 in
theorem number_any (mb : Nat) (tb : List (List UInt8)) (s : List UInt8) (w : World) (h : Tbl mb tb w) (hl : tb.length < 1000000) (hs : s.length ≤ maxLen) :
    Calls Tryd.prog 54 #[.agg #[.map (some mb)], .string ⟨s.toArray⟩] w (Numbered mb tb s w) := by
  obtain ⟨D, ho, h1, h2, h3⟩ := h.ex
  have hn := h.nodup
  obtain ⟨w1, hw1⟩ : ∃ w1, w1 = w.alloc (.cells #[.map (some mb)] 65) := ⟨_, rfl⟩
  have ho1 : w1.ownsMap Tryd.prog 9 (plainElem Tryd.prog 3) mb tb.length D := by rw [hw1]; exact ho.alloc _
  have zero : (zeroValue 3).run Tryd.prog w1 = .ok (.int .i64 0) w1 := by kernel_rfl
  obtain ⟨v, ps, hrun, hv⟩ := ho1.look_ok keyed Tryd.underlying63 zero (plainElem_int Tryd.underlying3 (by decide)) (keyStr s hs)
  obtain ⟨c, rfl, hc, _⟩ := plainElem_int_inv Tryd.underlying3 hv
  rw [h1] at hrun
  have HO1 := hide ho1
  have HG1 : Hid (w.grownBy w1 (some mb)) := by show World.grownBy _ _ _; rw [hw1]; exact World.grownBy_alloc _ _ _
  have HH := hide h
  have H1 := hide h1
  have H2 := hide h2
  have H3 := hide h3
  have HN := hide hn
  by_cases hin : s ∈ tb
  · rw [decide_eq_true hin] at hrun
    obtain ⟨i, hi, hsi⟩ := List.getElem_of_mem hin
    have hat := h2 i s (by rw [List.getElem?_eq_getElem hi, hsi]) (.lit (.int .i64 0))
    have hci : c = (i : Int) := by
      simp only [Prod.mk.injEq] at hc
      rw [hat] at hc
      simpa using hc.1.symm
    subst hci
    have HFIN : Hid (Numbered mb tb s w (.returned (.int .i64 (i : Int))) w1) := ⟨i, [], rfl, by rw [List.append_nil]; exact HH.out.kept (row := none) (by rw [hw1]; exact World.grownBy_alloc _ _ _) (by simp), by rw [List.append_nil, List.getElem?_eq_getElem hi, hsi], by simp, HG1.out⟩
    rw [hw1] at hrun HFIN
    clear ho ho1 h1 h2 h3 hn h hv hc hat hi hsi hin hw1 zero
    go_enter Tryd.func54, Tryd.ntmps54
    go_wp2_with fail
    go_ret
    exact HFIN.out
  · rw [decide_eq_false hin] at hrun
    have hc0 : c = 0 := by
      simp only [Prod.mk.injEq] at hc
      rw [Maps.atKey_of_not_has (by rw [h1]; exact decide_eq_false hin)] at hc
      simpa using hc.1.symm
    subst hc0
    have HIN := hide hin
    have hkey := keyStr s hs
    rw [hw1] at hrun ho1
    have HW1 := hide hw1
    rw [hw1] at HG1
    clear ho h1 h2 hn h hv hc hin hw1 zero HO1
    go_enter Tryd.func54, Tryd.ntmps54
    go_wp2_with (first | (at_len; refine wpList_len_own _ rfl _ 63 rfl 9 3 Tryd.underlying63 _ mb tb.length D rfl ho1 ?_; rw [h3]) | (at_mapUpdate; refine wpList_mapUpdate_own _ rfl _ _ _ 63 rfl 9 3 keyed Tryd.underlying63 _ mb tb.length D rfl ho1 (by unfold maxLen; omega) _ _ _ rfl rfl hkey _ [] (plainElem_int Tryd.underlying3 (WalkArith.wf_i64 (by omega))) ?_; intro w2 ho2 hg2))
    go_ret
    have hput := Tbl.put HN.out ho1 H1.out H2.out H3.out HIN.out ho2
    exact ⟨tb.length, [s], rfl, hput, by simp, by simp, HG1.out.trans hg2⟩
end Go.Proofs.YtmchohajfgemcaaDoor
