/-
  The walk of write at a leaf, and at Not.
-/
import Derived.Test.YtmchohajfgemcaaDoorTxWrite
import Derived.Deep.RegionWith
namespace Go.Proofs.YtmchohajfgemcaaDoor
open Go.RowKit
set_option maxHeartbeats 1000000 in
theorem write_leaf (x : Ex) (hk : x.kind ≤ 4) : WriteOK x := by
  intro b v l w hv h hlen
  have HS : Hid ((⟨x.text.toArray⟩ : ByteArray).size = x.text.length) := by show _ = _; simp [ByteArray.size]
  have H := hide h
  have HT := hide (Text_leaf _ x v w hv hk)
  have HLT := hide h.lt
  have fin : ∀ w1 : World, Below w.heap.size w w1 → Calls Tryd.prog 39 #[.pointer (some ⟨b, 0, none⟩), .string ⟨x.text.toArray⟩] w1 fun e w' => ∃ n, e = .returned (.tuple #[n, .nilIface]) ∧ Bld b (Lib.byteCells (l ++ x.text)) w' ∧ Kb b w w' := fun w1 hb =>
    (WriteString_any b _ ⟨x.text.toArray⟩ w1 (h.below hb) (by rw [Lib.byteCells_length, HS.out]; omega)).mono (fun e w' ⟨he, hb', hk'⟩ => ⟨_, he, by rw [byteCells_append, ← strCells_of x.text]; exact hb', (Kb.of_below hb (by have := h.lt; omega)).trans hk'⟩)
  have FIN := hide fin
  clear fin
  obtain ⟨k, nm, ls⟩ := x
  match k, hv, hk with
  | 0, hv, _ =>
    simp only [Lies, IsEx] at hv
    obtain ⟨_, _, rfl⟩ := hv
    generalize Ex.text _ = t at *
    go_enter Tryd.func127, Tryd.ntmps127
    go_wp2_with fail
    refine HT.out.mono ?_
    rintro e w1 ⟨rfl, hb⟩
    have HB := hide hb
    clear hb
    go_wp2_with fail
    refine (FIN.out w1 HB.out).mono ?_
    rintro e w2 ⟨n, rfl, hb2, hk2⟩
    have HB2 := hide hb2
    have HK2 := hide hk2
    clear hb2 hk2
    go_wp2_with fail
    go_end0
    exact ⟨rfl, HB2.out, HK2.out⟩
  | 1, hv, _ =>
    simp only [Lies, IsEx] at hv
    obtain ⟨_, _, rfl⟩ := hv
    generalize Ex.text _ = t at *
    go_enter Tryd.func127, Tryd.ntmps127
    go_wp2_with fail
    refine HT.out.mono ?_
    rintro e w1 ⟨rfl, hb⟩
    have HB := hide hb
    clear hb
    go_wp2_with fail
    refine (FIN.out w1 HB.out).mono ?_
    rintro e w2 ⟨n, rfl, hb2, hk2⟩
    have HB2 := hide hb2
    have HK2 := hide hk2
    clear hb2 hk2
    go_wp2_with fail
    go_end0
    exact ⟨rfl, HB2.out, HK2.out⟩
  | 2, hv, _ =>
    simp only [Lies, IsEx] at hv
    obtain ⟨_, _, rfl⟩ := hv
    generalize Ex.text _ = t at *
    go_enter Tryd.func127, Tryd.ntmps127
    go_wp2_with fail
    refine HT.out.mono ?_
    rintro e w1 ⟨rfl, hb⟩
    have HB := hide hb
    clear hb
    go_wp2_with fail
    refine (FIN.out w1 HB.out).mono ?_
    rintro e w2 ⟨n, rfl, hb2, hk2⟩
    have HB2 := hide hb2
    have HK2 := hide hk2
    clear hb2 hk2
    go_wp2_with fail
    go_end0
    exact ⟨rfl, HB2.out, HK2.out⟩
  | 3, hv, _ =>
    simp only [Lies, IsEx] at hv
    obtain ⟨_, _, rfl⟩ := hv
    generalize Ex.text _ = t at *
    go_enter Tryd.func127, Tryd.ntmps127
    go_wp2_with fail
    refine HT.out.mono ?_
    rintro e w1 ⟨rfl, hb⟩
    have HB := hide hb
    clear hb
    go_wp2_with fail
    refine (FIN.out w1 HB.out).mono ?_
    rintro e w2 ⟨n, rfl, hb2, hk2⟩
    have HB2 := hide hb2
    have HK2 := hide hk2
    clear hb2 hk2
    go_wp2_with fail
    go_end0
    exact ⟨rfl, HB2.out, HK2.out⟩
  | 4, hv, _ =>
    simp only [Lies, IsEx] at hv
    obtain ⟨_, _, rfl⟩ := hv
    generalize Ex.text _ = t at *
    go_enter Tryd.func127, Tryd.ntmps127
    go_wp2_with fail
    refine HT.out.mono ?_
    rintro e w1 ⟨rfl, hb⟩
    have HB := hide hb
    clear hb
    go_wp2_with fail
    refine (FIN.out w1 HB.out).mono ?_
    rintro e w2 ⟨n, rfl, hb2, hk2⟩
    have HB2 := hide hb2
    have HK2 := hide hk2
    clear hb2 hk2
    go_wp2_with fail
    go_end0
    exact ⟨rfl, HB2.out, HK2.out⟩
set_option maxHeartbeats 2000000 in
theorem write_not (x : Ex) (hx : WriteOK x) : WriteOK ⟨5, [], [x]⟩ := by
  intro b v l w hv h hlen
  have etext : (⟨5, [], [x]⟩ : Ex).text = 33 :: Ex.par (decide (6 ≤ x.kind)) x.text := by simp [Ex.text]
  rw [etext]
  have hlen2 : l.length + 1 + (Ex.par (decide (6 ≤ x.kind)) x.text).length ≤ 1000000 := by have := hlen; rw [etext] at this; simp at this; omega
  simp only [Lies, IsEx] at hv
  obtain ⟨_, _, u, rfl, hu⟩ := hv
  have hu2 : Lies b w x u := hu _ rfl
  have HU := hide hu2
  have HX := hide hx
  have H := hide h
  have HLT := hide h.lt
  have HIF := hide (IsEx.iface x u hu2)
  clear hu hu2 h hx hlen etext
  have bx : ∀ w1 : World, Kb b (w.alloc (.cells #[u] 92)) w1 → w1.cell? ⟨w.heap.size, 0, none⟩ = some u ∧ Kb b w w1 := fun w1 hk => by
    have hg := hk.cell (g := w.heap.size) (c := #[u]) (t := 92) (fz := (0, 0)) (heap_alloc_new w _) (by have := HLT.out; omega) (by decide)
    exact ⟨by rw [Lib.cell_of_heap hg]; rfl, ((Kb.refl b w).alloc (by have := HLT.out; omega) _).trans hk⟩
  have BX := hide bx
  clear bx
  obtain ⟨tu, yu, hiu⟩ := HIF.out
  subst hiu
  go_enter Tryd.func127, Tryd.ntmps127
  go_wp2_with fail
  refine (WriteByte_any b _ 33 _ (H.out.below ((Below.refl _ _).alloc (Nat.le_refl _) _)) (by rw [Lib.byteCells_length]; omega)).mono ?_
  rintro e w1 ⟨rfl, hb1, hk1⟩
  have HB1 : Hid (Bld b (Lib.byteCells (l ++ [33])) w1) := by show Bld _ _ _; rw [byteCells_append]; exact hb1
  have HK1 := hide (BX.out w1 hk1)
  have hc := (BX.out w1 hk1).1
  clear hb1 hk1
  have HWI := hide (within_any x HX.out b (.iface tu yu) (decide (6 ≤ x.kind)) (l ++ [33]) w1.drew (HU.out.keep (HK1.out.2.trans (Kb.drewN 1 (Kb.refl b w1)))) (HB1.out.drewN 1) (by rw [List.length_append, List.length_singleton]; exact hlen2))
  go_wp2_with fail
  go_region_with (first | (go_at_call 130; refine (isList_any _ x _ w _ HU.out).mono ?_; rintro e w' ⟨rfl, rfl⟩) | (go_at_call 129; refine HWI.out.mono ?_; rintro e w2 ⟨rfl, hb2, hk2⟩))
  all_goals
    have HB2 := hide hb2
    have HK2 := hide hk2
    clear hb2 hk2
    go_wp2_with fail
    go_end0
    refine ⟨rfl, ?_, (HK1.out.2.trans (Kb.drewN 1 (Kb.refl b w1))).trans HK2.out⟩
    have e : l ++ 33 :: Ex.par (decide (6 ≤ x.kind)) x.text = l ++ [33] ++ Ex.par (decide (6 ≤ x.kind)) x.text := by simp
    rw [e]
    exact HB2.out
end Go.Proofs.YtmchohajfgemcaaDoor
