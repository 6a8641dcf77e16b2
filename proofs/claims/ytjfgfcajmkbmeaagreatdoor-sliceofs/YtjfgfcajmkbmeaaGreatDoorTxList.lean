/-
  The walks of writeBetween, writeWithin and write: what is written is the plain function 'text'. The walk of write at a leaf, and at Not. The walk of write at And and at Or; write at every expression; written; Text at every expression.
-/
import Derived.Test.YtjfgfcajmkbmeaaGreatDoorTxLeafAll
import Derived.Deep.RegionWith
namespace Go.Proofs.YtjfgfcajmkbmeaaGreatDoor
open Go.RowKit
theorem strCells_of (l : List UInt8) : Lib.strCells ⟨l.toArray⟩ = Lib.byteCells l := rfl
theorem byteCells_append (a b : List UInt8) : Lib.byteCells (a ++ b) = Lib.byteCells a ++ Lib.byteCells b := by simp [Lib.byteCells]
/-- writing these bytes: they stand behind what the builder holds; all else stands -/
def Writes (b : Nat) (l t : List UInt8) (w : World) (e : Ending) (w' : World) : Prop := e = .returned (.tuple #[]) ∧ Bld b (Lib.byteCells (l ++ t)) w' ∧ Kb b w w'
theorem between_any (b : Nat) (l : List UInt8) (i : Nat) (sgn : List UInt8) (w : World) (h : Bld b (Lib.byteCells l) w) (hlen : l.length + sgn.length ≤ 140737488355328) (hi : i ≤ 9223372036854775807) :
    Calls Tryz.prog 250 #[.pointer (some ⟨b, 0, none⟩), .int .i64 (i : Int), .string ⟨sgn.toArray⟩] w (Writes b l (if 0 < i then sgn else []) w) := by
  have H := hide h
  have HS : Hid ((⟨sgn.toArray⟩ : ByteArray).size = sgn.length) := by show _ = _; simp [ByteArray.size]
  clear h
  by_cases h0 : 0 < i
  · have h0' : (0 : Int) < (i : Int) := by omega
    rw [if_pos h0]
    go_enter Tryz.func250, Tryz.ntmps250
    go_wp2_with fail
    refine (WriteString_any b _ ⟨sgn.toArray⟩ w H.out (by rw [Lib.byteCells_length, HS.out]; exact hlen)).mono ?_
    rintro e w1 ⟨rfl, hb, hk⟩
    have HB := hide hb
    have HK := hide hk
    clear hb hk
    go_wp2_with fail
    go_end0
    exact ⟨rfl, by rw [byteCells_append, ← strCells_of sgn]; exact HB.out, HK.out⟩
  · have h0' : ¬ (0 : Int) < (i : Int) := by omega
    rw [if_neg h0]
    go_enter Tryz.func250, Tryz.ntmps250
    go_wp2_with fail
    go_end0
    exact ⟨rfl, by rw [List.append_nil]; exact H.out, Kb.refl _ _⟩
/-- an expression in blocks below b that are no rows of bytes -/
def Lies (b : Nat) (w : World) (x : Ex) (v : Value) : Prop := IsEx (fun g => g < b) w x v
theorem Lies.keep {b : Nat} {w w' : World} {x : Ex} {v : Value} (h : Lies b w x v) (hk : Kb b w w') : Lies b w' x v :=
  IsEx.stay (fun g i u hg hc => by rw [hk.1.cell (p := ⟨g, i, none⟩) hg]; exact hc) (fun g hg => hg) x v h
/-- writing an expression -/
def WriteOK (x : Ex) : Prop := ∀ (b : Nat) (v : Value) (l : List UInt8) (w : World), Lies b w x v → Bld b (Lib.byteCells l) w → l.length + x.text.length ≤ 1000000 →
  Calls Tryz.prog 246 #[.pointer (some ⟨b, 0, none⟩), v] w (Writes b l x.text w)
set_option maxHeartbeats 1000000 in
theorem within_any (x : Ex) (hx : WriteOK x) (b : Nat) (v : Value) (par : Bool) (l : List UInt8) (w : World) (hv : Lies b w x v) (h : Bld b (Lib.byteCells l) w) (hlen : l.length + (Ex.par par x.text).length ≤ 1000000) :
    Calls Tryz.prog 248 #[.pointer (some ⟨b, 0, none⟩), v, .bool par] w (Writes b l (Ex.par par x.text) w) := by
  have H := hide h
  have HV := hide hv
  have HX := hide hx
  clear h hv hx
  cases par with
  | false =>
    have hlen' : l.length + x.text.length ≤ 1000000 := by simpa [Ex.par] using hlen
    go_enter Tryz.func248, Tryz.ntmps248
    go_wp2_with fail
    refine (HX.out b v l w HV.out H.out hlen').mono ?_
    rintro e w1 ⟨rfl, hb, hk⟩
    have HB := hide hb
    have HK := hide hk
    clear hb hk
    go_wp2_with fail
    first | go_end0 | refine bodyPost_ret (results_none rfl _ _ _) rfl ?_
    exact ⟨rfl, HB.out, HK.out⟩
  | true =>
    have hlen' : l.length + x.text.length + 2 ≤ 1000000 := by have := hlen; simp [Ex.par] at this; omega
    go_enter Tryz.func248, Tryz.ntmps248
    go_wp2_with fail
    refine (WriteByte_any b _ 40 w H.out (by rw [Lib.byteCells_length]; omega)).mono ?_
    rintro e w1 ⟨rfl, hb1, hk1⟩
    have HB1 : Hid (Bld b (Lib.byteCells (l ++ [40])) w1) := by show Bld _ _ _; rw [byteCells_append]; exact hb1
    have HK1 := hide hk1
    clear hb1 hk1
    go_wp2_with fail
    refine (HX.out b v (l ++ [40]) w1 (HV.out.keep HK1.out) HB1.out (by simp; omega)).mono ?_
    rintro e w2 ⟨rfl, hb2, hk2⟩
    have HB2 := hide hb2
    have HK2 := hide hk2
    clear hb2 hk2
    go_wp2_with fail
    refine (WriteByte_any b _ 41 w2 HB2.out (by rw [Lib.byteCells_length]; simp; omega)).mono ?_
    rintro e w3 ⟨rfl, hb3, hk3⟩
    have HB3 := hide hb3
    have HK3 := hide hk3
    clear hb3 hk3
    go_wp2_with fail
    first | go_end0 | refine bodyPost_ret (results_none rfl _ _ _) rfl ?_
    refine ⟨rfl, ?_, (HK1.out.trans HK2.out).trans HK3.out⟩
    have e : l ++ Ex.par true x.text = (l ++ [40] ++ x.text) ++ [41] := by simp [Ex.par]
    rw [e, byteCells_append]
    exact HB3.out
set_option maxHeartbeats 1000000 in
theorem write_leaf (x : Ex) (hk : x.kind ≤ 4) : WriteOK x := by
  intro b v l w hv h hlen
  have HS : Hid ((⟨x.text.toArray⟩ : ByteArray).size = x.text.length) := by show _ = _; simp [ByteArray.size]
  have H := hide h
  have HT := hide (Text_leaf _ x v w hv hk)
  have HLT := hide h.lt
  have fin : ∀ w1 : World, Below w.heap.size w w1 → Calls Tryz.prog 52 #[.pointer (some ⟨b, 0, none⟩), .string ⟨x.text.toArray⟩] w1 fun e w' => ∃ n, e = .returned (.tuple #[n, .nilIface]) ∧ Bld b (Lib.byteCells (l ++ x.text)) w' ∧ Kb b w w' := fun w1 hb =>
    (WriteString_any b _ ⟨x.text.toArray⟩ w1 (h.below hb) (by rw [Lib.byteCells_length, HS.out]; omega)).mono (fun e w' ⟨he, hb', hk'⟩ => ⟨_, he, by rw [byteCells_append, ← strCells_of x.text]; exact hb', (Kb.of_below hb (by have := h.lt; omega)).trans hk'⟩)
  have FIN := hide fin
  clear fin
  obtain ⟨k, nm, ls⟩ := x
  match k, hv, hk with
  | 0, hv, _ =>
    simp only [Lies, IsEx] at hv
    obtain ⟨_, _, rfl⟩ := hv
    generalize Ex.text _ = t at *
    go_enter Tryz.func246, Tryz.ntmps246
    go_wp2_with fail
    refine HT.out.mono ?_
    rintro e w1 ⟨rfl, hb⟩
    have HB := hide hb
    clear hb
    go_wp2_with fail
    refine (FIN.out w1 HB.out).mono ?_
    rintro e w2 ⟨n, rfl, hb2, hk2⟩
    have HB2 := hide hb2
    have HK2 := hide hk2
    clear hb2 hk2
    go_wp2_with fail
    go_end0
    exact ⟨rfl, HB2.out, HK2.out⟩
  | 1, hv, _ =>
    simp only [Lies, IsEx] at hv
    obtain ⟨_, _, rfl⟩ := hv
    generalize Ex.text _ = t at *
    go_enter Tryz.func246, Tryz.ntmps246
    go_wp2_with fail
    refine HT.out.mono ?_
    rintro e w1 ⟨rfl, hb⟩
    have HB := hide hb
    clear hb
    go_wp2_with fail
    refine (FIN.out w1 HB.out).mono ?_
    rintro e w2 ⟨n, rfl, hb2, hk2⟩
    have HB2 := hide hb2
    have HK2 := hide hk2
    clear hb2 hk2
    go_wp2_with fail
    go_end0
    exact ⟨rfl, HB2.out, HK2.out⟩
  | 2, hv, _ =>
    simp only [Lies, IsEx] at hv
    obtain ⟨_, _, rfl⟩ := hv
    generalize Ex.text _ = t at *
    go_enter Tryz.func246, Tryz.ntmps246
    go_wp2_with fail
    refine HT.out.mono ?_
    rintro e w1 ⟨rfl, hb⟩
    have HB := hide hb
    clear hb
    go_wp2_with fail
    refine (FIN.out w1 HB.out).mono ?_
    rintro e w2 ⟨n, rfl, hb2, hk2⟩
    have HB2 := hide hb2
    have HK2 := hide hk2
    clear hb2 hk2
    go_wp2_with fail
    go_end0
    exact ⟨rfl, HB2.out, HK2.out⟩
  | 3, hv, _ =>
    simp only [Lies, IsEx] at hv
    obtain ⟨_, _, rfl⟩ := hv
    generalize Ex.text _ = t at *
    go_enter Tryz.func246, Tryz.ntmps246
    go_wp2_with fail
    refine HT.out.mono ?_
    rintro e w1 ⟨rfl, hb⟩
    have HB := hide hb
    clear hb
    go_wp2_with fail
    refine (FIN.out w1 HB.out).mono ?_
    rintro e w2 ⟨n, rfl, hb2, hk2⟩
    have HB2 := hide hb2
    have HK2 := hide hk2
    clear hb2 hk2
    go_wp2_with fail
    go_end0
    exact ⟨rfl, HB2.out, HK2.out⟩
  | 4, hv, _ =>
    simp only [Lies, IsEx] at hv
    obtain ⟨_, _, rfl⟩ := hv
    generalize Ex.text _ = t at *
    go_enter Tryz.func246, Tryz.ntmps246
    go_wp2_with fail
    refine HT.out.mono ?_
    rintro e w1 ⟨rfl, hb⟩
    have HB := hide hb
    clear hb
    go_wp2_with fail
    refine (FIN.out w1 HB.out).mono ?_
    rintro e w2 ⟨n, rfl, hb2, hk2⟩
    have HB2 := hide hb2
    have HK2 := hide hk2
    clear hb2 hk2
    go_wp2_with fail
    go_end0
    exact ⟨rfl, HB2.out, HK2.out⟩
set_option maxHeartbeats 2000000 in
theorem write_not (x : Ex) (hx : WriteOK x) : WriteOK ⟨5, [], [x]⟩ := by
  intro b v l w hv h hlen
  have etext : (⟨5, [], [x]⟩ : Ex).text = 33 :: Ex.par (decide (6 ≤ x.kind)) x.text := by simp [Ex.text]
  rw [etext]
  have hlen2 : l.length + 1 + (Ex.par (decide (6 ≤ x.kind)) x.text).length ≤ 1000000 := by have := hlen; rw [etext] at this; simp at this; omega
  simp only [Lies, IsEx] at hv
  obtain ⟨_, _, u, rfl, hu⟩ := hv
  have hu2 : Lies b w x u := hu _ rfl
  have HU := hide hu2
  have HX := hide hx
  have H := hide h
  have HLT := hide h.lt
  have HIF := hide (IsEx.iface x u hu2)
  clear hu hu2 h hx hlen etext
  have bx : ∀ w1 : World, Kb b (w.alloc (.cells #[u] 166)) w1 → w1.cell? ⟨w.heap.size, 0, none⟩ = some u ∧ Kb b w w1 := fun w1 hk => by
    have hg := hk.cell (g := w.heap.size) (c := #[u]) (t := 166) (fz := (0, 0)) (heap_alloc_new w _) (by have := HLT.out; omega) (by decide)
    exact ⟨by rw [Lib.cell_of_heap hg]; rfl, ((Kb.refl b w).alloc (by have := HLT.out; omega) _).trans hk⟩
  have BX := hide bx
  clear bx
  obtain ⟨tu, yu, hiu⟩ := HIF.out
  subst hiu
  go_enter Tryz.func246, Tryz.ntmps246
  go_wp2_with fail
  refine (WriteByte_any b _ 33 _ (H.out.below ((Below.refl _ _).alloc (Nat.le_refl _) _)) (by rw [Lib.byteCells_length]; omega)).mono ?_
  rintro e w1 ⟨rfl, hb1, hk1⟩
  have HB1 : Hid (Bld b (Lib.byteCells (l ++ [33])) w1) := by show Bld _ _ _; rw [byteCells_append]; exact hb1
  have HK1 := hide (BX.out w1 hk1)
  have hc := (BX.out w1 hk1).1
  clear hb1 hk1
  have HWI := hide (within_any x HX.out b (.iface tu yu) (decide (6 ≤ x.kind)) (l ++ [33]) w1.drew (HU.out.keep (HK1.out.2.trans (Kb.drewN 1 (Kb.refl b w1)))) (HB1.out.drewN 1) (by rw [List.length_append, List.length_singleton]; exact hlen2))
  go_wp2_with fail
  go_region_with (first | (go_at_call 249; refine (isList_any _ x _ w _ HU.out).mono ?_; rintro e w' ⟨rfl, rfl⟩) | (go_at_call 248; refine HWI.out.mono ?_; rintro e w2 ⟨rfl, hb2, hk2⟩))
  all_goals
    have HB2 := hide hb2
    have HK2 := hide hk2
    clear hb2 hk2
    go_wp2_with fail
    go_end0
    refine ⟨rfl, ?_, (HK1.out.2.trans (Kb.drewN 1 (Kb.refl b w1))).trans HK2.out⟩
    have e : l ++ 33 :: Ex.par (decide (6 ≤ x.kind)) x.text = l ++ [33] ++ Ex.par (decide (6 ≤ x.kind)) x.text := by simp
    rw [e]
    exact HB2.out
namespace Ex
theorem join_snoc (sep : List UInt8) (p : List UInt8) : ∀ l : List (List UInt8), join sep (l ++ [p]) = join sep l ++ (if 0 < l.length then sep else []) ++ p
  | [] => by simp [join]
  | [a] => by simp [join]
  | a :: b :: r => by
    have ih := join_snoc sep p (b :: r)
    simp only [List.cons_append, join] at ih ⊢
    simp only [List.length_cons, Nat.zero_lt_succ, if_true] at ih ⊢
    rw [ih]
    simp
theorem join_take (sep : List UInt8) (ps : List (List UInt8)) (k : Nat) (h : k < ps.length) : join sep (ps.take (k + 1)) = join sep (ps.take k) ++ (if 0 < k then sep else []) ++ ps[k] := by
  rw [List.take_succ_eq_append_getElem h, join_snoc]
  simp [Nat.min_eq_left (Nat.le_of_lt h)]
theorem join_take_le (sep : List UInt8) (ps : List (List UInt8)) : ∀ (j k : Nat), k + j = ps.length → (join sep (ps.take k)).length ≤ (join sep ps).length
  | 0, k, h => by rw [List.take_of_length_le (by omega)]; exact Nat.le_refl _
  | j + 1, k, h => by
    have h1 := join_take_le sep ps j (k + 1) (by omega)
    rw [join_take sep ps k (by omega)] at h1
    simp only [List.length_append] at h1
    omega
end Ex
set_option maxHeartbeats 2000000 in
theorem write_and (xs : List Ex) (hx : ∀ x, x ∈ xs → WriteOK x) : WriteOK ⟨6, [], xs⟩ := by
  intro b v l w hv h hlen
  obtain ⟨ps, hps⟩ : ∃ ps, ps = xs.map fun x => Ex.par (decide (6 ≤ x.kind)) x.text := ⟨_, rfl⟩
  have etext : (⟨6, [], xs⟩ : Ex).text = Ex.join [32, 38, 32] ps := by rw [hps]; simp [Ex.text]
  rw [etext]
  rw [etext] at hlen
  have HPL : Hid (ps.length = xs.length) := by show _ = _; rw [hps]; simp
  have HPG : Hid (∀ (k : Nat) (x : Ex) (hk : k < ps.length), xs[k]? = some x → ps[k] = Ex.par (decide (6 ≤ x.kind)) x.text) := fun k x hk hx => by
    have h1 : ps[k]? = some (Ex.par (decide (6 ≤ x.kind)) x.text) := by rw [hps, List.getElem?_map, hx]; rfl
    rw [List.getElem?_eq_getElem hk] at h1
    exact Option.some.inj h1
  have HX := hide hx
  have H := hide h
  simp only [Lies, IsEx] at hv
  obtain ⟨_, h2, hmx, g, cap, rfl, hcap, hgb, hrow⟩ := hv
  have HROW : Hid (∀ (k : Nat) (x : Ex), xs[k]? = some x → ∃ u, w.cell? ⟨g, k, none⟩ = some u ∧ Lies b w x u) := fun k x hk => hrow k _ (by rw [List.getElem?_map, hk]; rfl)
  clear hrow hx h etext hps
  obtain ⟨n, hn⟩ : ∃ n, n = xs.length := ⟨_, rfl⟩
  rw [← hn] at h2 hmx hcap HPL
  rw [← hn]
  have HN := hide hn
  clear hn
  go_enter Tryz.func246, Tryz.ntmps246
  go_wp2_with fail
  go_loopw [34] (fun i wr => ∃ k : Nat, k ≤ n ∧ i = .int .i64 (k : Int) ∧ Bld b (Lib.byteCells (l ++ Ex.join [32, 38, 32] (ps.take k))) wr ∧ Kb b w wr) (fun i _ => n - (intOf i).toNat)
  case atStart => exact ⟨0, Nat.zero_le _, rfl, by simpa [Ex.join] using H.out, Kb.refl _ _⟩
  case round =>
    obtain ⟨k, hk, rfl, hb, hkb⟩ := hrel
    have HB := hide hb
    have HK := hide hkb
    clear hb hkb
    by_cases hlt : k < n
    · have hkx : k < xs.length := by rw [← HN.out]; exact hlt
      obtain ⟨u, hu, hlu⟩ := HROW.out k xs[k] (List.getElem?_eq_getElem hkx)
      have hcell : wr.cell? ⟨g, k, none⟩ = some u := by rw [HK.out.1.cell (p := ⟨g, k, none⟩) hgb]; exact hu
      have HLU := hide (hlu.keep HK.out)
      have HKP : Hid (k < ps.length) := by show _ < _; rw [HPL.out]; exact hlt
      have HJ : Hid (Ex.join [32, 38, 32] (ps.take (k + 1)) = Ex.join [32, 38, 32] (ps.take k) ++ (if 0 < k then [32, 38, 32] else []) ++ Ex.par (decide (6 ≤ xs[k].kind)) xs[k].text) := by
        show _ = _
        rw [Ex.join_take _ _ _ HKP.out, HPG.out k xs[k] HKP.out (List.getElem?_eq_getElem hkx)]
      have HLE : Hid ((Ex.join [32, 38, 32] (ps.take (k + 1))).length ≤ (Ex.join [32, 38, 32] ps).length) := Ex.join_take_le _ _ (ps.length - (k + 1)) (k + 1) (by have := HKP.out; omega)
      have hl1 : (Ex.join [32, 38, 32] (ps.take k)).length + (if 0 < k then [32, 38, 32] else ([] : List UInt8)).length + (Ex.par (decide (6 ≤ xs[k].kind)) xs[k].text).length ≤ (Ex.join [32, 38, 32] ps).length := by
        have := HLE.out
        rw [HJ.out] at this
        simpa [Nat.add_assoc] using this
      have HWX := hide (HX.out xs[k] (List.getElem_mem hkx))
      obtain ⟨tu, yu, hiu⟩ := IsEx.iface _ u hlu
      subst hiu
      clear hu hlu
      generalize xs[k] = x at *
      generalize hL : Ex.join [32, 38, 32] (ps.take k) = L at *
      generalize hL2 : Ex.join [32, 38, 32] (ps.take (k + 1)) = L2 at *
      have HL2 := hide hL2
      clear hL hL2 hkx
      go_wp2_with fail
      refine (between_any b (l ++ L) k [32, 38, 32] wr HB.out (by simp; omega) (by omega)).mono ?_
      rintro e w1 ⟨rfl, hb1, hk1⟩
      have HB1 := hide hb1
      have HK1 := hide hk1
      clear hb1 hk1
      go_wp2_with fail
      refine (isList_any _ x _ w1 _ (HLU.out.keep HK1.out)).mono ?_
      rintro e w2 ⟨rfl, rfl⟩
      go_wp2_with fail
      refine (within_any x HWX.out b _ _ _ _ (HLU.out.keep HK1.out) HB1.out (by simp only [List.length_append]; omega)).mono ?_
      rintro e w3 ⟨rfl, hb3, hk3⟩
      have HB3 := hide hb3
      have HK3 := hide hk3
      clear hb3 hk3
      go_wp2_with fail
      go_roundw
      case rel => exact ⟨k + 1, by omega, by go_num, by rw [HL2.out, HJ.out]; simpa [List.append_assoc] using HB3.out, (HK.out.trans HK1.out).trans HK3.out⟩
      case measure => simp [intOf]; omega
    · have hkn : k = n := by omega
      have HB2 : Hid (Bld b (Lib.byteCells (l ++ Ex.join [32, 38, 32] ps)) wr) := by
        show Bld _ _ _
        have := HB.out
        rwa [List.take_of_length_le (by rw [HPL.out]; omega)] at this
      clear hkn HB
      go_wp2_with fail
      go_end0
      exact ⟨rfl, HB2.out, HK.out⟩
theorem isOr7_any (ok : Nat → Prop) (x : Ex) (v : Value) (w0 w : World) (h : IsEx ok w0 x v) : Calls Tryz.prog 184 #[v] w fun e w' => e = .returned (.bool (decide (7 ≤ x.kind))) ∧ w' = w := by
  have h7 := IsEx.le7 x v h
  refine (isOr_any ok x v w0 w h).mono ?_
  rintro e w' ⟨rfl, rfl⟩
  refine ⟨ret_bool ?_, rfl⟩
  by_cases e : x.kind = 7
  · rw [e]; rfl
  · have : ¬ 7 ≤ x.kind := by omega
    simp [e, this]
set_option maxHeartbeats 2000000 in
theorem write_or (xs : List Ex) (hx : ∀ x, x ∈ xs → WriteOK x) : WriteOK ⟨7, [], xs⟩ := by
  intro b v l w hv h hlen
  obtain ⟨ps, hps⟩ : ∃ ps, ps = xs.map fun x => Ex.par (decide (7 ≤ x.kind)) x.text := ⟨_, rfl⟩
  have etext : (⟨7, [], xs⟩ : Ex).text = Ex.join [32, 124, 32] ps := by rw [hps]; simp [Ex.text]
  rw [etext]
  rw [etext] at hlen
  have HPL : Hid (ps.length = xs.length) := by show _ = _; rw [hps]; simp
  have HPG : Hid (∀ (k : Nat) (x : Ex) (hk : k < ps.length), xs[k]? = some x → ps[k] = Ex.par (decide (7 ≤ x.kind)) x.text) := fun k x hk hx => by
    have h1 : ps[k]? = some (Ex.par (decide (7 ≤ x.kind)) x.text) := by rw [hps, List.getElem?_map, hx]; rfl
    rw [List.getElem?_eq_getElem hk] at h1
    exact Option.some.inj h1
  have HX := hide hx
  have H := hide h
  simp only [Lies, IsEx] at hv
  obtain ⟨_, h2, hmx, g, cap, rfl, hcap, hgb, hrow⟩ := hv
  have HROW : Hid (∀ (k : Nat) (x : Ex), xs[k]? = some x → ∃ u, w.cell? ⟨g, k, none⟩ = some u ∧ Lies b w x u) := fun k x hk => hrow k _ (by rw [List.getElem?_map, hk]; rfl)
  clear hrow hx h etext hps
  obtain ⟨n, hn⟩ : ∃ n, n = xs.length := ⟨_, rfl⟩
  rw [← hn] at h2 hmx hcap HPL
  rw [← hn]
  have HN := hide hn
  clear hn
  go_enter Tryz.func246, Tryz.ntmps246
  go_wp2_with fail
  go_loopw [53] (fun i wr => ∃ k : Nat, k ≤ n ∧ i = .int .i64 (k : Int) ∧ Bld b (Lib.byteCells (l ++ Ex.join [32, 124, 32] (ps.take k))) wr ∧ Kb b w wr) (fun i _ => n - (intOf i).toNat)
  case atStart => exact ⟨0, Nat.zero_le _, rfl, by simpa [Ex.join] using H.out, Kb.refl _ _⟩
  case round =>
    obtain ⟨k, hk, rfl, hb, hkb⟩ := hrel
    have HB := hide hb
    have HK := hide hkb
    clear hb hkb
    by_cases hlt : k < n
    · have hkx : k < xs.length := by rw [← HN.out]; exact hlt
      obtain ⟨u, hu, hlu⟩ := HROW.out k xs[k] (List.getElem?_eq_getElem hkx)
      have hcell : wr.cell? ⟨g, k, none⟩ = some u := by rw [HK.out.1.cell (p := ⟨g, k, none⟩) hgb]; exact hu
      have HLU := hide (hlu.keep HK.out)
      have HKP : Hid (k < ps.length) := by show _ < _; rw [HPL.out]; exact hlt
      have HJ : Hid (Ex.join [32, 124, 32] (ps.take (k + 1)) = Ex.join [32, 124, 32] (ps.take k) ++ (if 0 < k then [32, 124, 32] else []) ++ Ex.par (decide (7 ≤ xs[k].kind)) xs[k].text) := by
        show _ = _
        rw [Ex.join_take _ _ _ HKP.out, HPG.out k xs[k] HKP.out (List.getElem?_eq_getElem hkx)]
      have HLE : Hid ((Ex.join [32, 124, 32] (ps.take (k + 1))).length ≤ (Ex.join [32, 124, 32] ps).length) := Ex.join_take_le _ _ (ps.length - (k + 1)) (k + 1) (by have := HKP.out; omega)
      have hl1 : (Ex.join [32, 124, 32] (ps.take k)).length + (if 0 < k then [32, 124, 32] else ([] : List UInt8)).length + (Ex.par (decide (7 ≤ xs[k].kind)) xs[k].text).length ≤ (Ex.join [32, 124, 32] ps).length := by
        have := HLE.out
        rw [HJ.out] at this
        simpa [Nat.add_assoc] using this
      have HWX := hide (HX.out xs[k] (List.getElem_mem hkx))
      obtain ⟨tu, yu, hiu⟩ := IsEx.iface _ u hlu
      subst hiu
      clear hu hlu
      generalize xs[k] = x at *
      generalize hL : Ex.join [32, 124, 32] (ps.take k) = L at *
      generalize hL2 : Ex.join [32, 124, 32] (ps.take (k + 1)) = L2 at *
      have HL2 := hide hL2
      clear hL hL2 hkx
      go_wp2_with fail
      refine (between_any b (l ++ L) k [32, 124, 32] wr HB.out (by simp; omega) (by omega)).mono ?_
      rintro e w1 ⟨rfl, hb1, hk1⟩
      have HB1 := hide hb1
      have HK1 := hide hk1
      clear hb1 hk1
      go_wp2_with fail
      refine (isOr7_any _ x _ w1 _ (HLU.out.keep HK1.out)).mono ?_
      rintro e w2 ⟨rfl, rfl⟩
      go_wp2_with fail
      refine (within_any x HWX.out b _ _ _ _ (HLU.out.keep HK1.out) HB1.out (by simp only [List.length_append]; omega)).mono ?_
      rintro e w3 ⟨rfl, hb3, hk3⟩
      have HB3 := hide hb3
      have HK3 := hide hk3
      clear hb3 hk3
      go_wp2_with fail
      go_roundw
      case rel => exact ⟨k + 1, by omega, by go_num, by rw [HL2.out, HJ.out]; simpa [List.append_assoc] using HB3.out, (HK.out.trans HK1.out).trans HK3.out⟩
      case measure => simp [intOf]; omega
    · have hkn : k = n := by omega
      have HB2 : Hid (Bld b (Lib.byteCells (l ++ Ex.join [32, 124, 32] ps)) wr) := by
        show Bld _ _ _
        have := HB.out
        rwa [List.take_of_length_le (by rw [HPL.out]; omega)] at this
      clear hkn HB
      go_wp2_with fail
      go_end0
      exact ⟨rfl, HB2.out, HK.out⟩
/-- write, at every expression -/
theorem write_any (x : Ex) : (∃ ok w v, IsEx ok w x v) → WriteOK x := by
  induction x using Ex.ind with
  | h k nm l ih =>
    rintro ⟨ok, w, v, h⟩
    have sub : ∀ (P : List (Value → Prop)), P = (l.map fun x => IsEx ok w x) → (∀ (i : Nat) (Q : Value → Prop), P[i]? = some Q → ∃ u, Q u) → ∀ x, x ∈ l → WriteOK x := by
      intro P hP hQ x hx
      obtain ⟨i, hi, he⟩ := List.getElem_of_mem hx
      obtain ⟨u, hu⟩ := hQ i (IsEx ok w x) (by rw [hP, List.getElem?_map, List.getElem?_eq_getElem hi, he]; rfl)
      exact ih x hx ⟨ok, w, u, hu⟩
    match k, h with
    | 0, _ => exact write_leaf _ (by simp)
    | 1, _ => exact write_leaf _ (by simp)
    | 2, _ => exact write_leaf _ (by simp)
    | 3, _ => exact write_leaf _ (by simp)
    | 4, _ => exact write_leaf _ (by simp)
    | 5, h =>
      simp only [IsEx] at h
      obtain ⟨rfl, h1, u, _, h3⟩ := h
      match l, h1 with
      | [x], _ =>
        exact write_not x (ih x (by simp) ⟨ok, w, u, h3 _ rfl⟩)
    | 6, h =>
      simp only [IsEx] at h
      obtain ⟨rfl, _, _, g, cap, _, _, _, hr⟩ := h
      exact write_and l (sub _ rfl fun i Q hi => by obtain ⟨u, _, hu⟩ := hr i Q hi; exact ⟨u, hu⟩)
    | 7, h =>
      simp only [IsEx] at h
      obtain ⟨rfl, _, _, g, cap, _, _, _, hr⟩ := h
      exact write_or l (sub _ rfl fun i Q hi => by obtain ⟨u, _, hu⟩ := hr i Q hi; exact ⟨u, hu⟩)
    | n + 8, h => simp only [IsEx] at h
set_option maxHeartbeats 1000000 in
theorem written_any (x : Ex) (v : Value) (w : World) (h : IsEx (fun _ => True) w x v) (hlen : x.text.length ≤ 1000000) :
    Calls Tryz.prog 245 #[v] w fun e w' => e = .returned (.string ⟨x.text.toArray⟩) ∧ Below w.heap.size w w' := by
  have hW := write_any x ⟨_, _, _, h⟩
  have hB : Bld w.heap.size (Lib.byteCells []) (w.alloc (.cells #[.pointer none, .slice none 0 0] 78)) := Lib.fresh_isBuilder _ _ w
  have hL : Lies w.heap.size (w.alloc (.cells #[.pointer none, .slice none 0 0] 78)) x v :=
    IsEx.stay (Stay.below ((Below.refl _ _).alloc (Nat.le_refl _) _)) (fun g hg => hg.2) x v (IsEx.lt x v h)
  have HC := hide (hW w.heap.size v [] _ hL hB (by simpa using hlen))
  obtain ⟨tu, yu, hiu⟩ := IsEx.iface x v h
  subst hiu
  clear hW hB hL h
  generalize x.text = t at *
  go_enter Tryz.func245, Tryz.ntmps245
  go_wp2_with fail
  refine HC.out.mono ?_
  rintro e w1 ⟨rfl, hb, hk⟩
  rw [List.nil_append] at hb
  have hsz := hk.1.size
  simp at hsz
  have HS := hide (Tryz.Builder_String_any w.heap.size w.heap.size t w1 hb (by omega))
  have HB : Hid (Below w.heap.size w w1) := ((Below.refl _ w).alloc (Nat.le_refl _) _).trans hk.1
  clear hb hk HC
  go_wp2_with fail
  refine HS.out.mono ?_
  rintro e w2 ⟨rfl, hb2⟩
  have HB2 := hide hb2
  clear hb2 HS
  go_wp2_with fail
  go_ret
  exact ⟨rfl, HB.out.trans HB2.out⟩
theorem Not_Text (x : Ex) (u : Value) (w : World) (h : IsEx (fun _ => True) w x (.iface 166 (.agg #[u]))) (hlen : x.text.length ≤ 1000000) :
    Calls Tryz.prog 244 #[.agg #[u]] w fun e w' => e = .returned (.string ⟨x.text.toArray⟩) ∧ Below w.heap.size w w' := by
  have HB : Hid (Below w.heap.size w (w.alloc (.cells #[u] 166))) := (Below.refl _ _).alloc (Nat.le_refl _) _
  have HC := hide (written_any x _ _ (IsEx.stay (Stay.below HB.out) (fun g hg => hg) x _ h) hlen)
  clear h
  go_enter Tryz.func244, Tryz.ntmps244
  go_wp2_with fail
  refine HC.out.mono ?_
  rintro e w1 ⟨rfl, hb⟩
  have HB1 := hide hb
  clear hb HC
  go_wp2_with fail
  go_ret
  exact ⟨rfl, HB.out.trans (HB1.out.mono (by simp))⟩
theorem And_Text (x : Ex) (g n cap : Nat) (w : World) (h : IsEx (fun _ => True) w x (.iface 169 (.slice (some ⟨g, 0, none⟩) n cap))) (hlen : x.text.length ≤ 1000000) :
    Calls Tryz.prog 251 #[.slice (some ⟨g, 0, none⟩) n cap] w fun e w' => e = .returned (.string ⟨x.text.toArray⟩) ∧ Below w.heap.size w w' := by
  have HC := hide (written_any x _ _ h hlen)
  clear h
  go_enter Tryz.func251, Tryz.ntmps251
  go_wp2_with fail
  refine HC.out.mono ?_
  rintro e w1 ⟨rfl, hb⟩
  have HB1 := hide hb
  clear hb HC
  go_wp2_with fail
  go_ret
  exact ⟨rfl, HB1.out⟩
theorem Or_Text (x : Ex) (g n cap : Nat) (w : World) (h : IsEx (fun _ => True) w x (.iface 171 (.slice (some ⟨g, 0, none⟩) n cap))) (hlen : x.text.length ≤ 1000000) :
    Calls Tryz.prog 252 #[.slice (some ⟨g, 0, none⟩) n cap] w fun e w' => e = .returned (.string ⟨x.text.toArray⟩) ∧ Below w.heap.size w w' := by
  have HC := hide (written_any x _ _ h hlen)
  clear h
  go_enter Tryz.func252, Tryz.ntmps252
  go_wp2_with fail
  refine HC.out.mono ?_
  rintro e w1 ⟨rfl, hb⟩
  have HB1 := hide hb
  clear hb HC
  go_wp2_with fail
  go_ret
  exact ⟨rfl, HB1.out⟩
theorem entered_Not : Entered 244 := fun _ _ => by kernel_rfl
theorem entered_And : Entered 251 := fun _ _ => by kernel_rfl
theorem entered_Or : Entered 252 := fun _ _ => by kernel_rfl
/-- Text, at every expression: the plain function 'text' -/
theorem Text_any (ok : Nat → Prop) (x : Ex) (v : Value) (w : World) (h : IsEx ok w x v) (hlen : x.text.length ≤ 1000000) :
    Calls Tryz.prog 55 #[v] w fun e w' => e = .returned (.string ⟨x.text.toArray⟩) ∧ Below w.heap.size w w' := by
  by_cases hk : x.kind ≤ 4
  · exact Text_leaf ok x v w h hk
  have h' : IsEx (fun _ => True) w x v := IsEx.stay (fun g i u _ hc => hc) (fun g _ => trivial) x v h
  have hst : ∀ w2, Below w.heap.size w w2 → IsEx (fun _ => True) w2 x v := fun w2 hb => IsEx.stay (Stay.below hb) (fun g hg => hg) x v h'
  obtain ⟨k, nm, l⟩ := x
  match k, h, hk with
  | 5, h, _ =>
    simp only [IsEx] at h
    obtain ⟨_, _, u, rfl, _⟩ := h
    exact Text_of _ 244 _ _ w (fun _ => by kernel_rfl) entered_Not (fun w2 hb => Not_Text _ u w2 (hst w2 hb) hlen)
  | 6, h, _ =>
    simp only [IsEx] at h
    obtain ⟨_, _, _, g, cap, rfl, _⟩ := h
    exact Text_of _ 251 _ _ w (fun _ => by kernel_rfl) entered_And (fun w2 hb => And_Text _ g _ cap w2 (hst w2 hb) hlen)
  | 7, h, _ =>
    simp only [IsEx] at h
    obtain ⟨_, _, _, g, cap, rfl, _⟩ := h
    exact Text_of _ 252 _ _ w (fun _ => by kernel_rfl) entered_Or (fun w2 hb => Or_Text _ g _ cap w2 (hst w2 hb) hlen)
  | n + 8, h, _ => simp only [IsEx] at h
  | 0, _, hk => exact absurd (by simp) hk
  | 1, _, hk => exact absurd (by simp) hk
  | 2, _, hk => exact absurd (by simp) hk
  | 3, _, hk => exact absurd (by simp) hk
  | 4, _, hk => exact absurd (by simp) hk
end Go.Proofs.YtjfgfcajmkbmeaaGreatDoor
