/-
  The walk of write at And and at Or; write at every expression; written; Text at every expression.
-/
import Derived.Test.YtmchohajfgemcaaDoorTxNot
namespace Go.Proofs.YtmchohajfgemcaaDoor
open Go.RowKit
namespace Ex
theorem join_snoc (sep : List UInt8) (p : List UInt8) : ∀ l : List (List UInt8), join sep (l ++ [p]) = join sep l ++ (if 0 < l.length then sep else []) ++ p
  | [] => by simp [join]
  | [a] => by simp [join]
  | a :: b :: r => by
    have ih := join_snoc sep p (b :: r)
    simp only [List.cons_append, join] at ih ⊢
    simp only [List.length_cons, Nat.zero_lt_succ, if_true] at ih ⊢
    rw [ih]
    simp
theorem join_take (sep : List UInt8) (ps : List (List UInt8)) (k : Nat) (h : k < ps.length) : join sep (ps.take (k + 1)) = join sep (ps.take k) ++ (if 0 < k then sep else []) ++ ps[k] := by
  rw [List.take_succ_eq_append_getElem h, join_snoc]
  simp [Nat.min_eq_left (Nat.le_of_lt h)]
theorem join_take_le (sep : List UInt8) (ps : List (List UInt8)) : ∀ (j k : Nat), k + j = ps.length → (join sep (ps.take k)).length ≤ (join sep ps).length
  | 0, k, h => by rw [List.take_of_length_le (by omega)]; exact Nat.le_refl _
  | j + 1, k, h => by
    have h1 := join_take_le sep ps j (k + 1) (by omega)
    rw [join_take sep ps k (by omega)] at h1
    simp only [List.length_append] at h1
    omega
end Ex
set_option maxHeartbeats 2000000 in
theorem write_and (xs : List Ex) (hx : ∀ x, x ∈ xs → WriteOK x) : WriteOK ⟨6, [], xs⟩ := by
  intro b v l w hv h hlen
  obtain ⟨ps, hps⟩ : ∃ ps, ps = xs.map fun x => Ex.par (decide (6 ≤ x.kind)) x.text := ⟨_, rfl⟩
  have etext : (⟨6, [], xs⟩ : Ex).text = Ex.join [32, 38, 32] ps := by rw [hps]; simp [Ex.text]
  rw [etext]
  rw [etext] at hlen
  have HPL : Hid (ps.length = xs.length) := by show _ = _; rw [hps]; simp
  have HPG : Hid (∀ (k : Nat) (x : Ex) (hk : k < ps.length), xs[k]? = some x → ps[k] = Ex.par (decide (6 ≤ x.kind)) x.text) := fun k x hk hx => by
    have h1 : ps[k]? = some (Ex.par (decide (6 ≤ x.kind)) x.text) := by rw [hps, List.getElem?_map, hx]; rfl
    rw [List.getElem?_eq_getElem hk] at h1
    exact Option.some.inj h1
  have HX := hide hx
  have H := hide h
  simp only [Lies, IsEx] at hv
  obtain ⟨_, h2, hmx, g, cap, rfl, hcap, hgb, hrow⟩ := hv
  have HROW : Hid (∀ (k : Nat) (x : Ex), xs[k]? = some x → ∃ u, w.cell? ⟨g, k, none⟩ = some u ∧ Lies b w x u) := fun k x hk => hrow k _ (by rw [List.getElem?_map, hk]; rfl)
  clear hrow hx h etext hps
  obtain ⟨n, hn⟩ : ∃ n, n = xs.length := ⟨_, rfl⟩
  rw [← hn] at h2 hmx hcap HPL
  rw [← hn]
  have HN := hide hn
  clear hn
  go_enter Tryd.func127, Tryd.ntmps127
  go_wp2_with fail
  go_loopw [34] (fun i wr => ∃ k : Nat, k ≤ n ∧ i = .int .i64 (k : Int) ∧ Bld b (Lib.byteCells (l ++ Ex.join [32, 38, 32] (ps.take k))) wr ∧ Kb b w wr) (fun i _ => n - (intOf i).toNat)
  case atStart => exact ⟨0, Nat.zero_le _, rfl, by simpa [Ex.join] using H.out, Kb.refl _ _⟩
  case round =>
    obtain ⟨k, hk, rfl, hb, hkb⟩ := hrel
    have HB := hide hb
    have HK := hide hkb
    clear hb hkb
    by_cases hlt : k < n
    · have hkx : k < xs.length := by rw [← HN.out]; exact hlt
      obtain ⟨u, hu, hlu⟩ := HROW.out k xs[k] (List.getElem?_eq_getElem hkx)
      have hcell : wr.cell? ⟨g, k, none⟩ = some u := by rw [HK.out.1.cell (p := ⟨g, k, none⟩) hgb]; exact hu
      have HLU := hide (hlu.keep HK.out)
      have HKP : Hid (k < ps.length) := by show _ < _; rw [HPL.out]; exact hlt
      have HJ : Hid (Ex.join [32, 38, 32] (ps.take (k + 1)) = Ex.join [32, 38, 32] (ps.take k) ++ (if 0 < k then [32, 38, 32] else []) ++ Ex.par (decide (6 ≤ xs[k].kind)) xs[k].text) := by
        show _ = _
        rw [Ex.join_take _ _ _ HKP.out, HPG.out k xs[k] HKP.out (List.getElem?_eq_getElem hkx)]
      have HLE : Hid ((Ex.join [32, 38, 32] (ps.take (k + 1))).length ≤ (Ex.join [32, 38, 32] ps).length) := Ex.join_take_le _ _ (ps.length - (k + 1)) (k + 1) (by have := HKP.out; omega)
      have hl1 : (Ex.join [32, 38, 32] (ps.take k)).length + (if 0 < k then [32, 38, 32] else ([] : List UInt8)).length + (Ex.par (decide (6 ≤ xs[k].kind)) xs[k].text).length ≤ (Ex.join [32, 38, 32] ps).length := by
        have := HLE.out
        rw [HJ.out] at this
        simpa [Nat.add_assoc] using this
      have HWX := hide (HX.out xs[k] (List.getElem_mem hkx))
      obtain ⟨tu, yu, hiu⟩ := IsEx.iface _ u hlu
      subst hiu
      clear hu hlu
      generalize xs[k] = x at *
      generalize hL : Ex.join [32, 38, 32] (ps.take k) = L at *
      generalize hL2 : Ex.join [32, 38, 32] (ps.take (k + 1)) = L2 at *
      have HL2 := hide hL2
      clear hL hL2 hkx
      go_wp2_with fail
      refine (between_any b (l ++ L) k [32, 38, 32] wr HB.out (by simp; omega) (by omega)).mono ?_
      rintro e w1 ⟨rfl, hb1, hk1⟩
      have HB1 := hide hb1
      have HK1 := hide hk1
      clear hb1 hk1
      go_wp2_with fail
      refine (isList_any _ x _ w1 _ (HLU.out.keep HK1.out)).mono ?_
      rintro e w2 ⟨rfl, rfl⟩
      go_wp2_with fail
      refine (within_any x HWX.out b _ _ _ _ (HLU.out.keep HK1.out) HB1.out (by simp only [List.length_append]; omega)).mono ?_
      rintro e w3 ⟨rfl, hb3, hk3⟩
      have HB3 := hide hb3
      have HK3 := hide hk3
      clear hb3 hk3
      go_wp2_with fail
      go_roundw
      case rel => exact ⟨k + 1, by omega, by go_num, by rw [HL2.out, HJ.out]; simpa [List.append_assoc] using HB3.out, (HK.out.trans HK1.out).trans HK3.out⟩
      case measure => simp [intOf]; omega
    · have hkn : k = n := by omega
      have HB2 : Hid (Bld b (Lib.byteCells (l ++ Ex.join [32, 38, 32] ps)) wr) := by
        show Bld _ _ _
        have := HB.out
        rwa [List.take_of_length_le (by rw [HPL.out]; omega)] at this
      clear hkn HB
      go_wp2_with fail
      go_end0
      exact ⟨rfl, HB2.out, HK.out⟩
theorem isOr7_any (ok : Nat → Prop) (x : Ex) (v : Value) (w0 w : World) (h : IsEx ok w0 x v) : Calls Tryd.prog 82 #[v] w fun e w' => e = .returned (.bool (decide (7 ≤ x.kind))) ∧ w' = w := by
  have h7 := IsEx.le7 x v h
  refine (isOr_any ok x v w0 w h).mono ?_
  rintro e w' ⟨rfl, rfl⟩
  refine ⟨ret_bool ?_, rfl⟩
  by_cases e : x.kind = 7
  · rw [e]; rfl
  · have : ¬ 7 ≤ x.kind := by omega
    simp [e, this]
set_option maxHeartbeats 2000000 in
theorem write_or (xs : List Ex) (hx : ∀ x, x ∈ xs → WriteOK x) : WriteOK ⟨7, [], xs⟩ := by
  intro b v l w hv h hlen
  obtain ⟨ps, hps⟩ : ∃ ps, ps = xs.map fun x => Ex.par (decide (7 ≤ x.kind)) x.text := ⟨_, rfl⟩
  have etext : (⟨7, [], xs⟩ : Ex).text = Ex.join [32, 124, 32] ps := by rw [hps]; simp [Ex.text]
  rw [etext]
  rw [etext] at hlen
  have HPL : Hid (ps.length = xs.length) := by show _ = _; rw [hps]; simp
  have HPG : Hid (∀ (k : Nat) (x : Ex) (hk : k < ps.length), xs[k]? = some x → ps[k] = Ex.par (decide (7 ≤ x.kind)) x.text) := fun k x hk hx => by
    have h1 : ps[k]? = some (Ex.par (decide (7 ≤ x.kind)) x.text) := by rw [hps, List.getElem?_map, hx]; rfl
    rw [List.getElem?_eq_getElem hk] at h1
    exact Option.some.inj h1
  have HX := hide hx
  have H := hide h
  simp only [Lies, IsEx] at hv
  obtain ⟨_, h2, hmx, g, cap, rfl, hcap, hgb, hrow⟩ := hv
  have HROW : Hid (∀ (k : Nat) (x : Ex), xs[k]? = some x → ∃ u, w.cell? ⟨g, k, none⟩ = some u ∧ Lies b w x u) := fun k x hk => hrow k _ (by rw [List.getElem?_map, hk]; rfl)
  clear hrow hx h etext hps
  obtain ⟨n, hn⟩ : ∃ n, n = xs.length := ⟨_, rfl⟩
  rw [← hn] at h2 hmx hcap HPL
  rw [← hn]
  have HN := hide hn
  clear hn
  go_enter Tryd.func127, Tryd.ntmps127
  go_wp2_with fail
  go_loopw [53] (fun i wr => ∃ k : Nat, k ≤ n ∧ i = .int .i64 (k : Int) ∧ Bld b (Lib.byteCells (l ++ Ex.join [32, 124, 32] (ps.take k))) wr ∧ Kb b w wr) (fun i _ => n - (intOf i).toNat)
  case atStart => exact ⟨0, Nat.zero_le _, rfl, by simpa [Ex.join] using H.out, Kb.refl _ _⟩
  case round =>
    obtain ⟨k, hk, rfl, hb, hkb⟩ := hrel
    have HB := hide hb
    have HK := hide hkb
    clear hb hkb
    by_cases hlt : k < n
    · have hkx : k < xs.length := by rw [← HN.out]; exact hlt
      obtain ⟨u, hu, hlu⟩ := HROW.out k xs[k] (List.getElem?_eq_getElem hkx)
      have hcell : wr.cell? ⟨g, k, none⟩ = some u := by rw [HK.out.1.cell (p := ⟨g, k, none⟩) hgb]; exact hu
      have HLU := hide (hlu.keep HK.out)
      have HKP : Hid (k < ps.length) := by show _ < _; rw [HPL.out]; exact hlt
      have HJ : Hid (Ex.join [32, 124, 32] (ps.take (k + 1)) = Ex.join [32, 124, 32] (ps.take k) ++ (if 0 < k then [32, 124, 32] else []) ++ Ex.par (decide (7 ≤ xs[k].kind)) xs[k].text) := by
        show _ = _
        rw [Ex.join_take _ _ _ HKP.out, HPG.out k xs[k] HKP.out (List.getElem?_eq_getElem hkx)]
      have HLE : Hid ((Ex.join [32, 124, 32] (ps.take (k + 1))).length ≤ (Ex.join [32, 124, 32] ps).length) := Ex.join_take_le _ _ (ps.length - (k + 1)) (k + 1) (by have := HKP.out; omega)
      have hl1 : (Ex.join [32, 124, 32] (ps.take k)).length + (if 0 < k then [32, 124, 32] else ([] : List UInt8)).length + (Ex.par (decide (7 ≤ xs[k].kind)) xs[k].text).length ≤ (Ex.join [32, 124, 32] ps).length := by
        have := HLE.out
        rw [HJ.out] at this
        simpa [Nat.add_assoc] using this
      have HWX := hide (HX.out xs[k] (List.getElem_mem hkx))
      obtain ⟨tu, yu, hiu⟩ := IsEx.iface _ u hlu
      subst hiu
      clear hu hlu
      generalize xs[k] = x at *
      generalize hL : Ex.join [32, 124, 32] (ps.take k) = L at *
      generalize hL2 : Ex.join [32, 124, 32] (ps.take (k + 1)) = L2 at *
      have HL2 := hide hL2
      clear hL hL2 hkx
      go_wp2_with fail
      refine (between_any b (l ++ L) k [32, 124, 32] wr HB.out (by simp; omega) (by omega)).mono ?_
      rintro e w1 ⟨rfl, hb1, hk1⟩
      have HB1 := hide hb1
      have HK1 := hide hk1
      clear hb1 hk1
      go_wp2_with fail
      refine (isOr7_any _ x _ w1 _ (HLU.out.keep HK1.out)).mono ?_
      rintro e w2 ⟨rfl, rfl⟩
      go_wp2_with fail
      refine (within_any x HWX.out b _ _ _ _ (HLU.out.keep HK1.out) HB1.out (by simp only [List.length_append]; omega)).mono ?_
      rintro e w3 ⟨rfl, hb3, hk3⟩
      have HB3 := hide hb3
      have HK3 := hide hk3
      clear hb3 hk3
      go_wp2_with fail
      go_roundw
      case rel => exact ⟨k + 1, by omega, by go_num, by rw [HL2.out, HJ.out]; simpa [List.append_assoc] using HB3.out, (HK.out.trans HK1.out).trans HK3.out⟩
      case measure => simp [intOf]; omega
    · have hkn : k = n := by omega
      have HB2 : Hid (Bld b (Lib.byteCells (l ++ Ex.join [32, 124, 32] ps)) wr) := by
        show Bld _ _ _
        have := HB.out
        rwa [List.take_of_length_le (by rw [HPL.out]; omega)] at this
      clear hkn HB
      go_wp2_with fail
      go_end0
      exact ⟨rfl, HB2.out, HK.out⟩
/-- write, at every expression -/
theorem write_any (x : Ex) : (∃ ok w v, IsEx ok w x v) → WriteOK x := by
  induction x using Ex.ind with
  | h k nm l ih =>
    rintro ⟨ok, w, v, h⟩
    have sub : ∀ (P : List (Value → Prop)), P = (l.map fun x => IsEx ok w x) → (∀ (i : Nat) (Q : Value → Prop), P[i]? = some Q → ∃ u, Q u) → ∀ x, x ∈ l → WriteOK x := by
      intro P hP hQ x hx
      obtain ⟨i, hi, he⟩ := List.getElem_of_mem hx
      obtain ⟨u, hu⟩ := hQ i (IsEx ok w x) (by rw [hP, List.getElem?_map, List.getElem?_eq_getElem hi, he]; rfl)
      exact ih x hx ⟨ok, w, u, hu⟩
    match k, h with
    | 0, _ => exact write_leaf _ (by simp)
    | 1, _ => exact write_leaf _ (by simp)
    | 2, _ => exact write_leaf _ (by simp)
    | 3, _ => exact write_leaf _ (by simp)
    | 4, _ => exact write_leaf _ (by simp)
    | 5, h =>
      simp only [IsEx] at h
      obtain ⟨rfl, h1, u, _, h3⟩ := h
      match l, h1 with
      | [x], _ =>
        exact write_not x (ih x (by simp) ⟨ok, w, u, h3 _ rfl⟩)
    | 6, h =>
      simp only [IsEx] at h
      obtain ⟨rfl, _, _, g, cap, _, _, _, hr⟩ := h
      exact write_and l (sub _ rfl fun i Q hi => by obtain ⟨u, _, hu⟩ := hr i Q hi; exact ⟨u, hu⟩)
    | 7, h =>
      simp only [IsEx] at h
      obtain ⟨rfl, _, _, g, cap, _, _, _, hr⟩ := h
      exact write_or l (sub _ rfl fun i Q hi => by obtain ⟨u, _, hu⟩ := hr i Q hi; exact ⟨u, hu⟩)
    | n + 8, h => simp only [IsEx] at h
set_option maxHeartbeats 1000000 in
theorem written_any (x : Ex) (v : Value) (w : World) (h : IsEx (fun _ => True) w x v) (hlen : x.text.length ≤ 1000000) :
    Calls Tryd.prog 126 #[v] w fun e w' => e = .returned (.string ⟨x.text.toArray⟩) ∧ Below w.heap.size w w' := by
  have hW := write_any x ⟨_, _, _, h⟩
  have hB : Bld w.heap.size (Lib.byteCells []) (w.alloc (.cells #[.pointer none, .slice none 0 0] 87)) := Lib.fresh_isBuilder _ _ w
  have hL : Lies w.heap.size (w.alloc (.cells #[.pointer none, .slice none 0 0] 87)) x v :=
    IsEx.stay (Stay.below ((Below.refl _ _).alloc (Nat.le_refl _) _)) (fun g hg => hg.2) x v (IsEx.lt x v h)
  have HC := hide (hW w.heap.size v [] _ hL hB (by simpa using hlen))
  obtain ⟨tu, yu, hiu⟩ := IsEx.iface x v h
  subst hiu
  clear hW hB hL h
  generalize x.text = t at *
  go_enter Tryd.func126, Tryd.ntmps126
  go_wp2_with fail
  refine HC.out.mono ?_
  rintro e w1 ⟨rfl, hb, hk⟩
  rw [List.nil_append] at hb
  have hsz := hk.1.size
  simp at hsz
  have HS := hide (Tryd.Builder_String_any w.heap.size w.heap.size t w1 hb (by omega))
  have HB : Hid (Below w.heap.size w w1) := ((Below.refl _ w).alloc (Nat.le_refl _) _).trans hk.1
  clear hb hk HC
  go_wp2_with fail
  refine HS.out.mono ?_
  rintro e w2 ⟨rfl, hb2⟩
  have HB2 := hide hb2
  clear hb2 HS
  go_wp2_with fail
  go_ret
  exact ⟨rfl, HB.out.trans HB2.out⟩
theorem Not_Text (x : Ex) (u : Value) (w : World) (h : IsEx (fun _ => True) w x (.iface 92 (.agg #[u]))) (hlen : x.text.length ≤ 1000000) :
    Calls Tryd.prog 135 #[.agg #[u]] w fun e w' => e = .returned (.string ⟨x.text.toArray⟩) ∧ Below w.heap.size w w' := by
  have HB : Hid (Below w.heap.size w (w.alloc (.cells #[u] 92))) := (Below.refl _ _).alloc (Nat.le_refl _) _
  have HC := hide (written_any x _ _ (IsEx.stay (Stay.below HB.out) (fun g hg => hg) x _ h) hlen)
  clear h
  go_enter Tryd.func135, Tryd.ntmps135
  go_wp2_with fail
  refine HC.out.mono ?_
  rintro e w1 ⟨rfl, hb⟩
  have HB1 := hide hb
  clear hb HC
  go_wp2_with fail
  go_ret
  exact ⟨rfl, HB.out.trans (HB1.out.mono (by simp))⟩
theorem And_Text (x : Ex) (g n cap : Nat) (w : World) (h : IsEx (fun _ => True) w x (.iface 94 (.slice (some ⟨g, 0, none⟩) n cap))) (hlen : x.text.length ≤ 1000000) :
    Calls Tryd.prog 136 #[.slice (some ⟨g, 0, none⟩) n cap] w fun e w' => e = .returned (.string ⟨x.text.toArray⟩) ∧ Below w.heap.size w w' := by
  have HC := hide (written_any x _ _ h hlen)
  clear h
  go_enter Tryd.func136, Tryd.ntmps136
  go_wp2_with fail
  refine HC.out.mono ?_
  rintro e w1 ⟨rfl, hb⟩
  have HB1 := hide hb
  clear hb HC
  go_wp2_with fail
  go_ret
  exact ⟨rfl, HB1.out⟩
theorem Or_Text (x : Ex) (g n cap : Nat) (w : World) (h : IsEx (fun _ => True) w x (.iface 76 (.slice (some ⟨g, 0, none⟩) n cap))) (hlen : x.text.length ≤ 1000000) :
    Calls Tryd.prog 125 #[.slice (some ⟨g, 0, none⟩) n cap] w fun e w' => e = .returned (.string ⟨x.text.toArray⟩) ∧ Below w.heap.size w w' := by
  have HC := hide (written_any x _ _ h hlen)
  clear h
  go_enter Tryd.func125, Tryd.ntmps125
  go_wp2_with fail
  refine HC.out.mono ?_
  rintro e w1 ⟨rfl, hb⟩
  have HB1 := hide hb
  clear hb HC
  go_wp2_with fail
  go_ret
  exact ⟨rfl, HB1.out⟩
theorem entered_Not : Entered 135 := fun _ _ => by kernel_rfl
theorem entered_And : Entered 136 := fun _ _ => by kernel_rfl
theorem entered_Or : Entered 125 := fun _ _ => by kernel_rfl
/-- Text, at every expression: the plain function 'text' -/
theorem Text_any (ok : Nat → Prop) (x : Ex) (v : Value) (w : World) (h : IsEx ok w x v) (hlen : x.text.length ≤ 1000000) :
    Calls Tryd.prog 8 #[v] w fun e w' => e = .returned (.string ⟨x.text.toArray⟩) ∧ Below w.heap.size w w' := by
  by_cases hk : x.kind ≤ 4
  · exact Text_leaf ok x v w h hk
  have h' : IsEx (fun _ => True) w x v := IsEx.stay (fun g i u _ hc => hc) (fun g _ => trivial) x v h
  have hst : ∀ w2, Below w.heap.size w w2 → IsEx (fun _ => True) w2 x v := fun w2 hb => IsEx.stay (Stay.below hb) (fun g hg => hg) x v h'
  obtain ⟨k, nm, l⟩ := x
  match k, h, hk with
  | 5, h, _ =>
    simp only [IsEx] at h
    obtain ⟨_, _, u, rfl, _⟩ := h
    exact Text_of _ 135 _ _ w (fun _ => by kernel_rfl) entered_Not (fun w2 hb => Not_Text _ u w2 (hst w2 hb) hlen)
  | 6, h, _ =>
    simp only [IsEx] at h
    obtain ⟨_, _, _, g, cap, rfl, _⟩ := h
    exact Text_of _ 136 _ _ w (fun _ => by kernel_rfl) entered_And (fun w2 hb => And_Text _ g _ cap w2 (hst w2 hb) hlen)
  | 7, h, _ =>
    simp only [IsEx] at h
    obtain ⟨_, _, _, g, cap, rfl, _⟩ := h
    exact Text_of _ 125 _ _ w (fun _ => by kernel_rfl) entered_Or (fun w2 hb => Or_Text _ g _ cap w2 (hst w2 hb) hlen)
  | n + 8, h, _ => simp only [IsEx] at h
  | 0, _, hk => exact absurd (by simp) hk
  | 1, _, hk => exact absurd (by simp) hk
  | 2, _, hk => exact absurd (by simp) hk
  | 3, _, hk => exact absurd (by simp) hk
  | 4, _, hk => exact absurd (by simp) hk
end Go.Proofs.YtmchohajfgemcaaDoor
