/-
  The walk of the statement BlockParts.
-/
import Derived.Test.YtdeijfkahhgojaaDoorRkPart
import Derived.Test.YtdeijfkahhgojaaDoorRkAt
import Derived.Deep.Cut
import Derived.Deep.DeepCutAuto
import Derived.Deep.CutRange
import Derived.Deep.RegionHeldLaw
import Derived.Test.YtdeijfkahhgojaaDoorBkParts
import Derived.Test.YtdeijfkahhgojaaDoorBkTell
import Derived.Test.YtdeijfkahhgojaaDoorBkLeast
namespace Go.Proofs.YtdeijfkahhgojaaDoor
namespace Bk
open Go.RowKit ErAs
theorem ErrIs.form {w : World} {v : Value} {r : Option (Nat × Option Nat)} (h : ErrIs w v r) (hr : r ≠ none) : ∃ t y, v = .iface t y := h.iface hr
theorem check_two {N T : List (List Int)} {e : Nat} {p : Option Nat} (h : check N T = some (e, p)) : e = 2 ∨ e = 3 ∨ e = 4 := by
  unfold check at h
  split at h
  · simp only [Option.some.injEq, Prod.mk.injEq] at h; omega
  · split at h
    · simp only [Option.some.injEq, Prod.mk.injEq] at h; omega
    · obtain ⟨s, _, hs⟩ := List.exists_of_findSome?_eq_some h
      rw [Option.map_eq_some_iff] at hs
      obtain ⟨e', he, hx⟩ := hs
      simp only [Prod.mk.injEq] at hx
      obtain ⟨rfl, _⟩ := hx
      unfold badAt rowBad at he
      split at he
      · split at he
        · cases he; exact .inl rfl
        · cases he
      · cases he; exact .inr (.inl rfl)
theorem nilI (w : World) : Ints w (.slice none 0 0) [] := Ints.nil _ _ _
/-- what Part comes to, in one form -/
def PSum (N T : List (List Int)) (a b : Int) (r : Option (Nat × Option Nat)) (pl : List Int) : Prop :=
  (check N T ≠ none ∧ r = check N T ∧ pl = []) ∨ (check N T = none ∧ (hasB N.length a && hasB N.length b) = false ∧ r = some (2, none) ∧ pl = []) ∨
  (check N T = none ∧ ∃ x y : Nat, a = (x : Int) ∧ b = (y : Int) ∧ x < N.length ∧ y < N.length ∧ ((Alike (tab N T) x y ∧ r = some (8, none) ∧ pl = []) ∨ ∃ M K i m, Found (tab N T) x y M K i m ∧ r = none ∧ pl = ints (pathTo M K ++ [i])))
theorem part_sum {w w' : World} {N T : List (List Int)} {a b : Int} {e : Ending} (h : PartsDone w N T a b e w') : Below w.heap.size w w' ∧ ∃ pa pc pl ev r, e = .returned (.tuple #[.slice pa pl.length pc, ev]) ∧ ErrIs w' ev r ∧ Ints w' (.slice pa pl.length pc) pl ∧ PSum N T a b r pl := by
  obtain ⟨hb, h⟩ := h
  refine ⟨hb, ?_⟩
  rcases h with ⟨h1, v, rfl, h2⟩ | ⟨h1, h2, rfl⟩ | ⟨h1, x, y, h2, h3, h4, h5, h6, rfl⟩ | ⟨h1, x, y, h2, h3, h4, h5, M, K, i, m, g, c, h6, rfl, h7⟩
  · exact ⟨none, 0, [], v, _, rfl, h2, nilI _, .inl ⟨h1, rfl, rfl⟩⟩
  · exact ⟨none, 0, [], _, some (2, none), rfl, rfl, nilI _, .inr (.inl ⟨h1, h2, rfl, rfl⟩)⟩
  · exact ⟨none, 0, [], _, some (8, none), rfl, rfl, nilI _, .inr (.inr ⟨h1, x, y, h2, h3, h4, h5, .inl ⟨h6, rfl, rfl⟩⟩)⟩
  · have hl : (ints (pathTo M K ++ [i])).length = (pathTo M K).length + 1 := by rw [ints_len, List.length_append]; rfl
    have hk := (good_of h1).ins
    have hpl : (pathTo M K).length ≤ 500 * 500 := by have h1 := path_len h6.inv K m h6.here; have h2 := (List.getElem?_eq_some_iff.1 h6.here).1; have := h6.few; omega
    refine ⟨some ⟨g, 0, none⟩, c, _, .nilIface, none, by rw [hl], rfl, ?_, .inr (.inr ⟨h1, x, y, h2, h3, h4, h5, .inr ⟨M, K, i, m, h6, rfl, rfl⟩⟩)⟩
    rw [hl]
    refine Rw.ints h7 (by rw [hl]; unfold maxLen; omega) (fun z hz => ?_)
    have h9 : (tab N T).k ≤ 64 := hk
    have := ints_mem _ _ h6.parts.2.2.2 z hz
    unfold I64; omega
/-- what Tell comes to, in one form -/
def TSum (N T : List (List Int)) (s : Int) (l : List Int) (r : Option (Nat × Option Nat)) (tl : List Int) : Prop :=
  (check N T ≠ none ∧ r = check N T ∧ tl = []) ∨ (check N T = none ∧ (hasB N.length s && insB (N.getD 0 []).length l) = false ∧ r = some (2, none) ∧ tl = []) ∨
  (check N T = none ∧ ∃ (x : Nat) (ls : List Nat), s = (x : Int) ∧ x < N.length ∧ l = ints ls ∧ (∀ i, i ∈ ls → i < (tab N T).k) ∧ r = none ∧ tl = tell (tab N T) x ls)
/-- what is told is small -/
def SmallT (T : List (List Int)) : Prop := ∀ s (hs : s < T.length) x, x ∈ T[s] → I64 x
theorem tl_small {N T : List (List Int)} (hG : Good N T) (hs : SmallT T) (s i : Nat) (h1 : s < N.length) (h2 : i < (N.getD 0 []).length) : I64 ((tab N T).tl s i) := by
  have h := hG.told s h1 i h2
  have hsT : s < T.length := by rw [hG.tells]; exact h1
  rw [getD_in _ _ _ hsT] at h
  exact hs s hsT _ (List.mem_of_getElem? h)
theorem tell_small2 {N T : List (List Int)} (hG : Good N T) (hs : SmallT T) : ∀ (ls : List Nat) (x : Nat), x < N.length → (∀ i, i ∈ ls → i < (tab N T).k) → ∀ z, z ∈ tell (tab N T) x ls → I64 z
  | [], _, _, _, z, hz => by simp [tell] at hz
  | i :: r, x, hx, hi, z, hz => by
    rw [tell] at hz
    rcases List.mem_cons.1 hz with rfl | hz
    · exact tl_small hG hs x i hx (hi i (by simp))
    · exact tell_small2 hG hs r _ (hG.ok x hx i (hi i (by simp))) (fun j hj => hi j (by simp [hj])) z hz
theorem tell_sum {w w' : World} {N T : List (List Int)} {s : Int} {l : List Int} {e : Ending} (hl : l.length ≤ maxLen) (hs : SmallT T) (h : TellDone w N T s l e w') : Below w.heap.size w w' ∧ ∃ pa pc tl ev r, e = .returned (.tuple #[.slice pa tl.length pc, ev]) ∧ ErrIs w' ev r ∧ Ints w' (.slice pa tl.length pc) tl ∧ TSum N T s l r tl := by
  obtain ⟨hb, h⟩ := h
  refine ⟨hb, ?_⟩
  rcases h with ⟨h1, v, rfl, h2⟩ | ⟨h1, h2, rfl⟩ | ⟨h1, x, ls, g, h2, h3, h4, h5, rfl, h6, _⟩
  · exact ⟨none, 0, [], v, _, rfl, h2, nilI _, .inl ⟨h1, rfl, rfl⟩⟩
  · exact ⟨none, 0, [], _, some (2, none), rfl, rfl, nilI _, .inr (.inl ⟨h1, h2, rfl, rfl⟩)⟩
  · have hl2 : (tell (tab N T) x ls).length = l.length := by rw [tell_len, h4, ints_len]
    refine ⟨some ⟨g, 0, none⟩, l.length, _, .nilIface, none, by rw [hl2], rfl, ?_, .inr (.inr ⟨h1, x, ls, h2, h3, h4, h5, rfl, rfl⟩)⟩
    have := ints_row h6 (by rw [hl2]; exact hl) (fun z hz => tell_small2 (good_of h1) hs ls x h3 h5 z hz)
    rw [hl2] at this ⊢
    exact this
set_option maxHeartbeats 16000000 in
set_option maxRecDepth 100000 in
theorem blockParts_any (N T : List (List Int)) (nv tv sv : Value) (a b : Int) (l : List Int) (w : World) (hN : Rows w nv N) (hT : Rows w tv T) (hI : Ints w sv l) (hf : Fine w) (hg : Door w) :
    Calls Tryd.prog 4 #[.agg #[nv, tv], .int .i64 a, .int .i64 b, sv] w fun e w' => e = .returned (.bool true) ∧ Below w.heap.size w w' := by
  obtain ⟨i0, hi0, hz0, hz1, hz2⟩ := info_parts Tryd.infoInt
  obtain ⟨wA, hwA⟩ : ∃ wA, wA = w.alloc (.cells #[nv, tv] 24) := ⟨_, rfl⟩
  have hBA : Below w.heap.size w wA := by rw [hwA]; exact (Below.refl _ _).alloc (Nat.le_refl _) _
  have hTA : Tab wA w.heap.size nv tv := by rw [hwA]; exact Tab.new _ _ _
  have HTC := hide (tables_any N T nv tv wA (hN.below hBA) (hT.below hBA) (hf.below hBA))
  have HNA := hide (hN.below hBA)
  have HTT := hide (hT.below hBA)
  have HIA := hide (hI.below hBA)
  have HGA := hide (door_kept hg hBA)
  have HTA := hide hTA
  have HBA := hide hBA
  have hlI := hI.len
  have HSM : Hid (SmallT T) := fun s hs x hx => hT.small s hs x hx
  obtain ⟨na, nc, rfl⟩ := hN.slice
  obtain ⟨ta, tc, rfl⟩ := hT.slice
  obtain ⟨sa, sc, rfl⟩ := hI.slice
  obtain ⟨t0, t1⟩ := hTA
  clear hN hT hI hf hg hBA
  go_enter Tryd.func4, Tryd.ntmps4
  go_wp2_with fail
  rw [← hwA]
  clear hwA
  refine HTC.out.mono ?_
  rintro e w1 ⟨hb1, E, P, ok, rfl, hok⟩
  obtain ⟨w2, hw2⟩ : ∃ w2, w2 = w1.alloc (.cells #[.slice na N.length nc, .slice ta T.length tc] 25) := ⟨_, rfl⟩
  obtain ⟨w3, hw3⟩ : ∃ w3, w3 = w2.alloc (.cells #[.int .i64 E, .int .i64 P] 28) := ⟨_, rfl⟩
  have hzw2 : w2.heap.size = w1.heap.size + 1 := by rw [hw2]; simp
  have hb2 : Below w1.heap.size w1 w2 := by rw [hw2]; exact (Below.refl _ _).alloc (Nat.le_refl _) _
  have hb3 : Below w2.heap.size w2 w3 := by rw [hw3]; exact (Below.refl _ _).alloc (Nat.le_refl _) _
  have HB3 : Hid (Below wA.heap.size wA w3) := then_ hb1 (then_ hb2 hb3)
  have HR2 : Hid (RowIs w3 w1.heap.size 25 [.slice na N.length nc, .slice ta T.length tc]) := (by rw [hw2]; exact RowIs.new _ _ _ : RowIs w2 _ _ _).below hb3
  have HR3 : Hid (RowIs w3 (w1.heap.size + 1) 28 [.int .i64 E, .int .i64 P]) := by rw [hw3, ← hzw2]; exact RowIs.new _ _ _
  have HOK := hide hok
  obtain ⟨s0, s1⟩ := HTA.out.below hb1
  have s0' := fun o o' => cell_alloc_keep (w1.alloc o) o' _ _ (cell_alloc_keep w1 o _ _ s0)
  have s1' := fun o o' => cell_alloc_keep (w1.alloc o) o' _ _ (cell_alloc_keep w1 o _ _ s1)
  clear hb1 hb2 hb3 hok
  cases ok with
  | false =>
    have HFE : Hid (Below w.heap.size w w3) := then_ HBA.out HB3.out
    go_wp2_with fail
    rw [← hw2, ← hw3]
    go_ret
    exact ⟨rfl, HFE.out⟩
  | true =>
    obtain ⟨hE, hP, hfew⟩ := HOK.out rfl
    have HE := hide hE
    have HP := hide hP
    have HFEW := hide hfew
    clear hE hP hfew HOK
    by_cases hl60 : 60 < l.length
    · have hli : (60 : Int) < (l.length : Int) := by omega
      have HFE : Hid (Below w.heap.size w w3) := then_ HBA.out HB3.out
      go_wp2_with fail
      rw [← hw2, ← hw3]
      go_ret
      exact ⟨rfl, HFE.out⟩
    · have hli : ¬ (60 : Int) < (l.length : Int) := by omega
      have HBW3 : Hid (Below w.heap.size w w3) := then_ HBA.out HB3.out
      have HPA := hide (Part_any N T (.slice na N.length nc) (.slice ta T.length tc) a b w3 (HNA.out.below HB3.out) (HTT.out.below HB3.out))
      obtain ⟨t0, t1⟩ := HTA.out.below HB3.out
      go_wp2_with fail
      rw [← hw2, ← hw3]
      clear hw2 hw3
      refine HPA.out.mono ?_
      intro e w4 hpd
      obtain ⟨hb4, pa, pc, pl, ev1, r1, rfl, her1, hpi, hps⟩ := part_sum hpd
      have HB4 := hide (then_ HB3.out hb4)
      have HER1 := hide her1
      have HPI := hide hpi
      have HPS := hide hps
      have HTE := hide (Tell_any N T (.slice na N.length nc) (.slice ta T.length tc) (.slice sa l.length sc) a l w4 (HNA.out.below HB4.out) (HTT.out.below HB4.out) (HIA.out.below HB4.out) (by omega))
      obtain ⟨t0, t1⟩ := HTA.out.below HB4.out
      have HR2' := hide (HR2.out.below hb4)
      have HR3' := hide (HR3.out.below hb4)
      clear hb4 hpd her1 hpi hps HPA HR2 HR3 s0' s1'
      go_wp2_with fail
      refine HTE.out.mono ?_
      intro e w5 htd
      obtain ⟨hb5, qa, qc, tl, ev2, r2, rfl, her2, hqi, hts⟩ := tell_sum hlI HSM.out htd
      have HB5 := hide (then_ HB4.out hb5)
      have HER1' := hide (HER1.out.below hb5)
      have HPI' := hide (HPI.out.below hb5)
      have HER2 := hide her2
      have HQI := hide hqi
      have HTS := hide hts
      have HR2 := hide (HR2'.out.below hb5)
      have HR3 := hide (HR3'.out.below hb5)
      obtain ⟨t0, t1⟩ := HTA.out.below HB5.out
      clear hb5 htd her2 hqi hts HTE HR2' HR3'
      have f0 := HR3.out.cell 0 _ rfl
      have f1 := HR3.out.cell 1 _ rfl
      have HG5 := hide (door_kept HGA.out HB5.out)
      cases hck : check N T with
      | some r =>
        obtain ⟨e0, p0⟩ := r
        have hx1 : r1 = check N T ∧ pl = [] := by
          rcases HPS.out with ⟨_, h1, h2⟩ | ⟨h1, _⟩ | ⟨h1, _⟩
          · exact ⟨h1, h2⟩
          · rw [hck] at h1; cases h1
          · rw [hck] at h1; cases h1
        have hx2 : r2 = check N T ∧ tl = [] := by
          rcases HTS.out with ⟨_, h1, h2⟩ | ⟨h1, _⟩ | ⟨h1, _⟩
          · exact ⟨h1, h2⟩
          · rw [hck] at h1; cases h1
          · rw [hck] at h1; cases h1
        obtain ⟨rfl, rfl⟩ := hx1
        obtain ⟨rfl, rfl⟩ := hx2
        have hE0 : ¬ E = 0 := by
          have h := check_two hck
          have h2 := HE.out
          rw [hck] at h2
          have h3 : fltE (some (e0, p0)) = (e0 : Int) := rfl
          rw [h3] at h2
          omega
        have hE1 : (E != 0) = true := by simpa using hE0
        have HA1 : Hid (∀ W, Below w5.heap.size w5 W → Calls Tryd.prog 8 #[ev1, .agg #[.int .i64 E, .int .i64 P]] W fun x w' => x = .returned (.bool true) ∧ Below W.heap.size W w') := fun W hW => by
          have h := atf_any (check N T) ev1 W (door_kept HG5.out hW) (HER1'.out.below hW)
          rw [← HE.out, ← HP.out] at h
          exact h
        have HA2 : Hid (∀ W, Below w5.heap.size w5 W → Calls Tryd.prog 8 #[ev2, .agg #[.int .i64 E, .int .i64 P]] W fun x w' => x = .returned (.bool true) ∧ Below W.heap.size W w') := fun W hW => by
          have h := atf_any (check N T) ev2 W (door_kept HG5.out hW) (HER2.out.below hW)
          rw [← HE.out, ← HP.out] at h
          exact h
        have HBW5 := hide (then_ HBA.out HB5.out)
        have HEF := hide (err_form HER1'.out)
        have HEF2 := hide (err_form HER2.out)
        clear HPS HTS hE0 HER1 HER1' HER2
        go_wp2_with fail
        refine (HA1.out _ (Below.refl _ _)).mono ?_
        rintro x w6 ⟨rfl, hb6⟩
        have f0 := (HR3.out.below hb6).cell 0 _ rfl
        have f1 := (HR3.out.below hb6).cell 1 _ rfl
        have HB6 := hide hb6
        clear hb6
        go_wp2_with fail
        refine (HA2.out _ HB6.out).mono ?_
        rintro x w7 ⟨rfl, hb7⟩
        have HB7 := hide (then_ HBW5.out (then_ HB6.out hb7))
        clear hb7
        go_wp2_with fail
        go_ret
        exact ⟨rfl, HB7.out⟩
      | none =>
        have hG := good_of hck
        have HG := hide hG
        have HCK := hide hck
        have hE0 : E = 0 := by rw [HE.out, hck]; rfl
        have hP0 : P = -1 := by rw [HP.out, hck]; rfl
        obtain ⟨hN30, hk8⟩ := HFEW.out hck
        subst hE0
        subst hP0
        have HN5 := hide (HNA.out.below HB5.out)
        have HT5 := hide (HTT.out.below HB5.out)
        have HI5 := hide (HIA.out.below HB5.out)
        obtain ⟨gN, oN, nc', hnv⟩ := HN5.out.base hG.pos
        simp only [Value.slice.injEq] at hnv
        obtain ⟨rfl, _, rfl⟩ := hnv
        obtain ⟨gT, oT, tc', htv⟩ := HT5.out.base (by have := hG.tells; have := hG.pos; omega)
        simp only [Value.slice.injEq] at htv
        obtain ⟨rfl, _, rfl⟩ := htv
        clear hck hG HER1 HPI HE HP HFEW
        have HRP := hide (fun (x y : Nat) (hx : x < N.length) (hy : y < N.length) => RPart_any N T (.slice (some ⟨gN, oN, none⟩) N.length nc) (.slice (some ⟨gT, oT, none⟩) T.length tc) x y w5 HG.out HN5.out HT5.out hx hy)
        have HPB : Hid (fltP r1 = -1) := by
          rcases HPS.out with ⟨h1, _⟩ | ⟨_, _, rfl, _⟩ | ⟨_, x, y, _, _, _, _, ⟨_, rfl, _⟩ | ⟨M, K, i, m, _, rfl, _⟩⟩
          · exact absurd HCK.out h1
          · rfl
          · rfl
          · rfl
        have c0 := HR2.out.cell 0 _ rfl
        have c1 := HR2.out.cell 1 _ rfl
        obtain ⟨n, hn⟩ : ∃ n, n = N.length := ⟨_, rfl⟩
        have HNn := hide hn
        go_upto_region 10 with fail
        rename_i hK0
        have HK0 := hide hK0
        clear hK0
        go_wp2_with fail
        refine HK0.out _ _ ?_
        clear HK0
        refine wp_seq_k (fun K2 hK2 => ?_)
        have HK2 := hide hK2
        clear hK2
        go_cut [17, 18] from 70 to 94 (fun ev wv wx => ev = .int .i64 (fltE r1) ∧ (∃ va vc, wv = .slice va pl.length vc ∧ Hid (Ints wx (.slice va pl.length vc) pl)) ∧ Hid (Below w5.heap.size w5 wx))
        case first =>
          clear HK2
          rcases HPS.out with ⟨h1, _⟩ | ⟨_, hh, rfl, rfl⟩ | ⟨_, x, y, rfl, rfl, hx, hy, hres⟩
          · exact absurd HCK.out h1
          · have hin : a < 0 ∨ (0 ≤ a ∧ (N.length : Int) ≤ a) ∨ (0 ≤ a ∧ a < (N.length : Int) ∧ b < 0) ∨ (0 ≤ a ∧ a < (N.length : Int) ∧ 0 ≤ b ∧ (N.length : Int) ≤ b) := by
              have h2 : ¬ ((0 ≤ a ∧ a < (N.length : Int)) ∧ (0 ≤ b ∧ b < (N.length : Int))) := fun h3 => by
                have : (hasB N.length a && hasB N.length b) = true := by simp [hasB]; omega
                rw [this] at hh; cases hh
              omega
            have HREL : Hid ((∃ va vc, Value.slice none 0 0 = .slice va ([] : List Int).length vc ∧ Hid (Ints w5 (.slice va ([] : List Int).length vc) [])) ∧ Hid (Below w5.heap.size w5 w5)) := ⟨⟨none, 0, rfl, nilI _⟩, Below.refl _ _⟩
            rw [← hn] at *
            clear hh HRP
            rcases hin with h1 | ⟨h1, h2⟩ | ⟨h1, h2, h3⟩ | ⟨h1, h2, h3, h4⟩
            all_goals
              go_wp2_with fail
              go_meet
              exact ⟨rfl, HREL.out⟩
          · have HR := hide (HRP.out x y hx hy)
            have hx0 : ¬ (x : Int) < 0 := by omega
            have hy0 : ¬ (y : Int) < 0 := by omega
            have hxn : ¬ (N.length : Int) ≤ (x : Int) := by omega
            have hyn : ¬ (N.length : Int) ≤ (y : Int) := by omega
            have hxN := hx
            have hyN := hy
            clear HRP
            go_wp2_with fail
            refine HR.out.mono ?_
            rintro e w6 ⟨hb6, D, hst, hcase⟩
            have HB6 := hide hb6
            rcases hcase with ⟨hlv, rfl⟩ | ⟨hlv, v, rfl, hrw⟩
            · rcases hres with ⟨hal, rfl, rfl⟩ | ⟨M, K, i, m, hF, rfl, rfl⟩
              · have HREL : Hid ((∃ va vc, Value.slice none 0 0 = .slice va ([] : List Int).length vc ∧ Hid (Ints w6 (.slice va ([] : List Int).length vc) [])) ∧ Hid (Below w5.heap.size w5 w6)) := ⟨⟨none, 0, rfl, nilI _⟩, HB6.out⟩
                clear hst hlv hal hb6 hx hy hxN hyN
                go_wp2_with fail
                go_meet
                exact ⟨rfl, HREL.out⟩
              · exact absurd (part_is hF hst hxN hyN).1 (by omega)
            · rcases hres with ⟨hal, rfl, rfl⟩ | ⟨M, K, i, m, hF, rfl, rfl⟩
              · exact absurd (part_none (D := D) hal) (by omega)
              · have hpi := (part_is hF hst hxN hyN).2
                rw [hpi] at hrw
                obtain ⟨va, vc, rfl⟩ := own_slice hrw
                have hk := HG.out.ins
                have hpl : (pathTo M K).length ≤ 500 * 500 := by have h1 := path_len hF.inv K m hF.here; have h2 := (List.getElem?_eq_some_iff.1 hF.here).1; have := hF.few; omega
                have HREL : Hid ((∃ va' vc', Value.slice va (ints (pathTo M K ++ [i])).length vc = .slice va' (ints (pathTo M K ++ [i])).length vc' ∧ Hid (Ints w6 (.slice va' (ints (pathTo M K ++ [i])).length vc') (ints (pathTo M K ++ [i])))) ∧ Hid (Below w5.heap.size w5 w6)) := ⟨⟨va, vc, rfl, Rw.ints hrw (by rw [ints_len, List.length_append]; unfold maxLen; simp; omega) (fun z hz => by
                  have h9 : (tab N T).k ≤ 64 := hk
                  have := ints_mem _ _ hF.parts.2.2.2 z hz
                  unfold I64; omega)⟩, HB6.out⟩
                clear hst hlv hF hb6 hx hy hxN hyN hpi hrw hpl
                generalize ints (pathTo M K ++ [i]) = pl at *
                go_wp2_with fail
                go_meet
                exact ⟨rfl, HREL.out⟩
        case rest =>
          obtain ⟨rfl, ⟨va, vc, rfl, HVI⟩, HBC⟩ := hcut
          obtain ⟨w6, rfl⟩ : ∃ w6, w6 = wc := ⟨wc, rfl⟩
          have HBR := hide (bare_any r1 ev1 w6 (door_kept HG5.out HBC.out) (HER1'.out.below HBC.out) HPB.out)
          have HSI := hide (fun W (hW : Below w6.heap.size w6 W) => lsameI_any pl _ _ W (HPI'.out.below (then_ HBC.out hW)) (HVI.out.below hW))
          have HEF := hide (err_form HER1'.out)
          refine HK2.out _ _ ?_
          clear HK2 HRP c0 c1 t0 t1 f0 f1
          go_wp2_with fail
          refine HBR.out.mono ?_
          rintro e w7 ⟨rfl, hb7⟩
          have HB7 := hide hb7
          have HS7 := hide (HSI.out w7 hb7)
          clear hb7
          go_wp2_with fail
          refine HS7.out.mono ?_
          rintro e w8 ⟨rfl, hb8⟩
          have HB8 := hide (then_ HBC.out (then_ HB7.out hb8))
          have HBW8 := hide (then_ HBA.out (then_ HB5.out HB8.out))
          clear hb8 HBR HSI HS7 HEF HVI HPI' HER1' HPS HPB
          have HER2' := hide (HER2.out.below HB8.out)
          have HQI' := hide (HQI.out.below HB8.out)
          have HG8 := hide (door_kept HG5.out HB8.out)
          have HN8 := hide (HN5.out.below HB8.out)
          have HT8 := hide (HT5.out.below HB8.out)
          have HI8 := hide (HI5.out.below HB8.out)
          have HTA8 := hide (HTA.out.below (then_ HB5.out HB8.out))
          have HEND : Hid (∀ W v r tl', Below w8.heap.size w8 W → r2 = r → tl = tl' → fltP r = -1 → Ints W v tl' → (Calls Tryd.prog 17 #[ev2, .int .i64 (fltE r)] W fun x w' => x = .returned (.bool true) ∧ Below W.heap.size W w') ∧ ∀ W2, Below W.heap.size W W2 → Calls Tryd.prog 11 #[.slice qa tl.length qc, v] W2 fun e w' => e = .returned (.bool true) ∧ Below W2.heap.size W2 w') := fun W v r tl' hW h1 h2 h3 h4 => by
            subst h1
            subst h2
            exact ⟨bare_any r2 ev2 W (door_kept HG8.out hW) (HER2'.out.below hW) h3, fun W2 hW2 => lsameI_any tl _ _ W2 (HQI'.out.below (then_ hW hW2)) (h4.below hW2)⟩
          have HEF2 := hide (err_form HER2'.out)
          by_cases ha : hasB N.length a = true
          · obtain ⟨x, rfl, hx⟩ := hasB_nat2 ha
            have hx0 : ¬ (x : Int) < 0 := by omega
            have hxn : ¬ (N.length : Int) ≤ (x : Int) := by omega
            obtain ⟨k, hk⟩ : ∃ k, k = (N.getD 0 []).length := ⟨_, rfl⟩
            have HK := hide hk
            have HTK : Hid ((tab N T).k = k) := hk.symm
            rw [← hk] at hk8
            have hxnn : ¬ N.length ≤ x := by omega
            have hxb : Decidable.decide ((x : Int) < 0) = false := decide_eq_false hx0
            have hxnb : Decidable.decide ((N.length : Int) ≤ (x : Int)) = false := decide_eq_false hxn
            have hxnb2 : Decidable.decide (N.length ≤ x) = false := decide_eq_false hxnn
            clear ha hk
            go_wp2_with fail
            clear hxnn hxb hxnb hxnb2
            go_loopw [17, 18, 19, 20] (fun ev wv iv sv wr => ∃ (i s : Nat) (pre : List Nat), i ≤ l.length ∧ ev = .int .i64 0 ∧ iv = .int .i64 (i : Int) ∧ sv = .int .i64 (s : Int) ∧ Hid (goes (tab N T) x pre = s) ∧ Hid (pre.length = i) ∧ (∃ a c, wv = .slice a i c) ∧ Hid (ints pre = l.take i) ∧ Hid (∀ j, j ∈ pre → j < k) ∧ Hid (Rw wr w8.heap.size wv (tell (tab N T) x pre)) ∧ Hid (Below w8.heap.size w8 wr)) (fun _ _ iv _ _ => l.length - (intOf iv).toNat)
            case atStart => exact ⟨0, x, [], Nat.zero_le _, rfl, rfl, rfl, rfl, rfl, ⟨_, _, rfl⟩, by show _ = _; simp [ints], fun j hj => by simp at hj, World.ownsRow_nil _ _ _ _, Below.refl _ _⟩
            case round =>
              obtain ⟨i, s, pre, hi, rfl, rfl, rfl, HSS, HPLL, ⟨wa, wc, rfl⟩, HPRE, HPK, HW, HB⟩ := hrel
              have hgs : s < N.length := by have h := goes_lt HG.out.ok pre x hx (fun j hj => by rw [HTK.out]; exact HPK.out j hj); rw [HSS.out] at h; exact h
              obtain ⟨wq, hwq⟩ : ∃ wq, wq = wr := ⟨_, rfl⟩
              subst hwq
              have HTL0 : Hid ((tell (tab N T) x pre).length = i) := by show _ = _; rw [tell_len, HPLL.out]
              by_cases hil : i < l.length
              · have hili : (i : Int) < (l.length : Int) := by omega
                obtain ⟨gi, oi, rfl, ci, hvi⟩ := (HI8.out.below HB.out).cell i _ (List.getElem?_eq_getElem hil)
                obtain ⟨t0, t1⟩ := HTA8.out.below HB.out
                obtain ⟨u0, d0, cr0, _⟩ := (HN8.out.below HB.out).at 0 HG.out.pos
                rw [← HK.out] at cr0
                simp only [Nat.add_zero] at cr0
                have hpos : (0 : Int) < (N.length : Int) := by have := HG.out.pos; omega
                by_cases hbad : hasB k l[i] = true
                · obtain ⟨v, hv, hvk⟩ := hasB_nat2 hbad
                  rw [hv] at ci
                  have HLT : Hid (T.length = N.length) := HG.out.tells
                  obtain ⟨gi', oi', ei', ci', _⟩ := HI8.out.cell i _ (List.getElem?_eq_getElem hil)
                  simp only [Option.some.injEq, Addr.mk.injEq, and_true] at ei'
                  obtain ⟨rfl, rfl⟩ := ei'
                  rw [hv] at ci'
                  obtain ⟨un, dn, cn, inn⟩ := HN8.out.at s hgs
                  obtain ⟨ut, dt, ct, itt⟩ := HT8.out.at s (by rw [HLT.out]; exact hgs)
                  obtain ⟨tb0, tb1⟩ := HTA8.out
                  have hrw := HG.out.rows s hgs
                  rw [← HK.out] at hrw
                  rw [hrw.1] at cn inn
                  rw [hrw.2.1] at ct itt
                  have hvk2 : v < (N.getD 0 []).length := by rw [← HK.out]; exact hvk
                  have hnx := HG.out.next s hgs v hvk2
                  have htl := HG.out.told s hgs v hvk2
                  obtain ⟨g1, o1, rfl, d1, _⟩ := inn.cell v _ hnx
                  obtain ⟨g2, o2, rfl, d2, hi64⟩ := itt.cell v _ htl
                  have HPN : Hid (ints (pre ++ [v]) = l.take (i + 1)) := by
                    show _ = _
                    rw [ints_snoc, HPRE.out, List.take_succ_eq_append_getElem hil, hv]
                  have HKN : Hid (∀ j, j ∈ pre ++ [v] → j < k) := fun j hj => by
                    rcases List.mem_append.1 hj with h | h
                    · exact HPK.out j h
                    · simp only [List.mem_cons, List.not_mem_nil, or_false] at h
                      subst h; exact hvk
                  have HTN : Hid (tell (tab N T) x (pre ++ [v]) = tell (tab N T) x pre ++ [(tab N T).tl s v]) := by show _ = _; rw [tell_snoc, HSS.out]
                  have HGN : Hid (goes (tab N T) x (pre ++ [v]) = (tab N T).nx s v) := by show _ = _; rw [goes_snoc, HSS.out]
                  have HLN : Hid ((pre ++ [v]).length = i + 1) := by show _ = _; rw [List.length_append, HPLL.out]; rfl
                  have hzq : w8.heap.size ≤ wq.heap.size := HB.out.size
                  have HDQ : Hid (∀ n, Below wq.heap.size wq (wq.drewN n)) := fun n => ⟨rfl, rfl, rfl, Nat.le_refl _, fun _ _ => rfl⟩
                  have HOWN : Hid (∀ W, Below wq.heap.size wq W → W.ownsRow w8.heap.size 3 1 (.slice wa i wc) i ((tell (tab N T) x pre).map intV)) := fun W hW => by
                    have h := own_below HW.out hW
                    rw [HTL0.out] at h
                    exact h
                  generalize (tab N T).tl s v = tv at *
                  generalize (tab N T).nx s v = nxv at *
                  have HONE : Hid (∀ u ∈ [Value.int .i64 tv], u.oneCell' = true) := by
                    intro u hu
                    simp only [List.mem_cons, List.not_mem_nil, or_false] at hu
                    subst hu; rfl
                  have HCW : Hid (∀ W, Below w8.heap.size w8 W → W.cell? ⟨w.heap.size, 0, none⟩ = some (.slice (some ⟨gN, oN, none⟩) N.length nc) ∧ W.cell? ⟨w.heap.size, 1, none⟩ = some (.slice (some ⟨gT, oT, none⟩) T.length tc) ∧ W.cell? ⟨gi, oi + i, none⟩ = some (.int .i64 (v : Int)) ∧ W.cell? ⟨gN, oN + s, none⟩ = some (.slice (some ⟨g1, o1, none⟩) k dn) ∧ W.cell? ⟨gT, oT + s, none⟩ = some (.slice (some ⟨g2, o2, none⟩) k dt) ∧ W.cell? ⟨g1, o1 + v, none⟩ = some (.int .i64 (nxv : Int)) ∧ W.cell? ⟨g2, o2 + v, none⟩ = some (.int .i64 tv)) := fun W hW => ⟨kept hW tb0, kept hW tb1, kept hW ci', kept hW cn, kept hW ct, kept hW d1, kept hW d2⟩
                  have HSW : Hid (∀ W, Below w8.heap.size w8 W → W.cell? ⟨w.heap.size, 1, none⟩ = some (.slice (some ⟨gT, oT, none⟩) T.length tc) ∧ W.cell? ⟨gT, oT + s, none⟩ = some (.slice (some ⟨g2, o2, none⟩) k dt) ∧ W.cell? ⟨gi, oi + i, none⟩ = some (.int .i64 (v : Int)) ∧ W.cell? ⟨g2, o2 + v, none⟩ = some (.int .i64 tv)) := fun W hW => by
                    obtain ⟨a0, a1, a2, a3, a4, a5, a6⟩ := HCW.out W hW
                    exact ⟨a1, a4, a2, a6⟩
                  have HAPP : Hid (∀ (W : World) (o : Obj) (g2 cap2 : Nat) (wC : World), Below wq.heap.size wq W → wC.ownsRow w8.heap.size 3 1 (.slice (some ⟨g2, 0, none⟩) (i + 1) cap2) (i + 1) ((tell (tab N T) x pre).map intV ++ [.int .i64 tv]) → (W.alloc o).grownBy wC (Value.slice wa i wc).ownBlock → Rw wC w8.heap.size (.slice (some ⟨g2, 0, none⟩) (i + 1) cap2) (tell (tab N T) x (pre ++ [v])) ∧ Below w8.heap.size w8 wC) := fun W o g2 cap2 wC hW h1 h2 => by
                    have hz : w8.heap.size ≤ W.heap.size := Nat.le_trans hzq hW.size
                    have h := rw_app (own_below HW.out hW) hz tv o g2 cap2 (by rw [HTL0.out]; exact h1) h2
                    rw [HTL0.out] at h
                    rw [HTN.out]
                    exact ⟨h.1, (then_ HB.out hW).trans h.2⟩
                  have HBD : Hid (∀ n, Below w8.heap.size w8 (wq.drewN n)) := fun n => then_ HB.out (HDQ.out n)
                  have HZD : Hid (∀ n, (wq.drewN n).heap.size = wq.heap.size) := fun _ => rfl
                  have hsi : (s : Int) < (N.length : Int) := by omega
                  have hsT : (s : Int) < (T.length : Int) := by have := HLT.out; omega
                  have hvi2 : (v : Int) < (k : Int) := by omega
                  have hvn : ¬ (v : Int) < 0 := by omega
                  have hvb : Decidable.decide ((v : Int) < 0) = false := decide_eq_false hvn
                  have hvk' : ¬ (k : Int) ≤ (v : Int) := by omega
                  have hvkb : Decidable.decide ((k : Int) ≤ (v : Int)) = false := decide_eq_false hvk'
                  clear hbad hv hrw hnx htl inn itt hvi hi64 HTS HEND cn ct d1 d2 ci' tb0 tb1
                  go_wp2_with fail
                  go_quiet (fail)
                  go_wp2_with fail
                  obtain ⟨wr, hwr⟩ : ∃ wr, wr = wq.drewN nq := ⟨_, rfl⟩
                  have HBr : Hid (Below w8.heap.size w8 wr) := by rw [hwr]; exact HBD.out _
                  have HBqr : Hid (Below wq.heap.size wq wr) := by rw [hwr]; exact HDQ.out _
                  rw [← hwr]
                  clear hwr
                  have HBr2 : Hid (Below w8.heap.size w8 wr.drew) := then_ HBr.out (drewB wr)
                  have HBr3 : Hid (Below wq.heap.size wq wr.drew) := then_ HBqr.out (drewB wr)
                  have HBr4 : Hid (∀ o, Below w8.heap.size w8 (wr.alloc o).drew) := fun o => then_ (HBr.out.alloc HBr.out.size o) (drewB _)
                  have HBr5 : Hid (∀ o, Below wq.heap.size wq (wr.alloc o).drew) := fun o => then_ (HBqr.out.alloc HBqr.out.size o) (drewB _)
                  have HNWS : Hid (∀ o, (wr.alloc o).drew.heap[wr.heap.size]? = some o) := fun o => heap_alloc_new wr o
                  have hzr : w8.heap.size ≤ wr.heap.size := HBr.out.size
                  go_region_held_law (fun W => W.cell? ⟨w.heap.size, 1, none⟩ = some (.slice (some ⟨gT, oT, none⟩) T.length tc) ∧ W.cell? ⟨gT, oT + s, none⟩ = some (.slice (some ⟨g2, o2, none⟩) k dt) ∧ W.cell? ⟨gi, oi + i, none⟩ = some (.int .i64 (v : Int)) ∧ W.cell? ⟨g2, o2 + v, none⟩ = some (.int .i64 tv)) ((refine HSW.out _ ?_; first | exact HA2.out | exact HBr4.out _ | exact HBr2.out | exact HBr.out)) ((refine step_append_lies _ rfl (.tmp 140) (.tmp 152) 31 rfl w8.heap.size 3 i0 _ 1 8 Tryd.underlying31 hi0 hz0 hz1 hz2 rfl (by decide) (.slice wa i wc) i ((tell (tab N T) x pre).map intV) rfl (HOWN.out _ (HBr5.out _)) ⟨wr.heap.size, 0, none⟩ 1 1 [.int .i64 tv] rfl rfl (World.news_of_block (HNWS.out _)) HONE.out (by decide) (by unfold maxLen; omega) (by omega) (by simp; omega) (wr.heap.size + 1) (by simp) ?_; intro g9 cap9 wC hown hgrow hat hltg; obtain ⟨ha1, ha2⟩ := HAPP.out _ _ g9 cap9 wC HBr3.out hown hgrow; have HA1 := hide ha1; have HA2 := hide ha2; clear hown hgrow hat ha1 ha2))
                  all_goals
                    obtain ⟨b0, b1, b2, b3, b4, b5, b6⟩ := HCW.out _ HA2.out
                    simp only [List.getElem_toArray, List.getElem_cons_succ, List.getElem_cons_zero, List.set_cons_zero, List.set_cons_succ, List.setIfInBounds_toArray]
                    go_wp2_with fail
                    go_quiet (fail)
                    go_wp2_with fail
                    go_roundw
                    case rel => exact ⟨i + 1, nxv, pre ++ [v], by omega, rfl, by go_num, rfl, HGN.out, HLN.out, ⟨_, _, rfl⟩, HPN.out, HKN.out, own_below HA1.out ⟨rfl, rfl, rfl, Nat.le_refl _, fun _ _ => rfl⟩, then_ HA2.out ⟨rfl, rfl, rfl, Nat.le_refl _, fun _ _ => rfl⟩⟩
                    case measure => simp [intOf]; omega
                · have hr2 : r2 = some (2, none) ∧ tl = [] := by
                    rcases HTS.out with ⟨h1, _⟩ | ⟨_, _, h1, h2⟩ | ⟨_, y, ls, _, _, h3, h4, _⟩
                    · exact absurd HCK.out h1
                    · exact ⟨h1, h2⟩
                    · exfalso
                      have hmem : l[i] ∈ ints ls := by rw [← h3]; exact List.getElem_mem hil
                      obtain ⟨j, hj, hje⟩ := List.mem_map.1 hmem
                      have := h4 j hj
                      rw [HTK.out] at this
                      refine hbad ?_
                      rw [← hje]
                      simp [hasB]; omega
                  have hf2 : fltE (some (2, none)) = 2 := rfl
                  have HDQ : Hid (∀ n, Below wq.heap.size wq (wq.drewN n)) := fun n => ⟨rfl, rfl, rfl, Nat.le_refl _, fun _ _ => rfl⟩
                  have HE3 := hide (fun n => HEND.out (wq.drewN n) (.slice none 0 0) (some (2, none)) [] (then_ HB.out (HDQ.out n)) hr2.1 hr2.2 rfl (nilI _))
                  rw [hf2] at HE3
                  have HBq : Hid (∀ n, Below w.heap.size w (wq.drewN n)) := fun n => then_ HBW8.out (then_ HB.out (HDQ.out n))
                  have hin : l[i] < 0 ∨ (0 ≤ l[i] ∧ (k : Int) ≤ l[i]) := by simp [hasB] at hbad; omega
                  generalize l[i] = v at *
                  clear hbad hr2 HTS HEND hvi hf2
                  rcases hin with h1 | ⟨h1, h2⟩
                  · have h1b : Decidable.decide (v < 0) = true := decide_eq_true h1
                    go_wp2_with fail
                    go_quiet (fail)
                    go_wp2_with fail
                    refine (HE3.out _).1.mono ?_
                    rintro e w9 ⟨rfl, hb9⟩
                    have HB9 := hide hb9
                    clear hb9
                    go_wp2_with fail
                    refine ((HE3.out _).2 w9 HB9.out).mono ?_
                    rintro e wX ⟨rfl, hbX⟩
                    have HBX := hide (then_ (HBq.out _) (then_ HB9.out hbX))
                    clear hbX
                    go_wp2_with fail
                    go_ret
                    exact ⟨rfl, HBX.out⟩
                  · have h1n : ¬ v < 0 := by omega
                    have h1b : Decidable.decide (v < 0) = false := decide_eq_false h1n
                    have h2b : Decidable.decide ((k : Int) ≤ v) = true := decide_eq_true h2
                    go_wp2_with fail
                    go_quiet (fail)
                    go_wp2_with fail
                    refine (HE3.out _).1.mono ?_
                    rintro e w9 ⟨rfl, hb9⟩
                    have HB9 := hide hb9
                    clear hb9
                    go_wp2_with fail
                    refine ((HE3.out _).2 w9 HB9.out).mono ?_
                    rintro e wX ⟨rfl, hbX⟩
                    have HBX := hide (then_ (HBq.out _) (then_ HB9.out hbX))
                    clear hbX
                    go_wp2_with fail
                    go_ret
                    exact ⟨rfl, HBX.out⟩
              · have hie : i = l.length := by omega
                subst hie
                have hall : ints pre = l := by rw [HPRE.out, List.take_length]
                have hr2 : r2 = none ∧ tl = tell (tab N T) x pre := by
                  rcases HTS.out with ⟨h1, _⟩ | ⟨_, h2, _⟩ | ⟨_, y, ls, h1, _, h3, _, h4, h5⟩
                  · exact absurd HCK.out h1
                  · exfalso
                    have h3 : insB (N.getD 0 []).length l = true := by
                      rw [← hall]
                      exact ints_insB (fun j hj => by rw [← HK.out]; exact HPK.out j hj)
                    have h4 : hasB N.length (x : Int) = true := by simp [hasB]; omega
                    rw [h3, h4] at h2
                    cases h2
                  · have hxy : y = x := by omega
                    subst hxy
                    have : ls = pre := ints_inj (h3.symm.trans hall.symm)
                    subst this
                    exact ⟨h4, h5⟩
                have HWI : Hid (Ints wq (.slice wa l.length wc) (tell (tab N T) x pre)) := by
                  refine HW.out.ints (by rw [HTL0.out]; unfold maxLen; omega) (tell_small2 HG.out HSM.out pre x hx (fun j hj => by rw [HTK.out]; exact HPK.out j hj))
                have HE2 := hide (HEND.out wq _ _ _ HB.out hr2.1 hr2.2 rfl HWI.out)
                have hf2 : fltE none = 0 := rfl
                rw [hf2] at HE2
                have HBq : Hid (Below w.heap.size w wq) := then_ HBW8.out HB.out
                clear hr2 HTS HEND hall
                go_wp2_with fail
                refine HE2.out.1.mono ?_
                rintro e w9 ⟨rfl, hb9⟩
                have HB9 := hide hb9
                clear hb9
                go_wp2_with fail
                refine (HE2.out.2 w9 HB9.out).mono ?_
                rintro e wX ⟨rfl, hbX⟩
                have HBX := hide (then_ HBq.out (then_ HB9.out hbX))
                clear hbX
                go_wp2_with fail
                go_ret
                exact ⟨rfl, HBX.out⟩
          · have hin : a < 0 ∨ (0 ≤ a ∧ (N.length : Int) ≤ a) := by simp [hasB] at ha; omega
            have hr2 : r2 = some (2, none) ∧ tl = [] := by
              rcases HTS.out with ⟨h1, _⟩ | ⟨_, _, h1, h2⟩ | ⟨_, y, ls, rfl, h2, _⟩
              · exact absurd HCK.out h1
              · exact ⟨h1, h2⟩
              · exact absurd (by simp [hasB]; omega) ha
            have HE2 := hide (HEND.out w8 (.slice none 0 0) _ _ (Below.refl _ _) hr2.1 hr2.2 rfl (nilI _))
            have hf2 : fltE (some (2, none)) = 2 := rfl
            rw [hf2] at HE2
            clear ha hr2 HTS HEND
            rcases hin with h1 | ⟨h1, h2⟩
            all_goals
              by_cases hl0 : (0 : Int) < (l.length : Int)
              all_goals
                go_wp2_with fail
                refine wp_loop_rounds 1 ?_
                rw [rounds_succ]
                go_wp2_with fail
                refine HE2.out.1.mono ?_
                rintro e w9 ⟨rfl, hb9⟩
                have HB9 := hide hb9
                clear hb9
                go_wp2_with fail
                refine (HE2.out.2 w9 HB9.out).mono ?_
                rintro e wX ⟨rfl, hbX⟩
                have HBX := hide (then_ HBW8.out (then_ HB9.out hbX))
                clear hbX
                go_wp2_with fail
                go_ret
                exact ⟨rfl, HBX.out⟩
end Bk
end Go.Proofs.YtdeijfkahhgojaaDoor
