/-
  The walk of the document's Tidy: a list.
-/
import Derived.Test.YtjfgfcajmkbmeaaGreatDoorRtTidy
import Derived.Deep.RegionHeld3
namespace Go.Proofs.YtjfgfcajmkbmeaaGreatDoor
open Go.RowKit
theorem Tryz.infoRx : (Tryz.prog.info? 70).map (fun i => (i.zero, i.size, i.bytes)) = some (some (.pointer none), 1, 8) := by kernel_rfl
theorem flat_take (f : Ex → List Ex) (l : List Ex) (j : Nat) (y : Ex) (h : l[j]? = some y) : ((l.take (j + 1)).map f).flatten = ((l.take j).map f).flatten ++ f y := by
  have hj : j < l.length := (List.getElem?_eq_some_iff.1 h).1
  rw [List.take_succ_eq_append_getElem hj, List.map_append, List.flatten_append, (List.getElem?_eq_some_iff.1 h).2]
  simp
theorem flat_rest (f : Ex → List Ex) (l : List Ex) (j : Nat) (y : Ex) (h : l[j]? = some y) : (l.map f).flatten = ((l.take j).map f).flatten ++ f y ++ ((l.drop (j + 1)).map f).flatten := by
  rw [← flat_take f l j y h, ← List.flatten_append, ← List.map_append, List.take_append_drop]
/-- what the pieces so far come to -/
theorem td_pieces_so_far (k : Nat) (l : List Ex) (j : Nat) (hw : ∀ y, y ∈ l → Ex.Wf y) : ∀ z, z ∈ ((l.take j).map fun x => Ex.pieces k x.tidy).flatten → Ex.Td z := by
  intro z hz
  obtain ⟨M, hM, hzM⟩ := List.mem_flatten.1 hz
  obtain ⟨y, hy, rfl⟩ := List.mem_map.1 hM
  exact (Ex.td_pieces k (Ex.td_tidy y (hw y (List.mem_of_mem_take hy))) z hzM).1
theorem len_flat (k : Nat) (l : List Ex) (hw : ∀ y, y ∈ l → Ex.Wf y) (j : Nat) : (((l.take j).map fun x => Ex.pieces k x.tidy).flatten).length ≤ (l.map fun x => x.size).sum := by
  have h1 : ∀ r : List Ex, (∀ y, y ∈ r → Ex.Wf y) → ((r.map fun x => Ex.pieces k x.tidy).flatten).length ≤ (r.map fun x => x.size).sum := by
    intro r
    induction r with
    | nil => intro _; simp
    | cons a r ih =>
      intro h
      have h2 := Ex.pieces_len k a (h a (by simp))
      have h3 := ih fun y hy => h y (by simp [hy])
      simp only [List.map_cons, List.flatten_cons, List.length_append, List.sum_cons]
      omega
  have h2 := h1 (l.take j) fun y hy => hw y (List.mem_of_mem_take hy)
  have h3 : ((l.take j).map fun x => x.size).sum ≤ (l.map fun x => x.size).sum := by
    have : (l.map fun x => x.size).sum = ((l.take j).map fun x => x.size).sum + ((l.drop j).map fun x => x.size).sum := by
      rw [← List.sum_append, ← List.map_append, List.take_append_drop]
    omega
  omega
theorem gth_len {k : Nat} {L U : List Ex} (h : Ex.Gth k L U false) : U.length ≤ L.length := by
  rw [h.2 rfl]
  have h1 : ∀ (M acc : List Ex), (Ex.addAll acc M).length ≤ acc.length + M.length := by
    intro M
    induction M with
    | nil => intro acc; simp [Ex.addAll]
    | cons y r ih =>
      intro acc
      unfold Ex.addAll
      split
      · have := ih acc; simp only [List.length_cons]; omega
      · have := ih (acc ++ [y]); simp only [List.length_append, List.length_cons, List.length_nil] at *; omega
  have h2 := h1 (Ex.nc L) []
  have h3 : (Ex.nc L).length ≤ L.length := List.length_filter_le _ _
  simp only [List.length_nil, Nat.zero_add] at h2
  omega
theorem td_le7 {x : Ex} (h : Ex.Td x) : x.kind ≤ 7 := by
  rcases h.shape with e | e | e | e <;> omega
/-- the text of one that is left, and of another side, are short -/
theorem td_text {x : Ex} (h : Ex.Td x) (hs : x.size ≤ 40001) : x.text.length ≤ 1000000 := by
  have := text_sizeR x (Ex.Td.wf x h)
  omega
set_option maxHeartbeats 16000000 in
set_option maxRecDepth 100000 in
theorem rtidy_list6 (nm : List UInt8) (l : List Ex) (hY : ∀ y, y ∈ l → TidyRK y) : TidyRK ⟨6, nm, l⟩ := by
  intro ok g w hok h hw hs
  have hwl := ((Ex.Wf.def _ _ _).1 hw).2
  have hll : 2 ≤ l.length := by
    rcases ((Ex.Wf.def _ _ _).1 hw).1 with e | e | e | e
    · omega
    · omega
    · omega
    · exact e.2.2.2
  have hsl : (l.map fun x => x.size).sum ≤ 40000 := by rw [Ex.size_def] at hs; omega
  have hsz : ∀ y, y ∈ l → y.size ≤ 40000 := fun y hy => by have := Ex.size_mem l y hy; omega
  have hlm : l.length ≤ 1000000 := by rw [IsRx.def] at h; exact h.2.2.1
  obtain ⟨hb, cap, c0, c2, hcap, hrow⟩ : ∃ hb cap, w.cell? ⟨g, 0, none⟩ = some (.string ⟨#[38]⟩) ∧ w.cell? ⟨g, 2, none⟩ = some (.slice (some ⟨hb, 0, none⟩) l.length cap) ∧ l.length ≤ cap ∧ ∀ (i : Nat) (y : Ex), l[i]? = some y → ∃ q, w.cell? ⟨hb, i, none⟩ = some (.pointer (some ⟨q, 0, none⟩)) ∧ IsRx ok w y q := by
    rw [IsRx.def] at h
    obtain ⟨_, _, _, hk, _, sv, hsv, hof⟩ := h
    rcases hof with ⟨h0, _⟩ | ⟨_, b, cap, rfl, hc, _, hr⟩
    · omega
    · exact ⟨b, cap, hk, hsv, hc, fun i y hi => hr i _ (by rw [List.getElem?_map, hi]; rfl)⟩
  obtain ⟨n, hn⟩ : ∃ n, n = l.length := ⟨_, rfl⟩
  rw [← hn] at c2 hcap hll hlm
  obtain ⟨i0, hi0, hz0, hz1, hz2⟩ := info_parts Tryz.infoRx
  have HTX : Hid (Ex.tidy ⟨6, nm, l⟩ = Ex.gather 6 (l.map fun x => Ex.pieces 6 x.tidy).flatten) := Ex.tidy6 nm l
  have HN := hide hn
  have HOK := hide hok
  have HWL := hide hwl
  have HROW := hide hrow
  have HSZ := hide hsz
  have HY := hide hY
  have HSL := hide hsl
  have hgl : g < w.heap.size := World.block_lt_of_cell? _ _ c0
  have HLF := hide (len_flat 6 l hwl)
  clear h hw hs hwl hsz hok hrow hY hn hsl
  go_enter Tryz.func33, Tryz.ntmps33
  go_wp2_with fail
  go_loopw [6, 56] (fun lv i wr => ∃ j : Nat, j ≤ n ∧ i = .int .i64 (j : Int) ∧ ∃ U us, Hid (RS (fun b => ok b ∨ w.heap.size ≤ b) w 6 (((l.take j).map fun x => Ex.pieces 6 x.tidy).flatten) U lv us wr)) (fun _ i _ => n - (intOf i).toNat)
  case atStart => exact ⟨0, Nat.zero_le _, rfl, [], [], ⟨Below.refl _ _, World.ownsRow_nil _ _ _ _, fun j x hx => by simp at hx, by simpa using Ex.Gth.nil 6, fun x hx => by simp at hx⟩⟩
  case round =>
    obtain ⟨j, hj, rfl, U, us, HR⟩ := hrel
    obtain ⟨la, lc, hlv⟩ := HR.out.shape
    subst hlv
    have hbr := HR.out.below
    have d0 := (hbr.cell (p := ⟨g, 0, none⟩) hgl).trans c0
    have HLJ := hide (td_pieces_so_far 6 l j HWL.out)
    by_cases hlt : j < n
    · have hjl : j < l.length := by rw [← HN.out]; exact hlt
      have HYJ : Hid (l[j]? = some l[j]) := List.getElem?_eq_getElem hjl
      have hym : l[j] ∈ l := List.getElem_mem hjl
      obtain ⟨q, hq, hxq⟩ := HROW.out j l[j] HYJ.out
      have hcell : wr.cell? ⟨hb, j, none⟩ = some (.pointer (some ⟨q, 0, none⟩)) := (hbr.cell (p := ⟨hb, j, none⟩) (World.block_lt_of_cell? _ _ hq)).trans hq
      have HC1 := hide (HY.out l[j] hym ok q wr (fun b hb => Nat.lt_of_lt_of_le (HOK.out b hb) hbr.size) (IsRx.stay (Stay.below hbr) (fun _ h => h) _ q hxq) (HWL.out _ hym) (HSZ.out _ hym))
      have HTD := hide (Ex.td_tidy l[j] (HWL.out _ hym))
      have hst : l[j].tidy.size ≤ 40000 := Nat.le_trans (Ex.size_tidy l[j] (HWL.out _ hym)) (HSZ.out _ hym)
      have HFT := hide (flat_take (fun x => Ex.pieces 6 x.tidy) l j l[j] HYJ.out)
      have HFR := hide (flat_rest (fun x => Ex.pieces 6 x.tidy) l j l[j] HYJ.out)
      have HLF1 := hide (HLF.out (j + 1))
      rw [HFT.out] at HLF1
      generalize l[j].tidy = t at *
      generalize ((l.take j).map fun x => Ex.pieces 6 x.tidy).flatten = Lj at *
      have hsw := hbr.size
      clear hq hxq HYJ hjl hym hbr
      go_wp2_with fail
      refine HC1.out.mono ?_
      rintro e w1 ⟨g9, rfl, hx9, hb9⟩
      have HR1 := hide (HR.out.on hb9)
      have HB9 := hide hb9
      have hk9 := hx9.kind
      have hsz9 := hb9.size
      have hg9 : g9 < w1.heap.size := World.block_lt_of_cell? _ _ hk9
      have HX9 : Hid (IsRx (fun b => (ok b ∨ w.heap.size ≤ b) ∧ some b ≠ (Value.slice la U.length lc).ownBlock) w1 t g9) := IsRx.stay (Stay.below (Below.refl _ _)) (fun b hbo => by
        refine ⟨hbo.imp id (fun h => by omega), ?_⟩
        intro e
        have ho := HR.out.own.lt b e.symm
        rcases hbo with h1 | h1
        · have := HOK.out b h1; omega
        · omega) t g9 hx9
      have d1 := (hb9.cell (p := ⟨g, 0, none⟩) (by show g < _; omega)).trans d0
      have hgl1 : g < w1.heap.size := by omega
      clear hx9 hb9 HC1 hcell
      by_cases hA : t.kind = 0
      · have hk9' := hk9
        rw [hA] at hk9'
        simp only [kindS] at hk9'
        have HE : Hid (IsRx (fun q => ok q ∨ w.heap.size ≤ q) ((w1.alloc (.cells #[.pointer (some ⟨g9, 0, none⟩)] 70)).drew.alloc (.cells #[.string ⟨#[48]⟩, .string ⟨#[]⟩, .slice none 0 0] 89)) (Ex.tidy ⟨6, nm, l⟩) (w1.heap.size + 1) ∧ Below w.heap.size w ((w1.alloc (.cells #[.pointer (some ⟨g9, 0, none⟩)] 70)).drew.alloc (.cells #[.string ⟨#[48]⟩, .string ⟨#[]⟩, .slice none 0 0] 89))) := by
          have hpt : Ex.pieces 6 t = [t] := by unfold Ex.pieces; rw [if_neg (by omega)]
          have ex : Ex.tidy ⟨6, nm, l⟩ = ⟨0, [], []⟩ := by
            rw [HTX.out, HFR.out, hpt]
            exact Ex.Gth.atAll (k := 6) (t := t) hA _
          have hc := isRx_const ok (w1.alloc (.cells #[.pointer (some ⟨g9, 0, none⟩)] 70)).drew 0 (by omega) ⟨#[48]⟩ rfl
          have hsd : (w1.alloc (.cells #[.pointer (some ⟨g9, 0, none⟩)] 70)).drew.heap.size = w1.heap.size + 1 := by simp [World.drew]
          rw [ex]
          rw [hsd] at hc
          refine ⟨IsRx.stay (Stay.below (Below.refl _ _)) (fun q h => h.imp id (fun h => by omega)) _ _ hc, ?_⟩
          have h1 := HR1.out.below
          exact (h1.alloc h1.size _).drew.alloc (by rw [hsd]; omega) _
        clear hk9
        go_wp2_with fail
        go_region_held3 (fun W => W.cell? ⟨g9, 0, none⟩ = some (.string ⟨#[48]⟩) ∧ W.cell? ⟨g, 0, none⟩ = some (.string ⟨#[38]⟩)) (go_keep) (fail)
        all_goals go_wp2_with fail
        all_goals go_ret
        all_goals exact ⟨_, rfl, HE.out⟩
      · by_cases hB : t.kind = 1
        · have hk9' := hk9
          rw [hB] at hk9'
          simp only [kindS] at hk9'
          have HNX : Hid (RS (fun b => ok b ∨ w.heap.size ≤ b) w 6 (((l.take (j + 1)).map fun x => Ex.pieces 6 x.tidy).flatten) U (.slice la U.length lc) us (w1.alloc (.cells #[.pointer (some ⟨g9, 0, none⟩)] 70)).drew) := by
            have hpt : Ex.pieces 6 t = [t] := by unfold Ex.pieces; rw [if_neg (by omega)]
            have h1 := HR1.out.on (w2 := (w1.alloc (.cells #[.pointer (some ⟨g9, 0, none⟩)] 70)).drew) (((Below.refl _ _).alloc (Nat.le_refl _) _).drew)
            refine ⟨h1.below, h1.own, h1.each, ?_, h1.td⟩
            rw [HFT.out, hpt]
            exact h1.gth.atNone (t := t) hB HLJ.out HTD.out
          clear hk9
          go_wp2_with fail
          go_region_held3 (fun W => W.cell? ⟨g9, 0, none⟩ = some (.string ⟨#[49]⟩) ∧ W.cell? ⟨g, 0, none⟩ = some (.string ⟨#[38]⟩)) (go_keep) (fail)
          go_wp2_with fail
          go_loopw [6, 94] (fun lv2 i wi => lv2 = .slice la U.length lc ∧ i = .int .i64 0 ∧ wi = (w1.alloc (.cells #[.pointer (some ⟨g9, 0, none⟩)] 70)).drew) (fun _ _ _ => 0)
          case atStart => exact ⟨rfl, rfl, rfl⟩
          case round =>
            obtain ⟨rfl, rfl, rfl⟩ := hrel
            go_wp2_with fail
            go_roundw
            case rel => exact ⟨j + 1, by omega, by go_num, U, us, HNX.out⟩
            case measure => simp [intOf]; omega
        · by_cases hC : t.kind = 6
          · obtain ⟨kt, nmt, lt⟩ := t
            simp only at hC
            subst hC
            have hpt : Ex.pieces 6 ⟨6, nmt, lt⟩ = lt := by unfold Ex.pieces; rw [if_pos rfl]
            have HPT : Hid (∀ z, z ∈ lt → Ex.Td z ∧ 2 ≤ z.kind ∧ z.size ≤ 40000) := fun z hz => by
              have h1 := HTD.out.parts z hz
              have h2 := Ex.size_mem lt z hz
              rw [Ex.size_def] at hst
              exact ⟨h1.1, h1.2.1, by omega⟩
            obtain ⟨w2, hw2⟩ : ∃ w2, w2 = (w1.alloc (.cells #[.pointer (some ⟨g9, 0, none⟩)] 70)).drew := ⟨_, rfl⟩
            have hb2 : Below w1.heap.size w1 w2 := by rw [hw2]; exact ((Below.refl _ _).alloc (Nat.le_refl _) _).drew
            have HR2 := hide (HR1.out.on hb2)
            obtain ⟨hbt, capt, k2, hct, HPC⟩ : ∃ hbt capt, w1.cell? ⟨g9, 2, none⟩ = some (.slice (some ⟨hbt, 0, none⟩) lt.length capt) ∧ lt.length ≤ capt ∧ Hid (PC (fun b => ok b ∨ w.heap.size ≤ b) lt hbt (.slice la U.length lc) w2) := by
              have h1 := HX9.out
              rw [IsRx.def] at h1
              obtain ⟨_, hwf, _, _, _, sv, hsv, hof⟩ := h1
              rcases hof with ⟨h0, _⟩ | ⟨hpos, b, cp, rfl, hc, hob, hr⟩
              · rcases hwf with e | e | e | e <;> omega
              · refine ⟨b, cp, hsv, hc, ?_⟩
                have hbl : b < w1.heap.size := by
                  obtain ⟨q0, hq0, _⟩ := hr 0 _ (by rw [List.getElem?_map, List.getElem?_eq_getElem hpos]; rfl)
                  exact World.block_lt_of_cell? _ _ hq0
                exact PC.on ⟨hob.2, hbl, fun i y hi => hr i _ (by rw [List.getElem?_map, hi]; rfl)⟩ hb2
            have HW2 := hide hw2
            simp only [kindS] at hk9
            have hk9' := hk9
            clear hb2 hw2
            have HRR : Hid (∀ a y, lt[a]? = some y → (l.map fun x => Ex.pieces 6 x.tidy).flatten = (Lj ++ lt.take a) ++ [y] ++ (lt.drop (a + 1) ++ ((l.drop (j + 1)).map fun x => Ex.pieces 6 x.tidy).flatten)) := by
              intro a y hy
              have hal : a < lt.length := (List.getElem?_eq_some_iff.1 hy).1
              have e : lt = lt.take a ++ [y] ++ lt.drop (a + 1) := by
                have h1 := List.take_append_drop (a + 1) lt
                rw [List.take_succ_eq_append_getElem hal, (List.getElem?_eq_some_iff.1 hy).2] at h1
                exact h1.symm
              rw [HFR.out, hpt]
              simp only [List.append_assoc]
              rw [show lt.take a ++ ([y] ++ (lt.drop (a + 1) ++ ((l.drop (j + 1)).map fun x => Ex.pieces 6 x.tidy).flatten)) = lt ++ ((l.drop (j + 1)).map fun x => Ex.pieces 6 x.tidy).flatten by rw [← List.append_assoc, ← List.append_assoc, ← e]]
            have HFT2 : Hid (((l.take (j + 1)).map fun x => Ex.pieces 6 x.tidy).flatten = Lj ++ lt) := by show _ = _; rw [HFT.out, hpt]
            have hPM : lt.length ≤ 1000000 ∧ Lj.length + lt.length ≤ 40000 := by
              have := HLF1.out
              rw [hpt, List.length_append] at this
              have := HSL.out
              omega
            have HTDL : Hid (∀ a, ∀ z, z ∈ Lj ++ lt.take a → Ex.Td z) := by
              intro a z hz
              rcases List.mem_append.1 hz with hz | hz
              · exact HLJ.out z hz
              · exact (HPT.out z (List.mem_of_mem_take hz)).1
            clear hk9 hpt
            go_wp2_with fail
            go_region_held3 (fun W => W.cell? ⟨g9, 0, none⟩ = some (.string ⟨#[38]⟩) ∧ W.cell? ⟨g9, 2, none⟩ = some (.slice (some ⟨hbt, 0, none⟩) lt.length capt) ∧ W.cell? ⟨g, 0, none⟩ = some (.string ⟨#[38]⟩)) (go_keep) (fail)
            go_wp2_with fail
            rw [← HW2.out]
            go_loopw [6, 94] (fun lv2 i wi => ∃ a : Nat, a ≤ lt.length ∧ i = .int .i64 (a : Int) ∧ ∃ U2 us2, Hid (RS (fun b => ok b ∨ w.heap.size ≤ b) w 6 (Lj ++ lt.take a) U2 lv2 us2 wi) ∧ Hid (PC (fun b => ok b ∨ w.heap.size ≤ b) lt hbt lv2 wi)) (fun _ i _ => lt.length - (intOf i).toNat)
            case atStart => exact ⟨0, Nat.zero_le _, rfl, U, us, (by show RS _ _ _ _ _ _ _ _; simpa using HR2.out), HPC.out⟩
            case round =>
              obtain ⟨a, ha, rfl, U2, us2, HRi, HPi⟩ := hrel
              obtain ⟨la2, lc2, hlv2⟩ := HRi.out.shape
              subst hlv2
              by_cases hal : a < lt.length
              · skip
                obtain ⟨y, hya⟩ : ∃ y, lt[a]? = some y := ⟨_, List.getElem?_eq_getElem hal⟩
                have hym : y ∈ lt := List.mem_of_getElem? hya
                obtain ⟨hty, h2y, hsy⟩ := HPT.out y hym
                obtain ⟨qy, hcy, hxy⟩ := HPi.out.each a y hya
                have HXY := hide hxy
                have HYA := hide hya
                have HTY := hide hty
                have htxy := td_text hty (by omega)
                have hto := Ex.td_other hty h2y
                have htxo := td_text hto.1 (by have := Ex.size_other y; omega)
                have HTO := hide hto
                have hU2 : U2.length ≤ 40000 := by have := gth_len HRi.out.gth; rw [List.length_append, List.length_take] at this; omega
                clear hxy hya hty hto hym
                obtain ⟨wm, hwm⟩ : ∃ wm, wm = wr := ⟨_, rfl⟩
                subst hwm
                have HALL : Hid (Ex.other y ∈ U2 → ∀ W, Below wm.heap.size wm W → IsRx (fun q => ok q ∨ w.heap.size ≤ q) (W.alloc (.cells #[.string ⟨#[48]⟩, .string ⟨#[]⟩, .slice none 0 0] 89)) (Ex.tidy ⟨6, nm, l⟩) W.heap.size ∧ Below w.heap.size w (W.alloc (.cells #[.string ⟨#[48]⟩, .string ⟨#[]⟩, .slice none 0 0] 89))) := by
                  intro ho W hW
                  have hbw := HRi.out.below
                  have hbW : Below w.heap.size w W := hbw.trans (hW.mono hbw.size)
                  have ex : Ex.tidy ⟨6, nm, l⟩ = ⟨0, [], []⟩ := by
                    rw [HTX.out, HRR.out a y HYA.out]
                    exact HRi.out.gth.atOther h2y ho _
                  rw [ex]
                  exact ⟨IsRx.stay (Stay.below (Below.refl _ _)) (fun q h => h.imp id (fun h => by have := hbW.size; omega)) _ _ (isRx_const ok W 0 (by omega) ⟨#[48]⟩ rfl), hbW.alloc hbW.size _⟩
                go_wp2_with fail
                go_loopw [13, 100] (fun b i wz => ∃ c : Nat, c ≤ U2.length ∧ i = .int .i64 (c : Int) ∧ ∃ bb, b = .bool bb ∧ Hid (bb = true ↔ y ∈ U2.take c) ∧ Hid (Ex.other y ∉ U2.take c) ∧ Hid (Below wm.heap.size wm wz)) (fun _ i _ => U2.length - (intOf i).toNat)
                case atStart => exact ⟨0, Nat.zero_le _, rfl, false, rfl, (by show _ ↔ _; simp), (by show ¬ _; simp), Below.refl _ _⟩
                case round =>
                  obtain ⟨c, hc, rfl, bb, rfl, HBB, HNO, HBz⟩ := hrel
                  by_cases hcl : c < U2.length
                  · obtain ⟨z, hzc⟩ : ∃ z, U2[c]? = some z := ⟨_, List.getElem?_eq_getElem hcl⟩
                    have hzm : z ∈ U2 := List.mem_of_getElem? hzc
                    obtain ⟨htz, h2z, hsz1⟩ := HRi.out.td z hzm
                    have htxz := td_text htz (by omega)
                    obtain ⟨gr, gz, hla, hcz, hxz⟩ := (HRi.out.on HBz.out).cell c z hzc
                    subst hla
                    have HZM := hide hzm
                    have HTZ := hide htz
                    have HXZ := hide hxz
                    have HT1 := hide (rtext_any z gz wr (IsRx.stay (Stay.below (Below.refl _ _)) (fun _ _ => trivial) _ _ hxz) htxz)
                    have HTK : Hid (U2.take (c + 1) = U2.take c ++ [z]) := by
                      show _ = _
                      rw [List.take_succ_eq_append_getElem hcl, (List.getElem?_eq_some_iff.1 hzc).2]
                    have hzl : gr < wr.heap.size := World.block_lt_of_cell? _ _ hcz
                    clear hxz htz hzm hzc h2z hsz1
                    go_wp2_with fail
                    refine HT1.out.mono ?_
                    rintro e wa ⟨rfl, hba⟩
                    have HBa := hide hba
                    have HC2 := hide (rother_any _ y qy wa (IsRx.stay (Stay.below hba) (fun _ h => h) _ _ (IsRx.stay (Stay.below HBz.out) (fun _ h => h) _ _ HXY.out)))
                    clear hba HT1
                    go_wp2_with fail
                    refine HC2.out.mono ?_
                    rintro e wb ⟨go, rfl, hxo, hbb⟩
                    have HT3 := hide (rtext_any (Ex.other y) go wb (IsRx.stay (Stay.below (Below.refl _ _)) (fun _ _ => trivial) _ _ hxo) htxo)
                    have HBb := hide (HBz.out.trans ((HBa.out.mono HBz.out.size).trans (hbb.mono (Nat.le_trans HBz.out.size HBa.out.size))))
                    have HBab := hide (HBa.out.trans (hbb.mono HBa.out.size))
                    clear hxo hbb HC2
                    go_wp2_with fail
                    refine HT3.out.mono ?_
                    rintro e wc ⟨rfl, hbc⟩
                    have HBc := hide (HBb.out.trans (hbc.mono HBb.out.size))
                    have HBac := hide (HBab.out.trans (hbc.mono HBab.out.size))
                    clear hbc HT3
                    by_cases hzo : z = Ex.other y
                    · have HE := hide (HALL.out (by rw [← hzo]; exact HZM.out) wc HBc.out)
                      rw [← hzo]
                      go_wp2_with fail
                      go_ret
                      exact ⟨_, rfl, HE.out⟩
                    · have hne1 : (z.text == (Ex.other y).text) = false := by
                        rw [beq_eq_false_iff_ne]
                        intro e
                        exact hzo (Ex.text_inj z _ (Ex.Td.wf z HTZ.out) (Ex.Td.wf _ HTO.out.1) e)
                      have HNO2 : Hid (Ex.other y ∉ U2.take (c + 1)) := by
                        show ¬ _
                        rw [HTK.out]
                        intro e
                        rcases List.mem_append.1 e with e | e
                        · exact HNO.out e
                        · exact hzo (List.mem_singleton.1 e).symm
                      have HTz2 := hide (rtext_any z gz wc (IsRx.stay (Stay.below HBac.out) (fun _ _ => trivial) _ _ HXZ.out) htxz)
                      have HTy2 : Hid (∀ W, Below wc.heap.size wc W → Calls Tryz.prog 29 #[.pointer (some ⟨qy, 0, none⟩)] W fun e w' => e = .returned (.string ⟨y.text.toArray⟩) ∧ Below W.heap.size W w') := fun W hW => rtext_any y qy W (IsRx.stay (Stay.below (HBc.out.trans (hW.mono HBc.out.size))) (fun _ _ => trivial) _ _ HXY.out) htxy
                      generalize (Ex.other y).text = xo at *
                      cases bb with
                      | true =>
                        have HB2 : Hid (y ∈ U2.take (c + 1)) := by
                          show y ∈ _
                          rw [HTK.out]
                          exact List.mem_append_left _ (HBB.out.1 rfl)
                        clear HTz2 HTy2
                        generalize z.text = xz at *
                        go_wp2_with fail
                        go_roundw
                        case rel => first | exact ⟨c + 1, by omega, by go_num, true, rfl, (by show _ ↔ _; exact ⟨fun _ => HB2.out, fun _ => rfl⟩), HNO2.out, HBc.out⟩ | ((repeat apply Exists.intro); exact ⟨⟨c + 1, by omega, by go_num, true, rfl, (by show _ ↔ _; exact ⟨fun _ => HB2.out, fun _ => rfl⟩), HNO2.out, HBc.out⟩, rfl⟩)
                        case measure => first | (simp [intOf]; omega) | simp [intOf]
                      | false =>
                        have hyn : y ∉ U2.take c := fun e => by simpa using HBB.out.2 e
                        by_cases hzy : z = y
                        · have HB2 : Hid (y ∈ U2.take (c + 1)) := by
                            show y ∈ _
                            rw [HTK.out, hzy]
                            simp
                          rw [hzy] at HTz2 hne1
                          rw [hzy]
                          generalize y.text = xz at *
                          go_wp2_with fail
                          refine HTz2.out.mono ?_
                          rintro e wd ⟨rfl, hbd⟩
                          have HT5 := hide (HTy2.out wd hbd)
                          have HBd := hide (HBc.out.trans (hbd.mono HBc.out.size))
                          clear hbd HTz2 HTy2
                          go_wp2_with fail
                          refine HT5.out.mono ?_
                          rintro e we ⟨rfl, hbe⟩
                          have HBe := hide (HBd.out.trans (hbe.mono HBd.out.size))
                          clear hbe HT5
                          go_wp2_with fail
                          go_roundw
                          case rel => first | exact ⟨c + 1, by omega, by go_num, true, (by simp), (by show _ ↔ _; exact ⟨fun _ => HB2.out, fun _ => rfl⟩), HNO2.out, HBe.out⟩ | ((repeat apply Exists.intro); exact ⟨⟨c + 1, by omega, by go_num, true, (by simp), (by show _ ↔ _; exact ⟨fun _ => HB2.out, fun _ => rfl⟩), HNO2.out, HBe.out⟩, rfl⟩)
                          case measure => first | (simp [intOf]; omega) | simp [intOf]
                        · have hne2 : (z.text == y.text) = false := by
                            rw [beq_eq_false_iff_ne]
                            intro e
                            exact hzy (Ex.text_inj z _ (Ex.Td.wf z HTZ.out) (Ex.Td.wf _ HTY.out) e)
                          have HB2 : Hid (y ∉ U2.take (c + 1)) := by
                            show ¬ _
                            rw [HTK.out]
                            intro e
                            rcases List.mem_append.1 e with e | e
                            · exact absurd e hyn
                            · exact absurd (List.mem_singleton.1 e).symm hzy
                          generalize y.text = xy at *
                          generalize z.text = xz at *
                          go_wp2_with fail
                          refine HTz2.out.mono ?_
                          rintro e wd ⟨rfl, hbd⟩
                          have HT5 := hide (HTy2.out wd hbd)
                          have HBd := hide (HBc.out.trans (hbd.mono HBc.out.size))
                          clear hbd HTz2 HTy2
                          go_wp2_with fail
                          refine HT5.out.mono ?_
                          rintro e we ⟨rfl, hbe⟩
                          have HBe := hide (HBd.out.trans (hbe.mono HBd.out.size))
                          clear hbe HT5
                          go_wp2_with fail
                          go_roundw
                          case rel => first | exact ⟨c + 1, by omega, by go_num, false, (by simp), (by show _ ↔ _; exact ⟨fun e => by simp at e, fun e => absurd e HB2.out⟩), HNO2.out, HBe.out⟩ | ((repeat apply Exists.intro); exact ⟨⟨c + 1, by omega, by go_num, false, (by simp), (by show _ ↔ _; exact ⟨fun e => by simp at e, fun e => absurd e HB2.out⟩), HNO2.out, HBe.out⟩, rfl⟩)
                          case measure => first | (simp [intOf]; omega) | simp [intOf]
                  · have hce : c = U2.length := by omega
                    have htk : U2.take c = U2 := List.take_of_length_le (by omega)
                    rw [htk] at HBB HNO
                    cases bb with
                    | true =>
                      have HNX : Hid (∃ U3 us3, Hid (RS (fun b => ok b ∨ w.heap.size ≤ b) w 6 (Lj ++ lt.take (a + 1)) U3 (.slice la2 U2.length lc2) us3 wr) ∧ Hid (PC (fun b => ok b ∨ w.heap.size ≤ b) lt hbt (.slice la2 U2.length lc2) wr)) := by
                        refine ⟨U2, us2, ?_, HPi.out.on HBz.out⟩
                        have e : Lj ++ lt.take (a + 1) = Lj ++ lt.take a ++ [y] := by rw [List.take_succ_eq_append_getElem hal, (List.getElem?_eq_some_iff.1 HYA.out).2, List.append_assoc]
                        show RS _ _ _ _ _ _ _ _
                        rw [e]
                        exact (HRi.out.on HBz.out).there (HTDL.out a) HTY.out h2y (HBB.out.1 rfl)
                      go_wp2_with fail
                      go_roundw
                      case rel => first | exact ⟨a + 1, by omega, by go_num, HNX.out⟩ | ((repeat apply Exists.intro); exact ⟨⟨a + 1, by omega, by go_num, HNX.out⟩, rfl⟩)
                      case measure => first | (simp [intOf]; omega) | simp [intOf]
                    | false =>
                      have HYN : Hid (y ∉ U2) := fun e => by simpa using HBB.out.2 e
                      have HRz := hide (HRi.out.on HBz.out)
                      have HPz := hide (HPi.out.on HBz.out)
                      have HXz := hide (IsRx.stay (Stay.below HBz.out) (fun _ h => h) _ _ HXY.out)
                      have HOWN := hide (HRz.out.own.alloc (.cells #[.pointer (some ⟨qy, 0, none⟩)] 70))
                      have hszw := HRz.out.below.size
                      have hul : us2.length = U2.length := by have := HRz.out.own.1; omega
                      have HPUSH : Hid (∀ v' w4, w4.ownsRow w.heap.size 70 1 v' (U2.length + 1) (us2 ++ [.pointer (some ⟨qy, 0, none⟩)]) → (wr.alloc (.cells #[.pointer (some ⟨qy, 0, none⟩)] 70)).grownBy w4 (Value.slice la2 U2.length lc2).ownBlock → (v'.ownBlock = (Value.slice la2 U2.length lc2).ownBlock ∨ v'.ownBlock = some (wr.heap.size + 1)) → (∃ a c, v' = .slice a (U2.length + 1) c) ∧ Hid (∃ U3 us3, Hid (RS (fun b => ok b ∨ w.heap.size ≤ b) w 6 (Lj ++ lt.take (a + 1)) U3 v' us3 w4) ∧ Hid (PC (fun b => ok b ∨ w.heap.size ≤ b) lt hbt v' w4))) := by
                        intro v' w4 hown hg hat
                        have e : Lj ++ lt.take (a + 1) = Lj ++ lt.take a ++ [y] := by rw [List.take_succ_eq_append_getElem hal, (List.getElem?_eq_some_iff.1 HYA.out).2, List.append_assoc]
                        refine ⟨?_, U2 ++ [y], us2 ++ [.pointer (some ⟨qy, 0, none⟩)], ?_, HPz.out.grow hg hat⟩
                        · rcases hown.2 with ⟨hv, hn⟩ | ⟨g', cap', cur, hv, _⟩
                          · omega
                          · exact ⟨_, _, hv⟩
                        · show RS _ _ _ _ _ _ _ _
                          rw [e]
                          exact HRz.out.push HXz.out hg hat hown (HTDL.out a) HTY.out h2y HYN.out HNO.out hsy
                      clear HRz HPz HXz HBB
                      go_wp2_with (at_builtin; refine wpList_append_own_at _ rfl (.tmp 124) (.tmp 126) 87 rfl w.heap.size 70 i0 (.pointer none) 1 8 Tryz.underlying87 hi0 hz0 hz1 hz2 rfl (by decide) _ U2.length us2 rfl HOWN.out ⟨wr.heap.size, 0, none⟩ 1 1 [.pointer (some ⟨qy, 0, none⟩)] rfl rfl (cell_one_new _ _ _) ?c2 ?c3 ?c4 ?c5 ?_)
                      case c2 => intro z hz; simp at hz; subst hz; rfl
                      case c3 => unfold maxLen; omega
                      case c4 => omega
                      case c5 => simp; omega
                      intro v' w4 hown' hgrow _ hat
                      obtain ⟨⟨a4, c4, hv4⟩, HNX⟩ := HPUSH.out v' w4 hown' hgrow hat
                      subst hv4
                      clear hown' hgrow hat HOWN HPUSH
                      go_wp2_with fail
                      go_roundw
                      case rel => first | exact ⟨a + 1, by omega, by go_num, HNX.out⟩ | ((repeat apply Exists.intro); exact ⟨⟨a + 1, by omega, by go_num, HNX.out⟩, rfl⟩)
                      case measure => first | (simp [intOf]; omega) | simp [intOf]
              · have hae : a = lt.length := by omega
                have HNX : Hid (RS (fun b => ok b ∨ w.heap.size ≤ b) w 6 (((l.take (j + 1)).map fun x => Ex.pieces 6 x.tidy).flatten) U2 (.slice la2 U2.length lc2) us2 wr) := by
                  show RS _ _ _ _ _ _ _ _
                  rw [HFT2.out]
                  have := HRi.out
                  rwa [show lt.take a = lt from List.take_of_length_le (by omega)] at this
                skip
                go_wp2_with fail
                go_roundw
                case rel => first | exact ⟨j + 1, by omega, by go_num, U2, us2, HNX.out⟩ | ((repeat apply Exists.intro); exact ⟨⟨j + 1, by omega, by go_num, U2, us2, HNX.out⟩, rfl⟩)
                case measure => first | (simp [intOf]; omega) | simp [intOf]
          · have h2t : 2 ≤ t.kind := by omega
            have hpt : Ex.pieces 6 t = [t] := by unfold Ex.pieces; rw [if_neg hC]
            have HPT : Hid (∀ z, z ∈ [t] → Ex.Td z ∧ 2 ≤ z.kind ∧ z.size ≤ 40000) := fun z hz => by
              rw [List.mem_singleton.1 hz]; exact ⟨HTD.out, h2t, hst⟩
            obtain ⟨w2, hw2⟩ : ∃ w2, w2 = (w1.alloc (.cells #[.pointer (some ⟨g9, 0, none⟩)] 70)).drew := ⟨_, rfl⟩
            have hb2 : Below w1.heap.size w1 w2 := by rw [hw2]; exact ((Below.refl _ _).alloc (Nat.le_refl _) _).drew
            have HR2 := hide (HR1.out.on hb2)
            have HPC : Hid (PC (fun b => ok b ∨ w.heap.size ≤ b) [t] w1.heap.size (.slice la U.length lc) w2) := by
              have e1 : w2.heap[w1.heap.size]? = some (.cells #[.pointer (some ⟨g9, 0, none⟩)] 70 (0, 0)) := by rw [hw2]; exact heap_alloc_new w1 _
              refine ⟨fun e => by have := (HR1.out.own.lt _ e.symm).2; omega, (Array.getElem?_eq_some_iff.1 e1).1, fun i y hi => ?_⟩
              match i, hi with
              | 0, hi =>
                simp only [List.getElem?_cons_zero, Option.some.injEq] at hi
                subst hi
                exact ⟨g9, by rw [Lib.cell_of_heap e1]; rfl, IsRx.stay (Stay.below hb2) (fun _ h => h) _ g9 HX9.out⟩
              | i + 1, hi => simp at hi
            have HW2 := hide hw2
            have hk9' := hk9
            have n1 := kind_and t.kind hC
            have n2 := kind_1 t.kind hB
            have n3 := kind_0 t.kind hA
            generalize kindS t.kind = kk at *
            clear hb2 hw2
            have HRR : Hid (∀ a y, [t][a]? = some y → (l.map fun x => Ex.pieces 6 x.tidy).flatten = (Lj ++ [t].take a) ++ [y] ++ ([t].drop (a + 1) ++ ((l.drop (j + 1)).map fun x => Ex.pieces 6 x.tidy).flatten)) := by
              intro a y hy
              have hal : a < [t].length := (List.getElem?_eq_some_iff.1 hy).1
              have e : [t] = [t].take a ++ [y] ++ [t].drop (a + 1) := by
                have h1 := List.take_append_drop (a + 1) [t]
                rw [List.take_succ_eq_append_getElem hal, (List.getElem?_eq_some_iff.1 hy).2] at h1
                exact h1.symm
              rw [HFR.out, hpt]
              simp only [List.append_assoc]
              rw [show [t].take a ++ ([y] ++ ([t].drop (a + 1) ++ ((l.drop (j + 1)).map fun x => Ex.pieces 6 x.tidy).flatten)) = [t] ++ ((l.drop (j + 1)).map fun x => Ex.pieces 6 x.tidy).flatten by rw [← List.append_assoc, ← List.append_assoc, ← e]]
            have HFT2 : Hid (((l.take (j + 1)).map fun x => Ex.pieces 6 x.tidy).flatten = Lj ++ [t]) := by show _ = _; rw [HFT.out, hpt]
            have hPM : [t].length ≤ 1000000 ∧ Lj.length + [t].length ≤ 40000 := by
              have := HLF1.out
              rw [hpt, List.length_append] at this
              have := HSL.out
              omega
            have HTDL : Hid (∀ a, ∀ z, z ∈ Lj ++ [t].take a → Ex.Td z) := by
              intro a z hz
              rcases List.mem_append.1 hz with hz | hz
              · exact HLJ.out z hz
              · exact (HPT.out z (List.mem_of_mem_take hz)).1
            clear hk9 hpt
            go_wp2_with fail
            go_region_held3 (fun W => W.cell? ⟨g9, 0, none⟩ = some (.string ⟨kk.toArray⟩) ∧ W.cell? ⟨g, 0, none⟩ = some (.string ⟨#[38]⟩)) (go_keep) (fail)
            go_wp2_with fail
            rw [← HW2.out]
            go_loopw [6, 94] (fun lv2 i wi => ∃ a : Nat, a ≤ [t].length ∧ i = .int .i64 (a : Int) ∧ ∃ U2 us2, Hid (RS (fun b => ok b ∨ w.heap.size ≤ b) w 6 (Lj ++ [t].take a) U2 lv2 us2 wi) ∧ Hid (PC (fun b => ok b ∨ w.heap.size ≤ b) [t] w1.heap.size lv2 wi)) (fun _ i _ => [t].length - (intOf i).toNat)
            case atStart => exact ⟨0, Nat.zero_le _, rfl, U, us, (by show RS _ _ _ _ _ _ _ _; simpa using HR2.out), HPC.out⟩
            case round =>
              obtain ⟨a, ha, rfl, U2, us2, HRi, HPi⟩ := hrel
              obtain ⟨la2, lc2, hlv2⟩ := HRi.out.shape
              subst hlv2
              by_cases hal : a < [t].length
              · obtain rfl : a = 0 := by simp at hal; omega
                obtain ⟨y, hya⟩ : ∃ y, [t][0]? = some y := ⟨_, List.getElem?_eq_getElem hal⟩
                have hym : y ∈ [t] := List.mem_of_getElem? hya
                obtain ⟨hty, h2y, hsy⟩ := HPT.out y hym
                obtain ⟨qy, hcy, hxy⟩ := HPi.out.each 0 y hya
                have HXY := hide hxy
                have HYA := hide hya
                have HTY := hide hty
                have htxy := td_text hty (by omega)
                have hto := Ex.td_other hty h2y
                have htxo := td_text hto.1 (by have := Ex.size_other y; omega)
                have HTO := hide hto
                have hU2 : U2.length ≤ 40000 := by have := gth_len HRi.out.gth; rw [List.length_append, List.length_take] at this; omega
                clear hxy hya hty hto hym
                obtain ⟨wm, hwm⟩ : ∃ wm, wm = wr := ⟨_, rfl⟩
                subst hwm
                have HALL : Hid (Ex.other y ∈ U2 → ∀ W, Below wm.heap.size wm W → IsRx (fun q => ok q ∨ w.heap.size ≤ q) (W.alloc (.cells #[.string ⟨#[48]⟩, .string ⟨#[]⟩, .slice none 0 0] 89)) (Ex.tidy ⟨6, nm, l⟩) W.heap.size ∧ Below w.heap.size w (W.alloc (.cells #[.string ⟨#[48]⟩, .string ⟨#[]⟩, .slice none 0 0] 89))) := by
                  intro ho W hW
                  have hbw := HRi.out.below
                  have hbW : Below w.heap.size w W := hbw.trans (hW.mono hbw.size)
                  have ex : Ex.tidy ⟨6, nm, l⟩ = ⟨0, [], []⟩ := by
                    rw [HTX.out, HRR.out 0 y HYA.out]
                    exact HRi.out.gth.atOther h2y ho _
                  rw [ex]
                  exact ⟨IsRx.stay (Stay.below (Below.refl _ _)) (fun q h => h.imp id (fun h => by have := hbW.size; omega)) _ _ (isRx_const ok W 0 (by omega) ⟨#[48]⟩ rfl), hbW.alloc hbW.size _⟩
                go_wp2_with fail
                go_loopw [13, 100] (fun b i wz => ∃ c : Nat, c ≤ U2.length ∧ i = .int .i64 (c : Int) ∧ ∃ bb, b = .bool bb ∧ Hid (bb = true ↔ y ∈ U2.take c) ∧ Hid (Ex.other y ∉ U2.take c) ∧ Hid (Below wm.heap.size wm wz)) (fun _ i _ => U2.length - (intOf i).toNat)
                case atStart => exact ⟨0, Nat.zero_le _, rfl, false, rfl, (by show _ ↔ _; simp), (by show ¬ _; simp), Below.refl _ _⟩
                case round =>
                  obtain ⟨c, hc, rfl, bb, rfl, HBB, HNO, HBz⟩ := hrel
                  by_cases hcl : c < U2.length
                  · obtain ⟨z, hzc⟩ : ∃ z, U2[c]? = some z := ⟨_, List.getElem?_eq_getElem hcl⟩
                    have hzm : z ∈ U2 := List.mem_of_getElem? hzc
                    obtain ⟨htz, h2z, hsz1⟩ := HRi.out.td z hzm
                    have htxz := td_text htz (by omega)
                    obtain ⟨gr, gz, hla, hcz, hxz⟩ := (HRi.out.on HBz.out).cell c z hzc
                    subst hla
                    have HZM := hide hzm
                    have HTZ := hide htz
                    have HXZ := hide hxz
                    have HT1 := hide (rtext_any z gz wr (IsRx.stay (Stay.below (Below.refl _ _)) (fun _ _ => trivial) _ _ hxz) htxz)
                    have HTK : Hid (U2.take (c + 1) = U2.take c ++ [z]) := by
                      show _ = _
                      rw [List.take_succ_eq_append_getElem hcl, (List.getElem?_eq_some_iff.1 hzc).2]
                    have hzl : gr < wr.heap.size := World.block_lt_of_cell? _ _ hcz
                    clear hxz htz hzm hzc h2z hsz1
                    go_wp2_with fail
                    refine HT1.out.mono ?_
                    rintro e wa ⟨rfl, hba⟩
                    have HBa := hide hba
                    have HC2 := hide (rother_any _ y qy wa (IsRx.stay (Stay.below hba) (fun _ h => h) _ _ (IsRx.stay (Stay.below HBz.out) (fun _ h => h) _ _ HXY.out)))
                    clear hba HT1
                    go_wp2_with fail
                    refine HC2.out.mono ?_
                    rintro e wb ⟨go, rfl, hxo, hbb⟩
                    have HT3 := hide (rtext_any (Ex.other y) go wb (IsRx.stay (Stay.below (Below.refl _ _)) (fun _ _ => trivial) _ _ hxo) htxo)
                    have HBb := hide (HBz.out.trans ((HBa.out.mono HBz.out.size).trans (hbb.mono (Nat.le_trans HBz.out.size HBa.out.size))))
                    have HBab := hide (HBa.out.trans (hbb.mono HBa.out.size))
                    clear hxo hbb HC2
                    go_wp2_with fail
                    refine HT3.out.mono ?_
                    rintro e wc ⟨rfl, hbc⟩
                    have HBc := hide (HBb.out.trans (hbc.mono HBb.out.size))
                    have HBac := hide (HBab.out.trans (hbc.mono HBab.out.size))
                    clear hbc HT3
                    by_cases hzo : z = Ex.other y
                    · have HE := hide (HALL.out (by rw [← hzo]; exact HZM.out) wc HBc.out)
                      rw [← hzo]
                      go_wp2_with fail
                      go_ret
                      exact ⟨_, rfl, HE.out⟩
                    · have hne1 : (z.text == (Ex.other y).text) = false := by
                        rw [beq_eq_false_iff_ne]
                        intro e
                        exact hzo (Ex.text_inj z _ (Ex.Td.wf z HTZ.out) (Ex.Td.wf _ HTO.out.1) e)
                      have HNO2 : Hid (Ex.other y ∉ U2.take (c + 1)) := by
                        show ¬ _
                        rw [HTK.out]
                        intro e
                        rcases List.mem_append.1 e with e | e
                        · exact HNO.out e
                        · exact hzo (List.mem_singleton.1 e).symm
                      have HTz2 := hide (rtext_any z gz wc (IsRx.stay (Stay.below HBac.out) (fun _ _ => trivial) _ _ HXZ.out) htxz)
                      have HTy2 : Hid (∀ W, Below wc.heap.size wc W → Calls Tryz.prog 29 #[.pointer (some ⟨qy, 0, none⟩)] W fun e w' => e = .returned (.string ⟨y.text.toArray⟩) ∧ Below W.heap.size W w') := fun W hW => rtext_any y qy W (IsRx.stay (Stay.below (HBc.out.trans (hW.mono HBc.out.size))) (fun _ _ => trivial) _ _ HXY.out) htxy
                      generalize (Ex.other y).text = xo at *
                      cases bb with
                      | true =>
                        have HB2 : Hid (y ∈ U2.take (c + 1)) := by
                          show y ∈ _
                          rw [HTK.out]
                          exact List.mem_append_left _ (HBB.out.1 rfl)
                        clear HTz2 HTy2
                        generalize z.text = xz at *
                        go_wp2_with fail
                        go_roundw
                        case rel => first | exact ⟨c + 1, by omega, by go_num, true, rfl, (by show _ ↔ _; exact ⟨fun _ => HB2.out, fun _ => rfl⟩), HNO2.out, HBc.out⟩ | ((repeat apply Exists.intro); exact ⟨⟨c + 1, by omega, by go_num, true, rfl, (by show _ ↔ _; exact ⟨fun _ => HB2.out, fun _ => rfl⟩), HNO2.out, HBc.out⟩, rfl⟩)
                        case measure => first | (simp [intOf]; omega) | simp [intOf]
                      | false =>
                        have hyn : y ∉ U2.take c := fun e => by simpa using HBB.out.2 e
                        by_cases hzy : z = y
                        · have HB2 : Hid (y ∈ U2.take (c + 1)) := by
                            show y ∈ _
                            rw [HTK.out, hzy]
                            simp
                          rw [hzy] at HTz2 hne1
                          rw [hzy]
                          generalize y.text = xz at *
                          go_wp2_with fail
                          refine HTz2.out.mono ?_
                          rintro e wd ⟨rfl, hbd⟩
                          have HT5 := hide (HTy2.out wd hbd)
                          have HBd := hide (HBc.out.trans (hbd.mono HBc.out.size))
                          clear hbd HTz2 HTy2
                          go_wp2_with fail
                          refine HT5.out.mono ?_
                          rintro e we ⟨rfl, hbe⟩
                          have HBe := hide (HBd.out.trans (hbe.mono HBd.out.size))
                          clear hbe HT5
                          go_wp2_with fail
                          go_roundw
                          case rel => first | exact ⟨c + 1, by omega, by go_num, true, (by simp), (by show _ ↔ _; exact ⟨fun _ => HB2.out, fun _ => rfl⟩), HNO2.out, HBe.out⟩ | ((repeat apply Exists.intro); exact ⟨⟨c + 1, by omega, by go_num, true, (by simp), (by show _ ↔ _; exact ⟨fun _ => HB2.out, fun _ => rfl⟩), HNO2.out, HBe.out⟩, rfl⟩)
                          case measure => first | (simp [intOf]; omega) | simp [intOf]
                        · have hne2 : (z.text == y.text) = false := by
                            rw [beq_eq_false_iff_ne]
                            intro e
                            exact hzy (Ex.text_inj z _ (Ex.Td.wf z HTZ.out) (Ex.Td.wf _ HTY.out) e)
                          have HB2 : Hid (y ∉ U2.take (c + 1)) := by
                            show ¬ _
                            rw [HTK.out]
                            intro e
                            rcases List.mem_append.1 e with e | e
                            · exact absurd e hyn
                            · exact absurd (List.mem_singleton.1 e).symm hzy
                          generalize y.text = xy at *
                          generalize z.text = xz at *
                          go_wp2_with fail
                          refine HTz2.out.mono ?_
                          rintro e wd ⟨rfl, hbd⟩
                          have HT5 := hide (HTy2.out wd hbd)
                          have HBd := hide (HBc.out.trans (hbd.mono HBc.out.size))
                          clear hbd HTz2 HTy2
                          go_wp2_with fail
                          refine HT5.out.mono ?_
                          rintro e we ⟨rfl, hbe⟩
                          have HBe := hide (HBd.out.trans (hbe.mono HBd.out.size))
                          clear hbe HT5
                          go_wp2_with fail
                          go_roundw
                          case rel => first | exact ⟨c + 1, by omega, by go_num, false, (by simp), (by show _ ↔ _; exact ⟨fun e => by simp at e, fun e => absurd e HB2.out⟩), HNO2.out, HBe.out⟩ | ((repeat apply Exists.intro); exact ⟨⟨c + 1, by omega, by go_num, false, (by simp), (by show _ ↔ _; exact ⟨fun e => by simp at e, fun e => absurd e HB2.out⟩), HNO2.out, HBe.out⟩, rfl⟩)
                          case measure => first | (simp [intOf]; omega) | simp [intOf]
                  · have hce : c = U2.length := by omega
                    have htk : U2.take c = U2 := List.take_of_length_le (by omega)
                    rw [htk] at HBB HNO
                    cases bb with
                    | true =>
                      have HNX : Hid (∃ U3 us3, Hid (RS (fun b => ok b ∨ w.heap.size ≤ b) w 6 (Lj ++ [t].take (0 + 1)) U3 (.slice la2 U2.length lc2) us3 wr) ∧ Hid (PC (fun b => ok b ∨ w.heap.size ≤ b) [t] w1.heap.size (.slice la2 U2.length lc2) wr)) := by
                        refine ⟨U2, us2, ?_, HPi.out.on HBz.out⟩
                        have e : Lj ++ [t].take (0 + 1) = Lj ++ [t].take 0 ++ [y] := by rw [List.take_succ_eq_append_getElem hal, (List.getElem?_eq_some_iff.1 HYA.out).2, List.append_assoc]
                        show RS _ _ _ _ _ _ _ _
                        rw [e]
                        exact (HRi.out.on HBz.out).there (HTDL.out 0) HTY.out h2y (HBB.out.1 rfl)
                      go_wp2_with fail
                      go_roundw
                      case rel => first | exact ⟨0 + 1, by omega, by go_num, HNX.out⟩ | ((repeat apply Exists.intro); exact ⟨⟨0 + 1, by omega, by go_num, HNX.out⟩, rfl⟩)
                      case measure => first | (simp [intOf]; omega) | simp [intOf]
                    | false =>
                      have HYN : Hid (y ∉ U2) := fun e => by simpa using HBB.out.2 e
                      have HRz := hide (HRi.out.on HBz.out)
                      have HPz := hide (HPi.out.on HBz.out)
                      have HXz := hide (IsRx.stay (Stay.below HBz.out) (fun _ h => h) _ _ HXY.out)
                      have HOWN := hide (HRz.out.own.alloc (.cells #[.pointer (some ⟨qy, 0, none⟩)] 70))
                      have hszw := HRz.out.below.size
                      have hul : us2.length = U2.length := by have := HRz.out.own.1; omega
                      have HPUSH : Hid (∀ v' w4, w4.ownsRow w.heap.size 70 1 v' (U2.length + 1) (us2 ++ [.pointer (some ⟨qy, 0, none⟩)]) → (wr.alloc (.cells #[.pointer (some ⟨qy, 0, none⟩)] 70)).grownBy w4 (Value.slice la2 U2.length lc2).ownBlock → (v'.ownBlock = (Value.slice la2 U2.length lc2).ownBlock ∨ v'.ownBlock = some (wr.heap.size + 1)) → (∃ a c, v' = .slice a (U2.length + 1) c) ∧ Hid (∃ U3 us3, Hid (RS (fun b => ok b ∨ w.heap.size ≤ b) w 6 (Lj ++ [t].take (0 + 1)) U3 v' us3 w4) ∧ Hid (PC (fun b => ok b ∨ w.heap.size ≤ b) [t] w1.heap.size v' w4))) := by
                        intro v' w4 hown hg hat
                        have e : Lj ++ [t].take (0 + 1) = Lj ++ [t].take 0 ++ [y] := by rw [List.take_succ_eq_append_getElem hal, (List.getElem?_eq_some_iff.1 HYA.out).2, List.append_assoc]
                        refine ⟨?_, U2 ++ [y], us2 ++ [.pointer (some ⟨qy, 0, none⟩)], ?_, HPz.out.grow hg hat⟩
                        · rcases hown.2 with ⟨hv, hn⟩ | ⟨g', cap', cur, hv, _⟩
                          · omega
                          · exact ⟨_, _, hv⟩
                        · show RS _ _ _ _ _ _ _ _
                          rw [e]
                          exact HRz.out.push HXz.out hg hat hown (HTDL.out 0) HTY.out h2y HYN.out HNO.out hsy
                      clear HRz HPz HXz HBB
                      go_wp2_with (at_builtin; refine wpList_append_own_at _ rfl (.tmp 124) (.tmp 126) 87 rfl w.heap.size 70 i0 (.pointer none) 1 8 Tryz.underlying87 hi0 hz0 hz1 hz2 rfl (by decide) _ U2.length us2 rfl HOWN.out ⟨wr.heap.size, 0, none⟩ 1 1 [.pointer (some ⟨qy, 0, none⟩)] rfl rfl (cell_one_new _ _ _) ?c2 ?c3 ?c4 ?c5 ?_)
                      case c2 => intro z hz; simp at hz; subst hz; rfl
                      case c3 => unfold maxLen; omega
                      case c4 => omega
                      case c5 => simp; omega
                      intro v' w4 hown' hgrow _ hat
                      obtain ⟨⟨a4, c4, hv4⟩, HNX⟩ := HPUSH.out v' w4 hown' hgrow hat
                      subst hv4
                      clear hown' hgrow hat HOWN HPUSH
                      go_wp2_with fail
                      go_roundw
                      case rel => first | exact ⟨0 + 1, by omega, by go_num, HNX.out⟩ | ((repeat apply Exists.intro); exact ⟨⟨0 + 1, by omega, by go_num, HNX.out⟩, rfl⟩)
                      case measure => first | (simp [intOf]; omega) | simp [intOf]
              · have hae : a = [t].length := by omega
                have HNX : Hid (RS (fun b => ok b ∨ w.heap.size ≤ b) w 6 (((l.take (j + 1)).map fun x => Ex.pieces 6 x.tidy).flatten) U2 (.slice la2 U2.length lc2) us2 wr) := by
                  show RS _ _ _ _ _ _ _ _
                  rw [HFT2.out]
                  have := HRi.out
                  rwa [show [t].take a = [t] from List.take_of_length_le (by omega)] at this
                obtain rfl : a = 1 := by simpa using hae
                clear hae ha hal
                go_wp2_with fail
                go_roundw
                case rel => first | exact ⟨j + 1, by omega, by go_num, U2, us2, HNX.out⟩ | ((repeat apply Exists.intro); exact ⟨⟨j + 1, by omega, by go_num, U2, us2, HNX.out⟩, rfl⟩)
                case measure => first | (simp [intOf]; omega) | simp [intOf]
    · have hjn : j = n := by omega
      have hlt2 : l.take j = l := List.take_of_length_le (by rw [← HN.out]; omega)
      rw [hlt2] at HR
      have hUl : U.length ≤ 1000000 := by
        have h1 := gth_len HR.out.gth
        have h2 := HLF.out l.length
        rw [List.take_length] at h2
        have := HSL.out
        omega
      have HEX : Hid (Ex.tidy ⟨6, nm, l⟩ = Ex.wrap 6 U) := by
        show _ = _
        rw [HTX.out, HR.out.gth.whole]; rfl
      clear hlt2 HLJ
      match U, HR, hUl, HEX with
      | [], HR, _, HEX =>
        have HE : Hid (IsRx (fun q => ok q ∨ w.heap.size ≤ q) (wr.alloc (.cells #[.string ⟨#[49]⟩, .string ⟨#[]⟩, .slice none 0 0] 89)) (Ex.tidy ⟨6, nm, l⟩) wr.heap.size ∧ Below w.heap.size w (wr.alloc (.cells #[.string ⟨#[49]⟩, .string ⟨#[]⟩, .slice none 0 0] 89))) := by
          rw [HEX.out]
          exact ⟨IsRx.stay (Stay.below (Below.refl _ _)) (fun q h => h.imp id (fun h => by have := hbr.size; omega)) _ _ (isRx_const ok wr 1 (by omega) ⟨#[49]⟩ rfl), hbr.alloc hbr.size _⟩
        clear hbr
        go_wp2_with fail
        go_ret
        exact ⟨_, rfl, HE.out⟩
      | [y], HR, _, HEX =>
        obtain ⟨gr, gy, hla, hcy, hxy⟩ := HR.out.cell 0 y rfl
        subst hla
        have HE : Hid (IsRx (fun q => ok q ∨ w.heap.size ≤ q) wr (Ex.tidy ⟨6, nm, l⟩) gy ∧ Below w.heap.size w wr) := by
          rw [HEX.out]
          exact ⟨IsRx.stay (Stay.below (Below.refl _ _)) (fun q h => h.1) _ _ hxy, hbr⟩
        clear hbr hxy
        go_wp2_with fail
        go_ret
        exact ⟨_, rfl, HE.out⟩
      | y1 :: y2 :: r, HR, hUl, HEX =>
        obtain ⟨gr, gy, hla, _, _⟩ := HR.out.cell 0 y1 rfl
        subst hla
        obtain ⟨U, hU⟩ : ∃ U, U = y1 :: y2 :: r := ⟨_, rfl⟩
        rw [← hU] at HR hUl HEX
        have hU2 : 2 ≤ U.length := by rw [hU]; simp
        have HE : Hid (IsRx (fun q => ok q ∨ w.heap.size ≤ q) (wr.alloc (.cells #[.string ⟨#[38]⟩, .string ⟨#[]⟩, .slice (some ⟨gr, 0, none⟩) U.length lc] 89)) (Ex.tidy ⟨6, nm, l⟩) wr.heap.size ∧ Below w.heap.size w (wr.alloc (.cells #[.string ⟨#[38]⟩, .string ⟨#[]⟩, .slice (some ⟨gr, 0, none⟩) U.length lc] 89))) := by
          have hsz := hbr.size
          have hba : Below wr.heap.size wr (wr.alloc (.cells #[.string ⟨#[38]⟩, .string ⟨#[]⟩, .slice (some ⟨gr, 0, none⟩) U.length lc] 89)) := (Below.refl _ _).alloc (Nat.le_refl _) _
          have e1 := heap_alloc_new wr (.cells #[.string ⟨#[38]⟩, .string ⟨#[]⟩, .slice (some ⟨gr, 0, none⟩) U.length lc] 89)
          rw [HEX.out, Ex.wrap_many 6 U hU2]
          refine ⟨?_, hbr.alloc hsz _⟩
          rw [IsRx.def]
          have hcp : U.length ≤ lc := by
            rcases HR.out.own.2 with ⟨_, hn⟩ | ⟨g', cap', cur, e, _, _, hn, _⟩
            · omega
            · simp only [Value.slice.injEq] at e; rw [e.2.2]; exact hn
          refine ⟨.inr hsz, .inr (.inr (.inr ⟨by omega, by omega, rfl, hU2⟩)), hUl, by rw [Lib.cell_of_heap e1]; rfl, by rw [Lib.cell_of_heap e1]; rfl, _, by rw [Lib.cell_of_heap e1]; rfl, .inr ⟨by omega, gr, lc, rfl, hcp, .inr (HR.out.own.lt gr rfl).1, ?_⟩⟩
          intro i P hP
          rw [List.getElem?_map] at hP
          cases hi : U[i]? with
          | none => rw [hi] at hP; simp at hP
          | some z =>
            rw [hi] at hP
            simp only [Option.map_some, Option.some.injEq] at hP
            obtain ⟨gr', gz, hla, hcz, hxz⟩ := HR.out.cell i z hi
            simp only [Option.some.injEq, Addr.mk.injEq, and_true] at hla
            subst hla
            refine ⟨gz, (hba.cell (p := ⟨gr, i, none⟩) (World.block_lt_of_cell? _ _ hcz)).trans hcz, ?_⟩
            rw [← hP]
            exact IsRx.stay (Stay.below hba) (fun q h => h.1) _ _ hxz
        have hn0 : (((y1 :: y2 :: r).length : Int) == 0) = false := by rw [← hU]; exact beq_eq_false_iff_ne.2 (by omega)
        have hn1 : (((y1 :: y2 :: r).length : Int) == 1) = false := by rw [← hU]; exact beq_eq_false_iff_ne.2 (by omega)
        rw [← hU] at hn0 hn1 ⊢
        clear hbr hU
        generalize U.length = nU at *
        go_wp2_with fail
        go_ret
        exact ⟨_, rfl, HE.out⟩
end Go.Proofs.YtjfgfcajmkbmeaaGreatDoor
