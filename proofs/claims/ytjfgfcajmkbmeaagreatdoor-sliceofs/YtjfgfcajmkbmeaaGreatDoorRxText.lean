/-
  The walk of the document's Text.
-/
import Derived.Test.YtjfgfcajmkbmeaaGreatDoorRpPiece
import Derived.Test.YtjfgfcajmkbmeaaGreatDoorRtBoundAll
import Derived.Test.YtjfgfcajmkbmeaaGreatDoorShelf
import Derived.Test.YtjfgfcajmkbmeaaGreatDoorTxLeafAll
import Derived.WalkMore
import Derived.Lib.Join
namespace Go.Proofs.YtjfgfcajmkbmeaaGreatDoor
open Go.RowKit
theorem IsRx.on {ok : Nat → Prop} {w w' : World} {x : Ex} {g : Nat} (h : IsRx ok w x g) (hb : Below w.heap.size w w') : IsRx (fun _ => True) w' x g := IsRx.stay (Stay.below hb) (fun _ _ => trivial) x g h
theorem below_drewN {p : Nat} {a w : World} (h : Below p a w) (n : Nat) : Below p a (w.drewN n) := ⟨h.os, h.tape, h.output, h.size, h.block⟩
theorem ba_cat (a b : List UInt8) : (⟨a.toArray⟩ : ByteArray) ++ ⟨b.toArray⟩ = ⟨(a ++ b).toArray⟩ := by
  apply ByteArray.ext
  simp
theorem join_join (sep : List UInt8) : ∀ l : List (List UInt8), Lib.join l sep = Ex.join sep l := by
  intro l
  induction l with
  | nil => rfl
  | cons a r ih =>
    cases r with
    | nil => rw [Lib.join_one]; rfl
    | cons b t =>
      rw [show Ex.join sep (a :: b :: t) = a ++ sep ++ Ex.join sep (b :: t) from rfl, ← ih]
      simp [Lib.join, List.intercalate]
def strW (l : List UInt8) : Value := .string ⟨l.toArray⟩
theorem Tryz.infoStrX : (Tryz.prog.info? 9).map (fun i => (i.zero, i.size, i.bytes)) = some (some (.string ⟨#[]⟩), 1, 16) := by kernel_rfl
theorem join_part (sep : List UInt8) : ∀ (l : List (List UInt8)) (a : List UInt8), a ∈ l → a.length ≤ (Ex.join sep l).length := by
  intro l
  induction l with
  | nil => intro a h; simp at h
  | cons b r ih =>
    intro a h
    cases r with
    | nil => simp only [List.mem_singleton] at h; subst h; exact Nat.le_refl _
    | cons c t =>
      rw [show Ex.join sep (b :: c :: t) = b ++ sep ++ Ex.join sep (c :: t) from rfl]
      simp only [List.length_append]
      rcases List.mem_cons.1 h with rfl | h
      · omega
      · have := ih a h; omega
theorem kind_or (k : Nat) (h : k ≤ 7) : kindS k = [124] ∧ k = 7 ∨ kindS k = [38] ∧ k = 6 ∨ (kindS k == [38]) = false ∧ (kindS k == [124]) = false ∧ k < 6 := by
  match k, h with
  | 0, _ => simp [kindS]
  | 1, _ => simp [kindS]
  | 2, _ => simp [kindS]
  | 3, _ => simp [kindS]
  | 4, _ => simp [kindS]
  | 5, _ => simp [kindS]
  | 6, _ => simp [kindS]
  | 7, _ => simp [kindS]
  | n + 8, h => omega
theorem RWf.le {k : Nat} {nm : List UInt8} {n : Nat} (h : RWf k nm n) : k ≤ 7 := by rcases h with h | h | h | h <;> omega
/-- Text, at this expression -/
def TextRK (x : Ex) : Prop := ∀ (g : Nat) (w : World), IsRx (fun _ => True) w x g → x.text.length ≤ 1000000 →
  Calls Tryz.prog 29 #[.pointer (some ⟨g, 0, none⟩)] w fun e w' => e = .returned (.string ⟨x.text.toArray⟩) ∧ Below w.heap.size w w'
set_option maxHeartbeats 2000000 in
set_option maxRecDepth 100000 in
theorem rtext_leaf (k : Nat) (hk4 : k ≤ 4) (nm : List UInt8) (l : List Ex) : TextRK ⟨k, nm, l⟩ := by
  intro g w h hlen
  rw [IsRx.def] at h
  obtain ⟨_, hwf, _, hk, hn, sv, hsv, hof⟩ := h
  have HKD := hide hk
  clear hk hwf hof
  match k, hk4, HKD, hlen with
  | 0, _, HKD, _ =>
    have HF : Hid ((⟨0, nm, l⟩ : Ex).text = [48]) := by show _ = _; simp [Ex.text]
    have hk := HKD.out
    simp only [kindS] at hk
    go_enter Tryz.func29, Tryz.ntmps29
    go_wp2_with fail
    go_ret
    exact ⟨ret_str (by rw [HF.out]), Below.refl _ _⟩
  | 1, _, HKD, _ =>
    have HF : Hid ((⟨1, nm, l⟩ : Ex).text = [49]) := by show _ = _; simp [Ex.text]
    have hk := HKD.out
    simp only [kindS] at hk
    go_enter Tryz.func29, Tryz.ntmps29
    go_wp2_with fail
    go_ret
    exact ⟨ret_str (by rw [HF.out]), Below.refl _ _⟩
  | 2, _, HKD, _ =>
    have HF : Hid ((⟨2, nm, l⟩ : Ex).text = nm) := by show _ = _; simp [Ex.text]
    have hk := HKD.out
    simp only [kindS] at hk
    go_enter Tryz.func29, Tryz.ntmps29
    go_wp2_with fail
    go_ret
    exact ⟨ret_str (by rw [HF.out]), Below.refl _ _⟩
  | 3, _, HKD, hlen =>
    have HF : Hid ((⟨3, nm, l⟩ : Ex).text = 94 :: nm) := by show _ = _; simp [Ex.text]
    rw [HF.out] at hlen
    simp only [List.length_cons] at hlen
    have hk := HKD.out
    simp only [kindS] at hk
    go_enter Tryz.func29, Tryz.ntmps29
    go_wp2_with fail
    go_quiet (fail)
    go_wp2_with fail
    go_ret
    exact ⟨ret_str (by rw [HF.out]; exact ba_cat [94] nm), below_drewN (Below.refl _ _) _⟩
  | 4, _, HKD, hlen =>
    have HF : Hid ((⟨4, nm, l⟩ : Ex).text = 126 :: nm) := by show _ = _; simp [Ex.text]
    rw [HF.out] at hlen
    simp only [List.length_cons] at hlen
    have hk := HKD.out
    simp only [kindS] at hk
    go_enter Tryz.func29, Tryz.ntmps29
    go_wp2_with fail
    go_quiet (fail)
    go_wp2_with fail
    go_ret
    exact ⟨ret_str (by rw [HF.out]; exact ba_cat [126] nm), below_drewN (Below.refl _ _) _⟩
  | n + 5, h, _, _ => omega
set_option maxHeartbeats 2000000 in
set_option maxRecDepth 100000 in
theorem rtext_not (nm : List UInt8) (l : List Ex) (ih : ∀ y, y ∈ l → TextRK y) : TextRK ⟨5, nm, l⟩ := by
  intro g w h hlen
  have HIH := hide ih
  clear ih
  rw [IsRx.def] at h
  obtain ⟨_, hwf, _, hk, hn, sv, hsv, hof⟩ := h
  simp only [kindS] at hk
  have hl1 : l.length = 1 := by rcases hwf with h | h | h | h <;> omega
  match l, hl1, hof, HIH, hlen with
  | [y], _, hof, HIH, hlen =>
    rcases hof with ⟨h0, _⟩ | ⟨_, b, cap, rfl, hcap, _, hrow⟩
    · simp at h0
    · obtain ⟨gy, hcell, hy⟩ := hrow 0 _ rfl
      rw [Ex.text5] at hlen
      have hpl := Ex.par_le (decide (6 ≤ y.kind)) y.text
      have HC := hide (HIH.out y (by simp) gy w hy (by simp only [List.length_cons] at hlen; omega))
      have HF : Hid ((⟨5, nm, [y]⟩ : Ex).text = 33 :: Ex.par (decide (6 ≤ y.kind)) y.text) := Ex.text5 nm y
      have HP : Hid (y.text.length + 3 ≤ 1000003) := by show _ ≤ _; simp only [List.length_cons] at hlen; omega
      clear hlen
      have hyy := hy
      obtain ⟨ky, nmy, ly⟩ := y
      rw [IsRx.def] at hyy
      obtain ⟨_, hwfy, _, hky, _⟩ := hyy
      have h7 := kind_or ky hwfy.le
      clear hrow hy hwfy hwf
      simp only [List.length_cons, List.length_nil, Nat.zero_add] at hsv hcap
      generalize kindS ky = kk at *
      generalize hT : (⟨ky, nmy, ly⟩ : Ex).text = T at *
      clear hT hpl
      rcases h7 with ⟨rfl, h7⟩ | ⟨rfl, h7⟩ | ⟨h38, h124, h7⟩
      · have HD : Hid (decide (6 ≤ (⟨ky, nmy, ly⟩ : Ex).kind) = true) := decide_eq_true (by show 6 ≤ ky; omega)
        have hTl := HP.out
        go_enter Tryz.func29, Tryz.ntmps29
        go_wp2_with fail
        refine HC.out.mono ?_
        rintro e w1 ⟨rfl, hb⟩
        have HB := hide hb
        clear hb
        go_wp2_with fail
        go_ret
        exact ⟨ret_str (by rw [HF.out, HD.out]; exact (congrArg (· ++ (⟨#[41]⟩ : ByteArray)) (ba_cat [33, 40] T)).trans ((ba_cat _ [41]).trans (by simp [Ex.par]))), HB.out⟩
      · have HD : Hid (decide (6 ≤ (⟨ky, nmy, ly⟩ : Ex).kind) = true) := decide_eq_true (by show 6 ≤ ky; omega)
        have hTl := HP.out
        go_enter Tryz.func29, Tryz.ntmps29
        go_wp2_with fail
        refine HC.out.mono ?_
        rintro e w1 ⟨rfl, hb⟩
        have HB := hide hb
        clear hb
        go_wp2_with fail
        go_ret
        exact ⟨ret_str (by rw [HF.out, HD.out]; exact (congrArg (· ++ (⟨#[41]⟩ : ByteArray)) (ba_cat [33, 40] T)).trans ((ba_cat _ [41]).trans (by simp [Ex.par]))), HB.out⟩
      · have HD : Hid (decide (6 ≤ (⟨ky, nmy, ly⟩ : Ex).kind) = false) := decide_eq_false (by show ¬ 6 ≤ ky; omega)
        have hTl := HP.out
        go_enter Tryz.func29, Tryz.ntmps29
        go_wp2_with fail
        refine HC.out.mono ?_
        rintro e w1 ⟨rfl, hb⟩
        have HB := hide hb
        clear hb
        go_wp2_with fail
        go_ret
        exact ⟨ret_str (by rw [HF.out, HD.out]; exact (ba_cat [33] T).trans (by simp [Ex.par])), HB.out⟩
set_option maxHeartbeats 4000000 in
set_option maxRecDepth 100000 in
theorem rtext_6 (nm : List UInt8) (l : List Ex) (ih : ∀ y, y ∈ l → TextRK y) : TextRK ⟨6, nm, l⟩ := by
  intro g w h hlen
  have HIH := hide ih
  clear ih
  rw [IsRx.def] at h
  obtain ⟨_, hwf, hln, hk, hn, sv, hsv, hof⟩ := h
  simp only [kindS] at hk
  have h2 : 2 ≤ l.length := by rcases hwf with h | h | h | h <;> omega
  rcases hof with ⟨h0, _⟩ | ⟨_, b, cap, rfl, hcap, _, hrow⟩
  · omega
  · have HROW := hide hrow
    obtain ⟨ts, hts⟩ : ∃ ts, ts = l.map (fun x => Ex.par (decide (6 ≤ x.kind)) x.text) := ⟨_, rfl⟩
    have HTS := hide hts
    have HF : Hid ((⟨6, nm, l⟩ : Ex).text = Ex.join [32, 38, 32] ts) := by show _ = _; rw [hts]; exact Ex.text6 nm l
    rw [HF.out] at hlen
    have HLEN := hide hlen
    have HPART : Hid (∀ a, a ∈ ts → a.length ≤ 1000000) := fun a ha => Nat.le_trans (join_part _ ts a ha) hlen
    obtain ⟨n, hn'⟩ : ∃ n, n = l.length := ⟨_, rfl⟩
    have HN := hide hn'
    have HTN : Hid (ts.length = n) := by show _ = _; rw [hts, hn']; simp
    rw [← hn'] at hcap h2 hsv hln
    obtain ⟨i0, hi0, hz0, hz1, hz2⟩ := info_parts Tryz.infoStrX
    clear hn' hrow hwf hts hlen hn
    go_enter Tryz.func29, Tryz.ntmps29
    go_wp2_with fail
    go_loopw [72, 4] (fun i v wr => ∃ j : Nat, j ≤ n ∧ i = .int .i64 (j : Int) ∧ (∃ a c, v = .slice a j c) ∧ Hid (wr.ownsRow w.heap.size 9 1 v j ((ts.take j).map strW)) ∧ Hid (Below w.heap.size w wr)) (fun i _ _ => n - (intOf i).toNat)
    case atStart => exact ⟨0, Nat.zero_le _, rfl, ⟨_, _, rfl⟩, World.ownsRow_nil _ _ _ _, Below.refl _ _⟩
    case round =>
      obtain ⟨j, hj, rfl, ⟨va, vc, rfl⟩, HO, HB⟩ := hrel
      have hkr : wr.cell? ⟨g, 0, none⟩ = some (.string ⟨#[38]⟩) := (HB.out.cell (World.block_lt_of_cell? _ _ hk)).trans hk
      by_cases hlt : j < n
      · have hjl : j < l.length := by rw [← HN.out]; exact hlt
        have hjt : j < ts.length := by rw [HTN.out]; exact hlt
        obtain ⟨gy, hcell0, hxu⟩ := HROW.out j (IsRx (fun _ => True) w l[j]) (by rw [List.getElem?_map, List.getElem?_eq_getElem hjl]; rfl)
        have hcell := (HB.out.cell (World.block_lt_of_cell? _ _ hcell0)).trans hcell0
        have hyy := hxu.on HB.out
        have htj : ts[j] = Ex.par (decide (6 ≤ l[j].kind)) l[j].text := by simp [HTS.out]
        have hpl := Ex.par_le (decide (6 ≤ l[j].kind)) l[j].text
        rw [← htj] at hpl
        have hpt := HPART.out ts[j] (List.getElem_mem hjt)
        have HC := hide (HIH.out l[j] (List.getElem_mem hjl) gy wr hyy (by omega))
        have HTJ : Hid (ts.take (j + 1) = ts.take j ++ [Ex.par (decide (6 ≤ l[j].kind)) l[j].text]) := by show _ = _; rw [List.take_succ_eq_append_getElem hjt, htj]
        have hTl : l[j].text.length ≤ 1000000 := by omega
        clear hcell0 hxu htj hpl hpt hjt
        generalize l[j] = y at *
        obtain ⟨ky, nmy, ly⟩ := y
        rw [IsRx.def] at hyy
        obtain ⟨_, hwfy, _, hky, _⟩ := hyy
        have h7 := kind_or ky hwfy.le
        clear hwfy hjl
        change Hid (_ = _ ++ [Ex.par (decide (6 ≤ ky)) _]) at HTJ
        generalize kindS ky = kk at *
        generalize (⟨ky, nmy, ly⟩ : Ex).text = T at *
        go_wp2_with fail
        refine HC.out.mono ?_
        rintro e w2 ⟨rfl, hb2⟩
        have HB2 := hide hb2
        have hky2 := (hb2.cell (World.block_lt_of_cell? _ _ hky)).trans hky
        have hk2 := (hb2.cell (World.block_lt_of_cell? _ _ hkr)).trans hkr
        have HO2 := hide (HO.out.kept (row := none) ⟨hb2.os, hb2.tape, hb2.output, hb2.size, fun k hk _ => hb2.block k hk⟩ (by cases (Value.slice va j vc).ownBlock <;> simp))
        have HBW2 := hide (HB.out.trans (hb2.mono HB.out.size))
        clear hb2 HC
        go_upto_region 19 with fail
        go_cut [96] (fun t wx => t = .bool (decide (6 ≤ ky)) ∧ w2 = wx)
        case first =>
          rcases h7 with ⟨rfl, h7⟩ | ⟨rfl, h7⟩ | ⟨h38, h124, h7⟩
          · have hd : decide (6 ≤ ky) = true := decide_eq_true (by omega)
            have HD := hide hd
            clear hd
            go_wp2_with fail
            go_meet
            exact ⟨by rw [HD.out], rfl⟩
          · have hd : decide (6 ≤ ky) = true := decide_eq_true (by omega)
            have HD := hide hd
            clear hd
            go_wp2_with fail
            go_meet
            exact ⟨by rw [HD.out], rfl⟩
          · have hd : decide (6 ≤ ky) = false := decide_eq_false (by omega)
            have HD := hide hd
            clear hd
            go_wp2_with fail
            go_meet
            exact ⟨by rw [HD.out], rfl⟩
        case rest =>
          obtain ⟨rfl, rfl⟩ := hcut
          clear h7
          generalize decide (6 ≤ ky) = bp at *
          cases bp with
          | true =>
            have hsz2 := HBW2.out.size
            have HO3 := hide (HO2.out.alloc (.cells #[.string ((⟨#[40]⟩ : ByteArray) ++ ⟨T.toArray⟩ ++ ⟨#[41]⟩)] 9))
            go_wp2_with (at_builtin; refine wpList_append_own _ rfl _ _ 22 rfl w.heap.size 9 i0 (.string ⟨#[]⟩) 1 16 Tryz.underlying22 hi0 hz0 hz1 hz2 rfl (by decide) _ j ((ts.take j).map strW) rfl HO3.out ⟨w2.heap.size, 0, none⟩ 1 1 [.string ((⟨#[40]⟩ : ByteArray) ++ ⟨T.toArray⟩ ++ ⟨#[41]⟩)] rfl rfl (cell_one_new _ _ _) ?c2 ?c3 ?c4 ?c5 ?_)
            case c2 => intro z hz; simp only [List.mem_singleton] at hz; subst hz; rfl
            case c3 => unfold maxLen; omega
            case c4 => omega
            case c5 => simp; omega
            intro v' w3 hown' hgrow _
            have HB3 := hide (HBW2.out.trans (((Below.refl w.heap.size w2).alloc HBW2.out.size _).grown hgrow (by have := HBW2.out.size; simp; omega) (fun k hk => (HO2.out.lt k hk).1)))
            have HO4 : Hid (w3.ownsRow w.heap.size 9 1 v' (j + 1) ((ts.take (j + 1)).map strW)) := by
              show World.ownsRow _ _ _ _ _ _ _
              have e : ((ts.take (j + 1)).map strW) = (ts.take j).map strW ++ [.string ((⟨#[40]⟩ : ByteArray) ++ ⟨T.toArray⟩ ++ ⟨#[41]⟩)] := by
                rw [HTJ.out, List.map_append]
                simp only [List.map_cons, List.map_nil, strW]
                rw [show ((⟨#[40]⟩ : ByteArray) ++ ⟨T.toArray⟩ ++ ⟨#[41]⟩) = ⟨(Ex.par true T).toArray⟩ from (congrArg (· ++ (⟨#[41]⟩ : ByteArray)) (ba_cat [40] T)).trans ((ba_cat _ [41]).trans (by simp [Ex.par]))]
              rw [e, List.map_take]
              exact hown'
            obtain ⟨va', vc', hv'⟩ : ∃ a c, v' = .slice a (j + 1) c := by
              rcases hown'.2 with ⟨_, h0⟩ | ⟨g, cap, cur, hv, _⟩
              · omega
              · exact ⟨_, _, hv⟩
            subst hv'
            clear hown' hgrow HO2 HO3
            go_wp2_with fail
            go_roundw
            case rel => exact ⟨j + 1, by omega, by go_num, ⟨_, _, rfl⟩, HO4.out, HB3.out⟩
            case measure => simp [intOf]; omega
          | false =>
            have hsz2 := HBW2.out.size
            have HO3 := hide (HO2.out.alloc (.cells #[.string (⟨T.toArray⟩ : ByteArray)] 9))
            go_wp2_with (at_builtin; refine wpList_append_own _ rfl _ _ 22 rfl w.heap.size 9 i0 (.string ⟨#[]⟩) 1 16 Tryz.underlying22 hi0 hz0 hz1 hz2 rfl (by decide) _ j ((ts.take j).map strW) rfl HO3.out ⟨w2.heap.size, 0, none⟩ 1 1 [.string (⟨T.toArray⟩ : ByteArray)] rfl rfl (cell_one_new _ _ _) ?d2 ?d3 ?d4 ?d5 ?_)
            case d2 => intro z hz; simp only [List.mem_singleton] at hz; subst hz; rfl
            case d3 => unfold maxLen; omega
            case d4 => omega
            case d5 => simp; omega
            intro v' w3 hown' hgrow _
            have HB3 := hide (HBW2.out.trans (((Below.refl w.heap.size w2).alloc HBW2.out.size _).grown hgrow (by have := HBW2.out.size; simp; omega) (fun k hk => (HO2.out.lt k hk).1)))
            have HO4 : Hid (w3.ownsRow w.heap.size 9 1 v' (j + 1) ((ts.take (j + 1)).map strW)) := by
              show World.ownsRow _ _ _ _ _ _ _
              have e : ((ts.take (j + 1)).map strW) = (ts.take j).map strW ++ [.string (⟨T.toArray⟩ : ByteArray)] := by
                rw [HTJ.out, List.map_append]
                simp only [List.map_cons, List.map_nil, strW]
                rfl
              rw [e, List.map_take]
              exact hown'
            obtain ⟨va', vc', hv'⟩ : ∃ a c, v' = .slice a (j + 1) c := by
              rcases hown'.2 with ⟨_, h0⟩ | ⟨g, cap, cur, hv, _⟩
              · omega
              · exact ⟨_, _, hv⟩
            subst hv'
            clear hown' hgrow HO2 HO3
            go_wp2_with fail
            go_roundw
            case rel => exact ⟨j + 1, by omega, by go_num, ⟨_, _, rfl⟩, HO4.out, HB3.out⟩
            case measure => simp [intOf]; omega
      · have hjn : j = n := by omega
        subst hjn
        obtain ⟨bk, hva⟩ : ∃ bk, va = some ⟨bk, 0, none⟩ := by
          rcases HO.out.2 with ⟨hv, hz⟩ | ⟨g', cap', cur, hv, _⟩
          · omega
          · simp only [Value.slice.injEq] at hv; exact ⟨g', hv.1⟩
        subst hva
        have htt : ts.take j = ts := List.take_of_length_le (by rw [HTN.out]; exact Nat.le_refl _)
        rw [htt] at HO
        obtain ⟨xs, hxs⟩ : ∃ xs : List ByteArray, xs = ts.map fun t => ⟨t.toArray⟩ := ⟨_, rfl⟩
        have hxl : xs.length = j := by rw [hxs, List.length_map, HTN.out]
        have hxm : xs.map (·.data.toList) = ts := by rw [hxs, List.map_map]; exact (List.map_congr_left (fun a _ => by simp)).trans (List.map_id ts)
        have hvc : j ≤ vc := by
          rcases HO.out.2 with ⟨hv, hz⟩ | ⟨g', cap', cur, hv, _, _, hnc, _⟩
          · omega
          · simp only [Value.slice.injEq] at hv; omega
        have hbk : bk < wr.heap.size := (HO.out.lt bk rfl).2
        have HJ := hide (Tryz.strings_Join bk 0 vc xs ⟨#[32, 38, 32]⟩ wr (fun i x hx => by
          rw [hxs, List.getElem?_map] at hx
          cases e : ts[i]? with
          | none => rw [e] at hx; simp at hx
          | some t =>
            rw [e] at hx
            simp only [Option.map_some, Option.some.injEq] at hx
            have hil : i < ts.length := by
              by_cases h : i < ts.length
              · exact h
              · rw [List.getElem?_eq_none (by omega)] at e; simp at e
            rw [Nat.zero_add, HO.out.cellAt i (by have := HTN.out; omega), List.getElem?_map, e, ← hx]
            rfl) hbk (by omega) (by omega) (by rw [hxm, join_join]; have := HLEN.out; show (Ex.join [32, 38, 32] ts).length ≤ _; omega))
        rw [hxl, hxm, join_join] at HJ
        change Hid (Calls _ _ _ _ fun e w' => e = .returned (.string ⟨(Ex.join [32, 38, 32] ts).toArray⟩) ∧ _) at HJ
        clear hxs hxl hxm hvc hbk htt
        have hcc : ((⟨#[32]⟩ : ByteArray) ++ ⟨#[38]⟩ ++ ⟨#[32]⟩) = ⟨#[32, 38, 32]⟩ := by decide
        go_wp2_with fail
        refine (hcc ▸ HJ.out).mono ?_
        rintro e w5 ⟨rfl, hb5⟩
        have HB5 := hide hb5
        clear hb5
        go_wp2_with fail
        go_ret
        exact ⟨ret_str (by rw [HF.out]), HB.out.trans (HB5.out.mono HB.out.size)⟩
set_option maxHeartbeats 4000000 in
set_option maxRecDepth 100000 in
theorem rtext_7 (nm : List UInt8) (l : List Ex) (ih : ∀ y, y ∈ l → TextRK y) : TextRK ⟨7, nm, l⟩ := by
  intro g w h hlen
  have HIH := hide ih
  clear ih
  rw [IsRx.def] at h
  obtain ⟨_, hwf, hln, hk, hn, sv, hsv, hof⟩ := h
  simp only [kindS] at hk
  have h2 : 2 ≤ l.length := by rcases hwf with h | h | h | h <;> omega
  rcases hof with ⟨h0, _⟩ | ⟨_, b, cap, rfl, hcap, _, hrow⟩
  · omega
  · have HROW := hide hrow
    obtain ⟨ts, hts⟩ : ∃ ts, ts = l.map (fun x => Ex.par (decide (7 ≤ x.kind)) x.text) := ⟨_, rfl⟩
    have HTS := hide hts
    have HF : Hid ((⟨7, nm, l⟩ : Ex).text = Ex.join [32, 124, 32] ts) := by show _ = _; rw [hts]; exact Ex.text7 nm l
    rw [HF.out] at hlen
    have HLEN := hide hlen
    have HPART : Hid (∀ a, a ∈ ts → a.length ≤ 1000000) := fun a ha => Nat.le_trans (join_part _ ts a ha) hlen
    obtain ⟨n, hn'⟩ : ∃ n, n = l.length := ⟨_, rfl⟩
    have HN := hide hn'
    have HTN : Hid (ts.length = n) := by show _ = _; rw [hts, hn']; simp
    rw [← hn'] at hcap h2 hsv hln
    obtain ⟨i0, hi0, hz0, hz1, hz2⟩ := info_parts Tryz.infoStrX
    clear hn' hrow hwf hts hlen hn
    go_enter Tryz.func29, Tryz.ntmps29
    go_wp2_with fail
    go_loopw [72, 4] (fun i v wr => ∃ j : Nat, j ≤ n ∧ i = .int .i64 (j : Int) ∧ (∃ a c, v = .slice a j c) ∧ Hid (wr.ownsRow w.heap.size 9 1 v j ((ts.take j).map strW)) ∧ Hid (Below w.heap.size w wr)) (fun i _ _ => n - (intOf i).toNat)
    case atStart => exact ⟨0, Nat.zero_le _, rfl, ⟨_, _, rfl⟩, World.ownsRow_nil _ _ _ _, Below.refl _ _⟩
    case round =>
      obtain ⟨j, hj, rfl, ⟨va, vc, rfl⟩, HO, HB⟩ := hrel
      have hkr : wr.cell? ⟨g, 0, none⟩ = some (.string ⟨#[124]⟩) := (HB.out.cell (World.block_lt_of_cell? _ _ hk)).trans hk
      by_cases hlt : j < n
      · have hjl : j < l.length := by rw [← HN.out]; exact hlt
        have hjt : j < ts.length := by rw [HTN.out]; exact hlt
        obtain ⟨gy, hcell0, hxu⟩ := HROW.out j (IsRx (fun _ => True) w l[j]) (by rw [List.getElem?_map, List.getElem?_eq_getElem hjl]; rfl)
        have hcell := (HB.out.cell (World.block_lt_of_cell? _ _ hcell0)).trans hcell0
        have hyy := hxu.on HB.out
        have htj : ts[j] = Ex.par (decide (7 ≤ l[j].kind)) l[j].text := by simp [HTS.out]
        have hpl := Ex.par_le (decide (7 ≤ l[j].kind)) l[j].text
        rw [← htj] at hpl
        have hpt := HPART.out ts[j] (List.getElem_mem hjt)
        have HC := hide (HIH.out l[j] (List.getElem_mem hjl) gy wr hyy (by omega))
        have HTJ : Hid (ts.take (j + 1) = ts.take j ++ [Ex.par (decide (7 ≤ l[j].kind)) l[j].text]) := by show _ = _; rw [List.take_succ_eq_append_getElem hjt, htj]
        have hTl : l[j].text.length ≤ 1000000 := by omega
        clear hcell0 hxu htj hpl hpt hjt
        generalize l[j] = y at *
        obtain ⟨ky, nmy, ly⟩ := y
        rw [IsRx.def] at hyy
        obtain ⟨_, hwfy, _, hky, _⟩ := hyy
        have h7 := kind_or ky hwfy.le
        clear hwfy hjl
        change Hid (_ = _ ++ [Ex.par (decide (7 ≤ ky)) _]) at HTJ
        generalize kindS ky = kk at *
        generalize (⟨ky, nmy, ly⟩ : Ex).text = T at *
        go_wp2_with fail
        refine HC.out.mono ?_
        rintro e w2 ⟨rfl, hb2⟩
        have HB2 := hide hb2
        have hky2 := (hb2.cell (World.block_lt_of_cell? _ _ hky)).trans hky
        have hk2 := (hb2.cell (World.block_lt_of_cell? _ _ hkr)).trans hkr
        have HO2 := hide (HO.out.kept (row := none) ⟨hb2.os, hb2.tape, hb2.output, hb2.size, fun k hk _ => hb2.block k hk⟩ (by cases (Value.slice va j vc).ownBlock <;> simp))
        have HBW2 := hide (HB.out.trans (hb2.mono HB.out.size))
        clear hb2 HC
        go_upto_region 19 with fail
        go_cut [96] (fun t wx => t = .bool (decide (7 ≤ ky)) ∧ w2 = wx)
        case first =>
          rcases h7 with ⟨rfl, h7⟩ | ⟨rfl, h7⟩ | ⟨h38, h124, h7⟩
          · have hd : decide (7 ≤ ky) = true := decide_eq_true (by omega)
            have HD := hide hd
            clear hd
            go_wp2_with fail
            go_meet
            exact ⟨by rw [HD.out], rfl⟩
          · have hd : decide (7 ≤ ky) = false := decide_eq_false (by omega)
            have HD := hide hd
            clear hd
            go_wp2_with fail
            go_meet
            exact ⟨by rw [HD.out], rfl⟩
          · have hd : decide (7 ≤ ky) = false := decide_eq_false (by omega)
            have HD := hide hd
            clear hd
            go_wp2_with fail
            go_meet
            exact ⟨by rw [HD.out], rfl⟩
        case rest =>
          obtain ⟨rfl, rfl⟩ := hcut
          clear h7
          generalize decide (7 ≤ ky) = bp at *
          cases bp with
          | true =>
            have hsz2 := HBW2.out.size
            have HO3 := hide (HO2.out.alloc (.cells #[.string ((⟨#[40]⟩ : ByteArray) ++ ⟨T.toArray⟩ ++ ⟨#[41]⟩)] 9))
            go_wp2_with (at_builtin; refine wpList_append_own _ rfl _ _ 22 rfl w.heap.size 9 i0 (.string ⟨#[]⟩) 1 16 Tryz.underlying22 hi0 hz0 hz1 hz2 rfl (by decide) _ j ((ts.take j).map strW) rfl HO3.out ⟨w2.heap.size, 0, none⟩ 1 1 [.string ((⟨#[40]⟩ : ByteArray) ++ ⟨T.toArray⟩ ++ ⟨#[41]⟩)] rfl rfl (cell_one_new _ _ _) ?c2 ?c3 ?c4 ?c5 ?_)
            case c2 => intro z hz; simp only [List.mem_singleton] at hz; subst hz; rfl
            case c3 => unfold maxLen; omega
            case c4 => omega
            case c5 => simp; omega
            intro v' w3 hown' hgrow _
            have HB3 := hide (HBW2.out.trans (((Below.refl w.heap.size w2).alloc HBW2.out.size _).grown hgrow (by have := HBW2.out.size; simp; omega) (fun k hk => (HO2.out.lt k hk).1)))
            have HO4 : Hid (w3.ownsRow w.heap.size 9 1 v' (j + 1) ((ts.take (j + 1)).map strW)) := by
              show World.ownsRow _ _ _ _ _ _ _
              have e : ((ts.take (j + 1)).map strW) = (ts.take j).map strW ++ [.string ((⟨#[40]⟩ : ByteArray) ++ ⟨T.toArray⟩ ++ ⟨#[41]⟩)] := by
                rw [HTJ.out, List.map_append]
                simp only [List.map_cons, List.map_nil, strW]
                rw [show ((⟨#[40]⟩ : ByteArray) ++ ⟨T.toArray⟩ ++ ⟨#[41]⟩) = ⟨(Ex.par true T).toArray⟩ from (congrArg (· ++ (⟨#[41]⟩ : ByteArray)) (ba_cat [40] T)).trans ((ba_cat _ [41]).trans (by simp [Ex.par]))]
              rw [e, List.map_take]
              exact hown'
            obtain ⟨va', vc', hv'⟩ : ∃ a c, v' = .slice a (j + 1) c := by
              rcases hown'.2 with ⟨_, h0⟩ | ⟨g, cap, cur, hv, _⟩
              · omega
              · exact ⟨_, _, hv⟩
            subst hv'
            clear hown' hgrow HO2 HO3
            go_wp2_with fail
            go_roundw
            case rel => exact ⟨j + 1, by omega, by go_num, ⟨_, _, rfl⟩, HO4.out, HB3.out⟩
            case measure => simp [intOf]; omega
          | false =>
            have hsz2 := HBW2.out.size
            have HO3 := hide (HO2.out.alloc (.cells #[.string (⟨T.toArray⟩ : ByteArray)] 9))
            go_wp2_with (at_builtin; refine wpList_append_own _ rfl _ _ 22 rfl w.heap.size 9 i0 (.string ⟨#[]⟩) 1 16 Tryz.underlying22 hi0 hz0 hz1 hz2 rfl (by decide) _ j ((ts.take j).map strW) rfl HO3.out ⟨w2.heap.size, 0, none⟩ 1 1 [.string (⟨T.toArray⟩ : ByteArray)] rfl rfl (cell_one_new _ _ _) ?d2 ?d3 ?d4 ?d5 ?_)
            case d2 => intro z hz; simp only [List.mem_singleton] at hz; subst hz; rfl
            case d3 => unfold maxLen; omega
            case d4 => omega
            case d5 => simp; omega
            intro v' w3 hown' hgrow _
            have HB3 := hide (HBW2.out.trans (((Below.refl w.heap.size w2).alloc HBW2.out.size _).grown hgrow (by have := HBW2.out.size; simp; omega) (fun k hk => (HO2.out.lt k hk).1)))
            have HO4 : Hid (w3.ownsRow w.heap.size 9 1 v' (j + 1) ((ts.take (j + 1)).map strW)) := by
              show World.ownsRow _ _ _ _ _ _ _
              have e : ((ts.take (j + 1)).map strW) = (ts.take j).map strW ++ [.string (⟨T.toArray⟩ : ByteArray)] := by
                rw [HTJ.out, List.map_append]
                simp only [List.map_cons, List.map_nil, strW]
                rfl
              rw [e, List.map_take]
              exact hown'
            obtain ⟨va', vc', hv'⟩ : ∃ a c, v' = .slice a (j + 1) c := by
              rcases hown'.2 with ⟨_, h0⟩ | ⟨g, cap, cur, hv, _⟩
              · omega
              · exact ⟨_, _, hv⟩
            subst hv'
            clear hown' hgrow HO2 HO3
            go_wp2_with fail
            go_roundw
            case rel => exact ⟨j + 1, by omega, by go_num, ⟨_, _, rfl⟩, HO4.out, HB3.out⟩
            case measure => simp [intOf]; omega
      · have hjn : j = n := by omega
        subst hjn
        obtain ⟨bk, hva⟩ : ∃ bk, va = some ⟨bk, 0, none⟩ := by
          rcases HO.out.2 with ⟨hv, hz⟩ | ⟨g', cap', cur, hv, _⟩
          · omega
          · simp only [Value.slice.injEq] at hv; exact ⟨g', hv.1⟩
        subst hva
        have htt : ts.take j = ts := List.take_of_length_le (by rw [HTN.out]; exact Nat.le_refl _)
        rw [htt] at HO
        obtain ⟨xs, hxs⟩ : ∃ xs : List ByteArray, xs = ts.map fun t => ⟨t.toArray⟩ := ⟨_, rfl⟩
        have hxl : xs.length = j := by rw [hxs, List.length_map, HTN.out]
        have hxm : xs.map (·.data.toList) = ts := by rw [hxs, List.map_map]; exact (List.map_congr_left (fun a _ => by simp)).trans (List.map_id ts)
        have hvc : j ≤ vc := by
          rcases HO.out.2 with ⟨hv, hz⟩ | ⟨g', cap', cur, hv, _, _, hnc, _⟩
          · omega
          · simp only [Value.slice.injEq] at hv; omega
        have hbk : bk < wr.heap.size := (HO.out.lt bk rfl).2
        have HJ := hide (Tryz.strings_Join bk 0 vc xs ⟨#[32, 124, 32]⟩ wr (fun i x hx => by
          rw [hxs, List.getElem?_map] at hx
          cases e : ts[i]? with
          | none => rw [e] at hx; simp at hx
          | some t =>
            rw [e] at hx
            simp only [Option.map_some, Option.some.injEq] at hx
            have hil : i < ts.length := by
              by_cases h : i < ts.length
              · exact h
              · rw [List.getElem?_eq_none (by omega)] at e; simp at e
            rw [Nat.zero_add, HO.out.cellAt i (by have := HTN.out; omega), List.getElem?_map, e, ← hx]
            rfl) hbk (by omega) (by omega) (by rw [hxm, join_join]; have := HLEN.out; show (Ex.join [32, 124, 32] ts).length ≤ _; omega))
        rw [hxl, hxm, join_join] at HJ
        change Hid (Calls _ _ _ _ fun e w' => e = .returned (.string ⟨(Ex.join [32, 124, 32] ts).toArray⟩) ∧ _) at HJ
        clear hxs hxl hxm hvc hbk htt
        have hcc : ((⟨#[32]⟩ : ByteArray) ++ ⟨#[124]⟩ ++ ⟨#[32]⟩) = ⟨#[32, 124, 32]⟩ := by decide
        go_wp2_with fail
        refine (hcc ▸ HJ.out).mono ?_
        rintro e w5 ⟨rfl, hb5⟩
        have HB5 := hide hb5
        clear hb5
        go_wp2_with fail
        go_ret
        exact ⟨ret_str (by rw [HF.out]), HB.out.trans (HB5.out.mono HB.out.size)⟩
theorem rtext_any (x : Ex) : TextRK x := by
  induction x using Ex.ind with
  | h k nm l ih =>
    by_cases h4 : k ≤ 4
    · exact rtext_leaf k h4 nm l
    · by_cases h5 : k = 5
      · subst h5; exact rtext_not nm l ih
      · by_cases h6 : k = 6
        · subst h6; exact rtext_6 nm l ih
        · by_cases h7 : k = 7
          · subst h7; exact rtext_7 nm l ih
          · intro g w h
            rw [IsRx.def] at h
            have := h.2.1.le
            omega
end Go.Proofs.YtjfgfcajmkbmeaaGreatDoor
