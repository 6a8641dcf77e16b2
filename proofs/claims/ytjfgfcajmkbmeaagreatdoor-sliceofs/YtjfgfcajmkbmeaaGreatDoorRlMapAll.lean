/-
  The walk of package slice's Of: the program with only what some names hang on. The walks of package slice's Of where one of the names is none of the program's, and of Needs. Plain mathematics of chapter 12: what the document's Needs does: as many rounds over all rungs as there are names come to all that some names hang on. Nothing of the program is named here. A map of bools over texts that a call has made.
-/
import Derived.Test.YtjfgfcajmkbmeaaGreatDoorSlNeedEAll
import Derived.Test.YtjfgfcajmkbmeaaGreatDoorSlBuildAll
import Derived.Test.YtjfgfcajmkbmeaaGreatDoorLdTakeRAll
import Derived.Test.YtjfgfcajmkbmeaaGreatDoorRdListAll
import Derived.Test.YtjfgfcajmkbmeaaGreatDoorSlAddAll
import Derived.Test.YtjfgfcajmkbmeaaGreatDoorLdRepAll
import Derived.Maps.OwnSet
import Derived.Maps.OwnOps
import Derived.Maps.Views
namespace Go.Proofs.YtjfgfcajmkbmeaaGreatDoor
section
open Go.RowKit
namespace Sl
/-- does a name stay? -/
def stays (ns : List Ld.Nme) (m : List Bool) (n : Ld.Nme) : Bool := Sc.told ns m n.name || n.kind == 1
theorem told_self (p : Ld.Prg) (hck : Ld.check p = none) (m : List Bool) (k : Nat) (hk : k < p.names.length) : Sc.told p.names m p.names[k].name = m.getD k false := by
  have h := Rf.number_self p hck k hk
  rw [Rf.told_at _ _ _ (by omega), h, Int.toNat_natCast]
theorem take_filter {α : Type} (f : α → Bool) (l : List α) (k : Nat) (hk : k < l.length) : (l.take (k + 1)).filter f = if f l[k] then (l.take k).filter f ++ [l[k]] else (l.take k).filter f := by
  rw [List.take_succ_eq_append_getElem hk, List.filter_append]
  cases hf : f l[k] with
  | true => simp [hf]
  | false => simp [hf]
set_option maxHeartbeats 8000000 in
set_option maxRecDepth 100000 in
theorem Of_any (p : Ld.Prg) (v sv : Value) (names : List (List UInt8)) (w : World) (h : IsPrg w p v) (hck : Ld.check p = none) (hs : Strs w sv (names.map toBA)) (hkn : ∀ s, s ∈ names → 0 ≤ Ld.number p.names s) :
    Calls Tryz.prog 8 #[v, sv] w fun e w' => ∃ m pv, e = .returned (.tuple #[pv, .nilIface]) ∧ Needed p names m ∧ IsPrg w' (part p m) pv ∧ Below w.heap.size w w' := by
  have HPR := hide h
  have HCK := hide hck
  have HCR := hide (Ld.check_rungs p hck)
  have h12 := (Ld.check_names p hck).1
  have h40 := (Ld.check_names p hck).2.1
  obtain ⟨nv, rv, rfl, hn, hr⟩ := h
  have HNA := hide hn
  have HRA := hide hr
  obtain ⟨na, nc, rfl, _⟩ := hn.slice
  obtain ⟨ra, rc, rfl, _⟩ := hr.slice
  have HSS := hide hs
  obtain ⟨sa, sc, rfl, hsl, _⟩ := strs_cells hs
  have HKN := hide hkn
  obtain ⟨n, hnn⟩ : ∃ n, n = p.names.length := ⟨_, rfl⟩
  obtain ⟨q, hqq⟩ : ∃ q, q = p.rungs.length := ⟨_, rfl⟩
  obtain ⟨u, huu⟩ : ∃ u, u = names.length := ⟨_, rfl⟩
  have HN := hide hnn
  have HQ := hide hqq
  rw [← hnn] at HPR HNA h12 ⊢
  rw [← hqq] at HPR HRA h40 ⊢
  rw [← huu] at HSS hsl ⊢
  clear hn hr hnn hqq huu hck hs hkn
  obtain ⟨wA, hwA⟩ : ∃ wA, wA = (w.alloc (.cells #[.slice na n nc, .slice ra q rc] 26)).alloc (.cells #[.slice none 0 0, .slice none 0 0] 26) := ⟨_, rfl⟩
  have hbA : Below w.heap.size w wA := by rw [hwA]; exact ((Below.refl _ _).alloc (Nat.le_refl _) _).alloc (by simp) _
  have hsA : wA.heap.size = w.heap.size + 1 + 1 := by rw [hwA]; simp
  have hA0 : wA.heap[w.heap.size]? = some (.cells #[.slice na n nc, .slice ra q rc] 26 (0, 0)) := by rw [hwA]; exact (Below.heap_alloc _ _ _ (by simp)).trans (heap_alloc_new _ _)
  have hA1 : wA.heap[w.heap.size + 1]? = some (.cells #[.slice none 0 0, .slice none 0 0] 26 (0, 0)) := by
    rw [hwA]
    have := heap_alloc_new (w.alloc (.cells #[.slice na n nc, .slice ra q rc] 26)) (.cells #[.slice none 0 0, .slice none 0 0] 26)
    rw [World.size_alloc] at this
    exact this
  have HND := hide (needed_any p _ _ names wA (HPR.out.below hbA) HCK.out (HSS.out.below hbA) HKN.out)
  rw [hwA] at HND
  have HWA := hide hwA
  have HBA := hide hbA
  have HA0 := hide hA0
  have HA1 := hide hA1
  clear hwA hbA hA0 hA1
  go_enter Tryz.func8, Tryz.ntmps8
  go_wp2_with fail
  refine HND.out.mono ?_
  rintro e w1 ⟨m, gm, rfl, hnd, hgm, hb1⟩
  rw [← HWA.out] at hb1
  have HM := hide hnd
  have hz1 := hb1.size
  have hgl : gm < w1.heap.size := (Array.getElem?_eq_some_iff.1 hgm).1
  obtain ⟨wS, hwS⟩ : ∃ wS, wS = w1.alloc (.cells #[.slice none 0 0, .slice none 0 0] 26) := ⟨_, rfl⟩
  have hbS : Below w1.heap.size w1 wS := by rw [hwS]; exact (Below.refl _ _).alloc (Nat.le_refl _) _
  have HP0 : Hid (PN wS w1.heap.size [] (.slice none 0 0) wS) := ⟨Below.refl _ _, by rw [hwS]; exact heap_alloc_new _ _, ⟨rfl, .inl ⟨rfl, rfl⟩⟩, (fun n hn => by cases hn)⟩
  have HLOW : Hid (∀ W, Below w1.heap.size wS W → Below w.heap.size w W ∧ W.heap[gm]? = some (.cells ⟨m.map boolV⟩ 4 (0, 0)) ∧ W.heap[w.heap.size]? = some (.cells #[.slice na n nc, .slice ra q rc] 26 (0, 0)) ∧ W.heap[w.heap.size + 1]? = some (.cells #[.slice none 0 0, .slice none 0 0] 26 (0, 0))) := by
    intro W hW
    have h1 : Below w1.heap.size w1 W := hbS.trans hW
    have h2 : Below wA.heap.size wA W := hb1.trans (h1.mono hb1.size)
    exact ⟨HBA.out.trans (h2.mono HBA.out.size), (h1.block _ hgl).trans hgm, (h2.block _ (by omega)).trans HA0.out, (h2.block _ (by omega)).trans HA1.out⟩
  rw [← HN.out]
  obtain ⟨_, _, s0, _⟩ := HLOW.out wS (Below.refl _ _)
  have c0 : wS.cell? ⟨w.heap.size, 0, none⟩ = some (.slice na n nc) := by rw [Lib.cell_of_heap s0]; rfl
  have hzS : wS.heap.size = w1.heap.size + 1 := by rw [hwS]; simp
  rw [hwS] at c0
  clear hb1 HND hgm hbS hnd s0
  go_wp2_with fail
  rw [← hwS]
  clear hwS c0
  obtain ⟨b, hb⟩ : ∃ b, b = w1.heap.size := ⟨_, rfl⟩
  rw [← hb] at HP0 HLOW hz1 hgl hzS ⊢
  clear hb
  obtain ⟨iN, hiN, hzN0, hzN1, hzN2⟩ := info_parts Tryz.infoName
  obtain ⟨iR, hiR, hzR0, hzR1, hzR2⟩ := info_parts Tryz.infoRung
  go_loopw [26] (fun i wr => ∃ k : Nat, k ≤ n ∧ i = .int .i64 (k : Int) ∧ ∃ xv : Value, Hid (PN wS b ((p.names.take k).filter (stays p.names m)) xv wr)) (fun i _ => n - (intOf i).toNat)
  case atStart => exact ⟨0, Nat.zero_le _, rfl, _, HP0.out⟩
  case round =>
    obtain ⟨k, hk, rfl, xv, HPN⟩ := hrel
    generalize wr = wo at *
    obtain ⟨hlow, hgm, hb0, hb1⟩ := HLOW.out wo HPN.out.low
    have hzo := HPN.out.lt
    have f1 : ((p.names.take k).filter (stays p.names m)).length ≤ n := by
      refine Nat.le_trans (List.length_filter_le _ _) ?_
      rw [List.length_take, HN.out]
      omega
    by_cases hlt : k < n
    · have hkl : k < p.names.length := by rw [← HN.out]; exact hlt
      have HTF := hide (take_filter (stays p.names m) p.names k hkl)
      have hst : stays p.names m p.names[k] = (m.getD k false || p.names[k].kind == 1) := by unfold stays; rw [told_self p HCK.out m k hkl]
      obtain ⟨g, rfl, hcap, c1, c2, c3, c4, c5, c6⟩ : ∃ g, na = some ⟨g, 0, none⟩ ∧ n ≤ nc ∧ NameAt wo g k p.names[k] := by
        rcases HNA.out.below hlow with ⟨h0, _⟩ | ⟨g, cap, h1, h2, h3, h4⟩
        · rw [h0] at hkl; simp at hkl
        · simp only [Value.slice.injEq] at h1
          exact ⟨g, h1.1, by rw [h1.2.2, HN.out]; exact h2, h4 k _ (List.getElem?_eq_getElem hkl)⟩
      have HBD : Hid (p.names[k].name.length ≤ maxLen ∧ I64 p.names[k].kind ∧ I64 p.names[k].count) := ⟨c4, c5, c6⟩
      have cm : wo.cell? ⟨gm, k, none⟩ = some (.bool (m.getD k false)) := by
        rw [Lib.cell_of_heap hgm]
        have : k < m.length := by rw [HM.out.len]; exact hkl
        simp [boolV, this]
      generalize p.names[k] = y at *
      obtain ⟨nm, kd, ct⟩ := y
      simp only at c1 c2 c3 hst
      have HST := hide hst
      generalize m.getD k false = mb at *
      generalize hL : (p.names.take k).filter (stays p.names m) = L at *
      have HLN := hide f1
      obtain ⟨ln, hln⟩ : ∃ ln, ln = L.length := ⟨_, rfl⟩
      rw [← hln] at f1
      obtain ⟨xa, xc, rfl⟩ := own_slice HPN.out.on
      rw [← hln] at HPN
      have HLL := hide hln
      obtain ⟨wB, hwB⟩ : ∃ wB, wB = wo.alloc (.cells #[.string ⟨nm.toArray⟩, .int .i64 kd, .int .i64 ct] 62) := ⟨_, rfl⟩
      have hbB : Below wo.heap.size wo wB := by rw [hwB]; exact (Below.refl _ _).alloc (Nat.le_refl _) _
      have HPB := hide (HPN.out.below hbB)
      have hzB : wB.heap.size = wo.heap.size + 1 := by rw [hwB]; simp
      have HFIN : Hid (∀ (o : Obj) (g cap : Nat) (wC : World), wC.ownsRow (b + 1) 62 3 (.slice (some ⟨g, 0, none⟩) (ln + 1) cap) (ln + 1) (L.flatMap nmCells ++ nmCells ⟨nm, kd, ct⟩) → (wB.alloc o).grownBy wC (Value.slice xa ln xc).ownBlock →
          (wC.cell? ⟨b, 0, none⟩ = some (.slice xa ln xc) ∧ wC.frozen? ⟨b, 0, none⟩ = false) ∧ PN wS b (L ++ [⟨nm, kd, ct⟩]) (.slice (some ⟨g, 0, none⟩) (ln + 1) cap) (wC.setCell ⟨b, 0, none⟩ (.slice (some ⟨g, 0, none⟩) (ln + 1) cap))) := by
        intro o g cap wC h1 h2
        rw [HLL.out] at h1 h2 ⊢
        have h3 := HPB.out.below (W' := wB.alloc o) ((Below.refl _ _).alloc (Nat.le_refl _) _)
        rw [HLL.out] at h3
        exact h3.put ⟨nm, kd, ct⟩ HBD.out g cap h1 h2
      have HOWN : Hid (∀ o, (wB.alloc o).ownsRow (b + 1) 62 3 (.slice xa ln xc) ln (L.flatMap nmCells)) := fun o => by
        have h3 := HPB.out.on.alloc o
        rwa [← HLL.out] at h3
      have HONE : Hid (∀ u ∈ nmCells ⟨nm, kd, ct⟩, u.oneCell' = true) := by
        intro u hu
        simp only [nmCells, List.mem_cons, List.not_mem_nil, or_false] at hu
        rcases hu with rfl | rfl | rfl <;> rfl
      have d0 : wo.cell? ⟨b, 0, none⟩ = some (.slice xa ln xc) := by rw [Lib.cell_of_heap HPN.out.blk]; rfl
      have hgo : gm < wo.heap.size := by omega
      have HWB := hide hwB
      clear hst hln hlow hb0 hb1 hgm hwB hbB HBD HPN c4 c5 c6 hL
      have HNXT : Hid ((p.names.take (k + 1)).filter (stays p.names m) = if (mb || kd == 1) then L ++ [⟨nm, kd, ct⟩] else L) := by show _ = _; rw [HTF.out, HST.out]
      have HNEW : Hid (∀ o, (wB.alloc o).heap[wo.heap.size + 1]? = some o) := fun o => by have h3 := heap_alloc_new wB o; rw [hzB] at h3; exact h3
      rw [HWB.out] at HFIN HOWN HNEW
      clear HTF HST
      have hbo : b < wo.heap.size := hzo
      cases mb with
      | true =>
        go_wp2_with (at_builtin; refine wpList_append_lies _ rfl (.tmp 41) (.tmp 43) 23 rfl (b + 1) 62 iN _ 3 32 Tryz.underlying23 hiN hzN0 hzN1 hzN2 rfl (by decide) (.slice xa ln xc) ln (L.flatMap nmCells) rfl (HOWN.out _) ⟨wo.heap.size + 1, 0, none⟩ 1 1 (nmCells ⟨nm, kd, ct⟩) rfl rfl (World.news_of_block (HNEW.out _)) HONE.out (by decide) (by unfold maxLen; omega) (by omega) (by simp; omega) (wo.heap.size + 1 + 1) (by simp) ?_; intro g5 cap5 wC hown hgrow hat hltg; obtain ⟨⟨hcA, hfA⟩, hTA⟩ := HFIN.out _ g5 cap5 wC hown hgrow; have HTA := hide hTA; clear hTA hown hgrow hat)
        go_roundw
        case rel => exact ⟨k + 1, by omega, by go_num, _, by rw [HNXT.out]; exact HTA.out⟩
        case measure => simp [intOf]; omega
      | false =>
        by_cases hk1 : kd = 1
        · have hk2 : (kd == 1) = true := beq_iff_eq.2 hk1
          have HNX2 : Hid ((p.names.take (k + 1)).filter (stays p.names m) = L ++ [⟨nm, kd, ct⟩]) := by show _ = _; rw [HNXT.out, hk2]; rfl
          clear hk1
          go_wp2_with (at_builtin; refine wpList_append_lies _ rfl (.tmp 41) (.tmp 43) 23 rfl (b + 1) 62 iN _ 3 32 Tryz.underlying23 hiN hzN0 hzN1 hzN2 rfl (by decide) (.slice xa ln xc) ln (L.flatMap nmCells) rfl (HOWN.out _) ⟨wo.heap.size + 1, 0, none⟩ 1 1 (nmCells ⟨nm, kd, ct⟩) rfl rfl (World.news_of_block (HNEW.out _)) HONE.out (by decide) (by unfold maxLen; omega) (by omega) (by simp; omega) (wo.heap.size + 1 + 1) (by simp) ?_; intro g5 cap5 wC hown hgrow hat hltg; obtain ⟨⟨hcA, hfA⟩, hTA⟩ := HFIN.out _ g5 cap5 wC hown hgrow; have HTA := hide hTA; clear hTA hown hgrow hat)
          go_roundw
          case rel => exact ⟨k + 1, by omega, by go_num, _, by rw [HNX2.out]; exact HTA.out⟩
          case measure => simp [intOf]; omega
        · have hk2 : (kd == 1) = false := beq_eq_false_iff_ne.2 hk1
          have HNX2 : Hid ((p.names.take (k + 1)).filter (stays p.names m) = L) := by show _ = _; rw [HNXT.out, hk2]; rfl
          go_wp2_with fail
          go_roundw
          case rel => exact ⟨k + 1, by omega, by go_num, _, by rw [HNX2.out]; rw [HWB.out] at HPB; exact HPB.out⟩
          case measure => simp [intOf]; omega
    · have hkn : n = k := by omega
      subst hkn
      have hpt : (p.names.take n).filter (stays p.names m) = (part p m).names := by
        rw [HN.out, List.take_length]
        rfl
      rw [hpt] at HPN f1
      have hp6 : (part p m).names.length ≤ 1000000 := by omega
      have HR0 := hide (HPN.out.rungs hp6)
      obtain ⟨xa, xc, rfl⟩ := own_slice HPN.out.on
      have d1 : wo.cell? ⟨w.heap.size, 1, none⟩ = some (.slice ra q rc) := by rw [Lib.cell_of_heap hb0]; rfl
      have hwo : w.heap.size < wo.heap.size := by omega
      clear hlow hgm hb0 hb1 HPN hpt
      go_wp2_with fail
      generalize (part p m).names.length = xl at *
      go_loopw [50] (fun i wr => ∃ k : Nat, k ≤ q ∧ i = .int .i64 (k : Int) ∧ ∃ (yv : Value) (rs : List (Ld.Rng × Value)), Hid (PR wS b (part p m).names rs (.slice xa xl xc) yv wr) ∧ Hid ((rs.map fun r => r.1) = (p.rungs.take k).filter fun r => Sc.told p.names m r.name)) (fun i _ => q - (intOf i).toNat)
      case atStart => exact ⟨0, Nat.zero_le _, rfl, _, [], HR0.out, rfl⟩
      case round =>
        obtain ⟨j, hj, rfl, yv, rs, HPR2, HRS⟩ := hrel
        obtain ⟨hlow, hgm, hb0, hb1⟩ := HLOW.out wr HPR2.out.low
        have hzr := HPR2.out.lt
        have hlr : rs.length ≤ q := by
          have h3 := congrArg List.length HRS.out
          rw [List.length_map] at h3
          rw [h3]
          refine Nat.le_trans (List.length_filter_le _ _) ?_
          rw [List.length_take]
          omega
        obtain ⟨ya, yc, rfl⟩ := own_slice HPR2.out.org
        by_cases hlt2 : j < q
        · have hjl : j < p.rungs.length := by rw [← HQ.out]; exact hlt2
          have HTF := hide (take_filter (fun r : Ld.Rng => Sc.told p.names m r.name) p.rungs j hjl)
          obtain ⟨r, hr⟩ : ∃ r, r = p.rungs[j] := ⟨_, rfl⟩
          have hrm : r ∈ p.rungs := by rw [hr]; exact List.getElem_mem hjl
          obtain ⟨g, rfl, hcap, hrg⟩ : ∃ g, ra = some ⟨g, 0, none⟩ ∧ q ≤ rc ∧ RungAt wr g j r := by
            rcases HRA.out.below hlow with ⟨h0, _⟩ | ⟨g, cap, h1, h2, h3, h4⟩
            · rw [h0] at hjl; simp at hjl
            · simp only [Value.slice.injEq] at h1
              exact ⟨g, h1.1, by rw [h1.2.2, HQ.out]; exact h2, h4 j r (by rw [hr]; exact List.getElem?_eq_getElem hjl)⟩
          obtain ⟨x, hx⟩ : ∃ x, r.cond = some x := by
            obtain ⟨_, _, _, _, x, h1, h2⟩ := HCR.out r hrm
            exact ⟨x, h1⟩
          have hnum : 0 ≤ Ld.number p.names r.name := (HCR.out r hrm).2.2.1
          have hnl := Ld.number_lt p.names r.name
          rw [← HN.out] at hnl
          obtain ⟨v, c0, c1, c2, c3, c4, c5⟩ := hrg
          have HCD := hide c5
          rw [hx] at c5
          obtain ⟨tu, yu, rfl⟩ := IsEx.iface x v c5.1
          rw [← hr] at HTF
          have htl : Sc.told p.names m r.name = m.getD (Ld.number p.names r.name).toNat false := Rf.told_at _ _ _ hnum
          obtain ⟨nu, hnu⟩ : ∃ nu : Nat, Ld.number p.names r.name = (nu : Int) := ⟨(Ld.number p.names r.name).toNat, by omega⟩
          obtain ⟨kd, rn, cd⟩ := r
          simp only at c0 c1 c3 c4 hnum hnl htl hnu HCD
          have HBD : Hid (rn.length ≤ maxLen ∧ I64 kd) := ⟨c3, c4⟩
          rw [hnu, Int.toNat_natCast] at htl
          have HTL := hide htl
          obtain ⟨wB, hwB⟩ : ∃ wB, wB = wr.alloc (.cells #[.int .i64 kd, .string ⟨rn.toArray⟩, .iface tu yu] 66) := ⟨_, rfl⟩
          have hbB : Below wr.heap.size wr wB := by rw [hwB]; exact (Below.refl _ _).alloc (Nat.le_refl _) _
          have hzB : wB.heap.size = wr.heap.size + 1 := by rw [hwB]; simp
          have hB1 : wB.heap[wr.heap.size]? = some (.cells #[.int .i64 kd, .string ⟨rn.toArray⟩, .iface tu yu] 66 (0, 0)) := by rw [hwB]; exact heap_alloc_new _ _
          have HB1 := hide hB1
          have HNU := hide (Number_any p.names (.slice na n nc) (.slice (some ⟨g, 0, none⟩) q rc) rn wB ((HNA.out.below hlow).below hbB) ⟨_, _, _, rfl⟩)
          rw [hnu, hwB] at HNU
          have e0 : wr.cell? ⟨w.heap.size, 0, none⟩ = some (.slice na n nc) := by rw [Lib.cell_of_heap hb0]; rfl
          have e1 : wr.cell? ⟨w.heap.size, 1, none⟩ = some (.slice (some ⟨g, 0, none⟩) q rc) := by rw [Lib.cell_of_heap hb0]; rfl
          have hwr : w.heap.size < wr.heap.size := by omega
          have hgr : gm < wr.heap.size := by omega
          have hbr : b < wr.heap.size := hzr
          have HGM := hide hgm
          have HWB := hide hwB
          have HBB := hide hbB
          have hnn : nu < n := by omega
          have hml : m.length = n := by rw [HM.out.len, HN.out]
          clear hr hrm hx hwB hbB hB1 hlow hgm hb0 hb1 c3 c4 c5 hnum hnl htl d1 hnu
          go_wp2_with fail
          refine HNU.out.mono ?_
          rintro e w4 ⟨rfl, hb4⟩
          rw [← HWB.out] at hb4
          have hbr4 : Below wr.heap.size wr w4 := HBB.out.trans (hb4.mono HBB.out.size)
          have HP4 := hide (HPR2.out.below hbr4)
          have HC4 := hide (HCD.out.below hbr4)
          have cm : w4.cell? ⟨gm, nu, none⟩ = some (.bool (m.getD nu false)) := by
            rw [Lib.cell_of_heap ((hbr4.block _ hgr).trans HGM.out)]
            have : nu < m.length := by omega
            simp [boolV, this]
          have h4r := (hb4.block wr.heap.size (by omega)).trans HB1.out
          have r0 : w4.cell? ⟨wr.heap.size, 0, none⟩ = some (.int .i64 kd) := by rw [Lib.cell_of_heap h4r]; rfl
          have r1 : w4.cell? ⟨wr.heap.size, 1, none⟩ = some (.string ⟨rn.toArray⟩) := by rw [Lib.cell_of_heap h4r]; rfl
          have r2 : w4.cell? ⟨wr.heap.size, 2, none⟩ = some (.iface tu yu) := by rw [Lib.cell_of_heap h4r]; rfl
          have hz4 := hb4.size
          generalize m.getD nu false = mb at *
          cases mb with
          | false =>
            have HNX : Hid ((rs.map fun r => r.1) = (p.rungs.take (j + 1)).filter fun r => Sc.told p.names m r.name) := by
              show _ = _
              rw [HTF.out, HRS.out, HTL.out]
              rfl
            clear h4r hb4 hbr4 HNU
            go_wp2_with fail
            go_roundw
            case rel =>
              exact ⟨j + 1, by omega, by go_num, _, rs, HP4.out, HNX.out⟩
            case measure => simp [intOf]; omega
          | true =>
            have HNX : Hid (((rs ++ [((⟨kd, rn, cd⟩ : Ld.Rng), Value.iface tu yu)]).map fun r => r.1) = (p.rungs.take (j + 1)).filter fun r => Sc.told p.names m r.name) := by
              show _ = _
              rw [HTF.out, List.map_append, HRS.out, HTL.out]
              rfl
            obtain ⟨ln, hln⟩ : ∃ ln, ln = rs.length := ⟨_, rfl⟩
            rw [← hln] at HP4 hlr
            have HLL := hide hln
            have HFIN : Hid (∀ (o : Obj) (g cap : Nat) (wC : World), wC.ownsRow (b + 1) 66 3 (.slice (some ⟨g, 0, none⟩) (ln + 1) cap) (ln + 1) (rs.flatMap rgCells ++ rgCells (⟨kd, rn, cd⟩, .iface tu yu)) → (w4.alloc o).grownBy wC (Value.slice ya ln yc).ownBlock →
                (wC.cell? ⟨b, 1, none⟩ = some (.slice ya ln yc) ∧ wC.frozen? ⟨b, 1, none⟩ = false) ∧ PR wS b (part p m).names (rs ++ [(⟨kd, rn, cd⟩, .iface tu yu)]) (.slice xa xl xc) (.slice (some ⟨g, 0, none⟩) (ln + 1) cap) (wC.setCell ⟨b, 1, none⟩ (.slice (some ⟨g, 0, none⟩) (ln + 1) cap))) := by
              intro o g cap wC h1 h2
              rw [HLL.out] at h1 h2 ⊢
              have h3 := HP4.out.below (W' := w4.alloc o) ((Below.refl _ _).alloc (Nat.le_refl _) _)
              rw [HLL.out] at h3
              exact h3.put (⟨kd, rn, cd⟩, .iface tu yu) ⟨HBD.out.1, HBD.out.2, HC4.out.below ((Below.refl _ _).alloc (Nat.le_refl _) _)⟩ g cap h1 h2
            have HOWN : Hid (∀ o, (w4.alloc o).ownsRow (b + 1) 66 3 (.slice ya ln yc) ln (rs.flatMap rgCells)) := fun o => by
              have h3 := HP4.out.org.alloc o
              rwa [← HLL.out] at h3
            have HONE : Hid (∀ u ∈ rgCells (⟨kd, rn, cd⟩, .iface tu yu), u.oneCell' = true) := by
              intro u hu
              simp only [rgCells, List.mem_cons, List.not_mem_nil, or_false] at hu
              rcases hu with rfl | rfl | rfl <;> rfl
            have d0 : w4.cell? ⟨b, 1, none⟩ = some (.slice ya ln yc) := by rw [Lib.cell_of_heap HP4.out.blk]; rfl
            have hb4s : b < w4.heap.size := HP4.out.lt
            clear h4r hb4 hbr4 HNU hln HPR2
            go_wp2_with (at_builtin; refine wpList_append_lies _ rfl (.tmp 62) (.tmp 64) 24 rfl (b + 1) 66 iR _ 3 40 Tryz.underlying24 hiR hzR0 hzR1 hzR2 rfl (by decide) (.slice ya ln yc) ln (rs.flatMap rgCells) rfl (HOWN.out _) ⟨w4.heap.size, 0, none⟩ 1 1 (rgCells (⟨kd, rn, cd⟩, .iface tu yu)) rfl rfl (World.news_of_block (heap_alloc_new w4 _)) HONE.out (by decide) (by unfold maxLen; omega) (by omega) (by simp; omega) (w4.heap.size + 1) (by simp) ?_; intro g5 cap5 wC hown hgrow hat hltg; obtain ⟨⟨hcA, hfA⟩, hTA⟩ := HFIN.out _ g5 cap5 wC hown hgrow; have HTA := hide hTA; clear hTA hown hgrow hat)
            go_roundw
            case rel =>
              exact ⟨j + 1, by omega, by go_num, _, _, HTA.out, HNX.out⟩
            case measure => simp [intOf]; omega
        · have hjq : j = q := by omega
          have e0 : wr.cell? ⟨b, 0, none⟩ = some (.slice xa xl xc) := by rw [Lib.cell_of_heap HPR2.out.blk]; rfl
          have e1 : wr.cell? ⟨b, 1, none⟩ = some (.slice ya rs.length yc) := by rw [Lib.cell_of_heap HPR2.out.blk]; rfl
          obtain ⟨_, _, _, hb1⟩ := HLOW.out wr HPR2.out.low
          have f0 : wr.frozen? ⟨w.heap.size + 1, 0, none⟩ = false := Lib.frozen_of_heap hb1 0
          have f1 : wr.frozen? ⟨w.heap.size + 1, 1, none⟩ = false := Lib.frozen_of_heap hb1 1
          have g0 : wr.cell? ⟨w.heap.size + 1, 0, none⟩ = some (.slice none 0 0) := by rw [Lib.cell_of_heap hb1]; rfl
          have g1 : wr.cell? ⟨w.heap.size + 1, 1, none⟩ = some (.slice none 0 0) := by rw [Lib.cell_of_heap hb1]; rfl
          obtain ⟨wF, hwF⟩ : ∃ wF, wF = (wr.setCell ⟨w.heap.size + 1, 0, none⟩ (.slice xa xl xc)).setCell ⟨w.heap.size + 1, 1, none⟩ (.slice ya rs.length yc) := ⟨_, rfl⟩
          have hst : PStay wr wF := fun g i u hp hc => by
            have hne : g ≠ w.heap.size + 1 := by
              intro e
              rcases hp with ⟨s, h1⟩ | ⟨t, y, h1⟩
              · rw [e, g0] at h1; cases h1
              · rw [e, g0] at h1; cases h1
            rw [hwF, World.cell?_of_block (Below.heap_setCell _ _ _ _ (fun e => hne e)), World.cell?_of_block (Below.heap_setCell _ _ _ _ (fun e => hne e))]
            exact hc
          have hlo : Below w.heap.size w wF := by rw [hwF]; exact ((HLOW.out wr HPR2.out.low).1.setCell (by simp) _).setCell (by simp) _
          have hF : wF.heap[w.heap.size + 1]? = some (.cells #[.slice xa xl xc, .slice ya rs.length yc] 26 (0, 0)) := by rw [hwF]; simp [World.setCell, Array.getElem?_modify, hb1]
          have k0 : wF.cell? ⟨w.heap.size + 1, 0, none⟩ = some (.slice xa xl xc) := by rw [Lib.cell_of_heap hF]; rfl
          have k1 : wF.cell? ⟨w.heap.size + 1, 1, none⟩ = some (.slice ya rs.length yc) := by rw [Lib.cell_of_heap hF]; rfl
          have hgw : wr.grownBy wF (some (w.heap.size + 1)) := by
            rw [hwF]
            exact ⟨rfl, rfl, rfl, by simp [World.setCell], fun k _ hk => (Below.heap_setCell _ _ _ _ (fun e => hk (by simp [e]))).trans (Below.heap_setCell _ _ _ _ (fun e => hk (by simp [e])))⟩
          have HFN : Hid (IsPrg wF (part p m) (.agg #[.slice xa xl xc, .slice ya rs.length yc])) := by
            have h2 : PR wF b (part p m).names rs (.slice xa xl xc) (.slice ya rs.length yc) wF := by
              refine ⟨Below.refl _ _, (hgw.block b hzr (fun e => by simp at e; omega)).trans HPR2.out.blk, names_stay hst HPR2.out.nat, HPR2.out.org.kept hgw ?_, fun r hr => ⟨(HPR2.out.br r hr).1, (HPR2.out.br r hr).2.1, cond_stay hst (HPR2.out.br r hr).2.2⟩, HPR2.out.e0⟩
              cases ho : (Value.slice ya rs.length yc).ownBlock with
              | none => exact .inl rfl
              | some g => right; intro e; have := (HPR2.out.org.lt g ho).1; simp at e; omega
            have h3 := h2.prg (by omega)
            rw [HRS.out, hjq, HQ.out, List.take_length] at h3
            exact h3
          have HLO := hide hlo
          clear hb1 hst hlo hgw hF
          go_wp2_with fail
          rw [← hwF]
          refine bodyPost_ret_by (v := .tuple #[.agg #[.slice xa xl xc, .slice ya rs.length yc], .nilIface]) ?_ rfl ?_
          · simp [results, Tryz.results8, go_sem, k0, k1]
          · exact ⟨m, _, rfl, HM.out, HFN.out, HLO.out⟩
end Sl
end
section
open Go.RowKit
namespace Sl
set_option maxHeartbeats 4000000 in
set_option maxRecDepth 100000 in
theorem Of_bad (p : Ld.Prg) (v sv : Value) (names : List (List UInt8)) (J : Nat) (hJ : J < names.length) (w : World) (h : IsPrg w p v) (hck : Ld.check p = none) (hs : Strs w sv (names.map toBA)) (hkn : ∀ i (hi : i < J), 0 ≤ Ld.number p.names names[i]) (hbad : Ld.number p.names names[J] < 0) :
    Calls Tryz.prog 8 #[v, sv] w fun e w' => e = .returned (.tuple #[.agg #[.slice none 0 0, .slice none 0 0], .iface 42 (.int .i64 7)]) ∧ Below w.heap.size w w' := by
  have HPR := hide h
  obtain ⟨nv, rv, rfl, hn, hr⟩ := h
  obtain ⟨na, nc, rfl, _⟩ := hn.slice
  obtain ⟨ra, rc, rfl, _⟩ := hr.slice
  have HSS := hide hs
  obtain ⟨sa, sc, rfl, hsl, _⟩ := strs_cells hs
  obtain ⟨n, hnn⟩ : ∃ n, n = p.names.length := ⟨_, rfl⟩
  obtain ⟨q, hqq⟩ : ∃ q, q = p.rungs.length := ⟨_, rfl⟩
  obtain ⟨u, huu⟩ : ∃ u, u = names.length := ⟨_, rfl⟩
  rw [← hnn] at HPR ⊢
  rw [← hqq] at HPR ⊢
  rw [← huu] at HSS ⊢
  obtain ⟨wA, hwA⟩ : ∃ wA, wA = (w.alloc (.cells #[.slice na n nc, .slice ra q rc] 26)).alloc (.cells #[.slice none 0 0, .slice none 0 0] 26) := ⟨_, rfl⟩
  have hbA : Below w.heap.size w wA := by rw [hwA]; exact ((Below.refl _ _).alloc (Nat.le_refl _) _).alloc (by simp) _
  have hsA : wA.heap.size = w.heap.size + 1 + 1 := by rw [hwA]; simp
  have hA1 : wA.heap[w.heap.size + 1]? = some (.cells #[.slice none 0 0, .slice none 0 0] 26 (0, 0)) := by
    rw [hwA]
    have := heap_alloc_new (w.alloc (.cells #[.slice na n nc, .slice ra q rc] 26)) (.cells #[.slice none 0 0, .slice none 0 0] 26)
    rw [World.size_alloc] at this
    exact this
  have HND := hide (needed_bad p _ _ names J hJ wA (HPR.out.below hbA) hck (HSS.out.below hbA) hkn hbad)
  rw [hwA] at HND
  have HWA := hide hwA
  have HBA := hide hbA
  have HA1 := hide hA1
  clear hwA hbA hA1 hn hr hs hkn hbad hnn hqq huu hck
  go_enter Tryz.func8, Tryz.ntmps8
  go_wp2_with fail
  refine HND.out.mono ?_
  rintro e w1 ⟨rfl, hb1⟩
  rw [← HWA.out] at hb1
  have hz1 := hb1.size
  have z1 := (hb1.block (w.heap.size + 1) (by omega)).trans HA1.out
  have y0 : w1.cell? ⟨w.heap.size + 1, 0, none⟩ = some (.slice none 0 0) := by rw [Lib.cell_of_heap z1]; rfl
  have y1 : w1.cell? ⟨w.heap.size + 1, 1, none⟩ = some (.slice none 0 0) := by rw [Lib.cell_of_heap z1]; rfl
  have u0 : w1.frozen? ⟨w.heap.size + 1, 0, none⟩ = false := Lib.frozen_of_heap z1 0
  have u1 : w1.frozen? ⟨w.heap.size + 1, 1, none⟩ = false := Lib.frozen_of_heap z1 1
  obtain ⟨wF, hwF⟩ : ∃ wF, wF = (w1.setCell ⟨w.heap.size + 1, 0, none⟩ (.slice none 0 0)).setCell ⟨w.heap.size + 1, 1, none⟩ (.slice none 0 0) := ⟨_, rfl⟩
  have hF : wF.heap[w.heap.size + 1]? = some (.cells #[.slice none 0 0, .slice none 0 0] 26 (0, 0)) := by rw [hwF]; simp [World.setCell, Array.getElem?_modify, z1]
  have k0 : wF.cell? ⟨w.heap.size + 1, 0, none⟩ = some (.slice none 0 0) := by rw [Lib.cell_of_heap hF]; rfl
  have k1 : wF.cell? ⟨w.heap.size + 1, 1, none⟩ = some (.slice none 0 0) := by rw [Lib.cell_of_heap hF]; rfl
  have HLO : Hid (Below w.heap.size w wF) := by
    show Below _ _ _
    rw [hwF]
    exact ((HBA.out.trans (hb1.mono HBA.out.size)).setCell (by simp) _).setCell (by simp) _
  clear hb1 z1 hF HND
  go_wp2_with fail
  rw [← hwF]
  refine bodyPost_ret_by (v := .tuple #[.agg #[.slice none 0 0, .slice none 0 0], .iface 42 (.int .i64 7)]) ?_ rfl ?_
  · simp [results, Tryz.results8, go_sem, k0, k1]
  · exact ⟨rfl, HLO.out⟩
set_option maxHeartbeats 4000000 in
theorem Needs_bad (p : Ld.Prg) (v sv : Value) (names : List (List UInt8)) (J : Nat) (hJ : J < names.length) (w : World) (h : IsPrg w p v) (hck : Ld.check p = none) (hs : Strs w sv (names.map toBA)) (hkn : ∀ i (hi : i < J), 0 ≤ Ld.number p.names names[i]) (hbad : Ld.number p.names names[J] < 0) :
    Calls Tryz.prog 7 #[v, sv] w fun e w' => e = .returned (.tuple #[.slice none 0 0, .iface 42 (.int .i64 7)]) ∧ Below w.heap.size w w' := by
  have HPR := hide h
  obtain ⟨nv, rv, rfl, hn, hr⟩ := h
  obtain ⟨na, nc, rfl, _⟩ := hn.slice
  obtain ⟨ra, rc, rfl, _⟩ := hr.slice
  have HSS := hide hs
  obtain ⟨sa, sc, rfl, _, _⟩ := strs_cells hs
  obtain ⟨n, hnn⟩ : ∃ n, n = p.names.length := ⟨_, rfl⟩
  obtain ⟨q, hqq⟩ : ∃ q, q = p.rungs.length := ⟨_, rfl⟩
  obtain ⟨u, huu⟩ : ∃ u, u = names.length := ⟨_, rfl⟩
  rw [← hnn] at HPR ⊢
  rw [← hqq] at HPR ⊢
  rw [← huu] at HSS ⊢
  obtain ⟨wA, hwA⟩ : ∃ wA, wA = w.alloc (.cells #[.slice na n nc, .slice ra q rc] 26) := ⟨_, rfl⟩
  have hbA : Below w.heap.size w wA := by rw [hwA]; exact (Below.refl _ _).alloc (Nat.le_refl _) _
  have HND := hide (needed_bad p _ _ names J hJ wA (HPR.out.below hbA) hck (HSS.out.below hbA) hkn hbad)
  rw [hwA] at HND
  have HWA := hide hwA
  have HBA := hide hbA
  clear hwA hbA hn hr hs hkn hbad hnn hqq huu hck
  go_enter Tryz.func7, Tryz.ntmps7
  go_wp2_with fail
  refine HND.out.mono ?_
  rintro e w1 ⟨rfl, hb1⟩
  rw [← HWA.out] at hb1
  have HB1 := hide (HBA.out.trans (hb1.mono HBA.out.size))
  clear hb1 HND
  go_wp2_with fail
  refine bodyPost_ret_by (v := .tuple #[.slice none 0 0, .iface 42 (.int .i64 7)]) ?_ rfl ?_
  · simp [results, Tryz.results7, go_sem]
  · exact ⟨rfl, HB1.out⟩
/-- the numbers of what is marked -/
def needTo (m : List Bool) (k : Nat) : List Nat := (List.range k).filter fun i => m.getD i false
theorem needTo_succ (m : List Bool) (k : Nat) : needTo m (k + 1) = needTo m k ++ (if m.getD k false then [k] else []) := by
  unfold needTo
  rw [List.range_succ, List.filter_append]
  congr 1
  rw [List.filter_cons, List.filter_nil]
theorem needTo_len (m : List Bool) (k : Nat) : (needTo m k).length ≤ k := Nat.le_trans (List.length_filter_le _ _) (by simp)
set_option maxHeartbeats 8000000 in
set_option maxRecDepth 100000 in
theorem Needs_any (p : Ld.Prg) (v sv : Value) (names : List (List UInt8)) (w : World) (h : IsPrg w p v) (hck : Ld.check p = none) (hs : Strs w sv (names.map toBA)) (hkn : ∀ s, s ∈ names → 0 ≤ Ld.number p.names s) :
    Calls Tryz.prog 7 #[v, sv] w fun e w' => ∃ m xv, e = .returned (.tuple #[xv, .nilIface]) ∧ Needed p names m ∧ w'.ownsRow w.heap.size 3 1 xv (needTo m p.names.length).length ((needTo m p.names.length).map intV) ∧ Below w.heap.size w w' := by
  have HPR := hide h
  have h12 := (Ld.check_names p hck).1
  obtain ⟨nv, rv, rfl, hn, hr⟩ := h
  obtain ⟨na, nc, rfl, _⟩ := hn.slice
  obtain ⟨ra, rc, rfl, _⟩ := hr.slice
  have HSS := hide hs
  obtain ⟨sa, sc, rfl, _, _⟩ := strs_cells hs
  obtain ⟨n, hnn⟩ : ∃ n, n = p.names.length := ⟨_, rfl⟩
  obtain ⟨q, hqq⟩ : ∃ q, q = p.rungs.length := ⟨_, rfl⟩
  obtain ⟨u, huu⟩ : ∃ u, u = names.length := ⟨_, rfl⟩
  have HN := hide hnn
  rw [← hnn] at HPR h12 ⊢
  rw [← hqq] at HPR ⊢
  rw [← huu] at HSS ⊢
  obtain ⟨wA, hwA⟩ : ∃ wA, wA = w.alloc (.cells #[.slice na n nc, .slice ra q rc] 26) := ⟨_, rfl⟩
  have hbA : Below w.heap.size w wA := by rw [hwA]; exact (Below.refl _ _).alloc (Nat.le_refl _) _
  have HND := hide (needed_any p _ _ names wA (HPR.out.below hbA) hck (HSS.out.below hbA) hkn)
  rw [hwA] at HND
  have HWA := hide hwA
  have HBA := hide hbA
  clear hwA hbA hn hr hs hkn hnn hqq huu hck
  go_enter Tryz.func7, Tryz.ntmps7
  go_wp2_with fail
  refine HND.out.mono ?_
  rintro e w1 ⟨m, gm, rfl, hnd, hgm, hb1⟩
  rw [← HWA.out] at hb1
  have HB1 := hide (HBA.out.trans (hb1.mono HBA.out.size))
  have HM := hide hnd
  have HGM := hide hgm
  have hgl : gm < w1.heap.size := (Array.getElem?_eq_some_iff.1 hgm).1
  have hml : m.length = n := by rw [hnd.len, HN.out]
  have hzw := HB1.out.size
  rw [← HN.out]
  obtain ⟨i0, hi0, hz0, hz1, hz2⟩ := info_parts Tryz.infoInt
  clear hb1 HND hnd hgm
  go_wp2_with fail
  go_loopw [8, 22] (fun xv i wr => ∃ k : Nat, k ≤ n ∧ i = .int .i64 (k : Int) ∧ Hid (wr.ownsRow w1.heap.size 3 1 xv (needTo m k).length ((needTo m k).map intV)) ∧ Hid (Below w1.heap.size w1 wr)) (fun _ i _ => n - (intOf i).toNat)
  case atStart => exact ⟨0, Nat.zero_le _, rfl, ⟨rfl, .inl ⟨rfl, rfl⟩⟩, Below.refl _ _⟩
  case round =>
    obtain ⟨k, hk, rfl, HOW, HBR⟩ := hrel
    obtain ⟨xa, xc, rfl⟩ := own_slice HOW.out
    have hkl := needTo_len m k
    by_cases hlt : k < n
    · have cm : wr.cell? ⟨gm, k, none⟩ = some (.bool (m.getD k false)) := by
        rw [Lib.cell_of_heap ((HBR.out.block _ hgl).trans HGM.out)]
        have : k < m.length := by omega
        simp [boolV, this]
      have HTS := hide (needTo_succ m k)
      generalize m.getD k false = mb at *
      have hzr := HBR.out.size
      cases mb with
      | false =>
        have HNX : Hid (needTo m (k + 1) = needTo m k) := by show _ = _; rw [HTS.out]; simp
        go_wp2_with fail
        go_roundw
        case rel => exact ⟨k + 1, by omega, by go_num, by rw [HNX.out]; exact HOW.out, HBR.out⟩
        case measure => simp [intOf]; omega
      | true =>
        obtain ⟨L, hL⟩ : ∃ L, L = (needTo m k).length := ⟨_, rfl⟩
        have HLL := hide hL
        rw [← hL] at HOW hkl
        rw [← hL]
        have HOWN : Hid (∀ o, (wr.alloc o).ownsRow w1.heap.size 3 1 (.slice xa L xc) L ((needTo m k).map intV)) := fun o => HOW.out.alloc o
        have HONE : Hid (∀ u ∈ [Value.int .i64 (k : Int)], u.oneCell' = true) := by intro u hu; simp at hu; subst hu; rfl
        have HFIN : Hid (∀ (o : Obj) (g cap : Nat) (wC : World), wC.ownsRow w1.heap.size 3 1 (.slice (some ⟨g, 0, none⟩) (L + 1) cap) (L + 1) ((needTo m k).map intV ++ [.int .i64 (k : Int)]) → (wr.alloc o).grownBy wC (Value.slice xa L xc).ownBlock →
            wC.ownsRow w1.heap.size 3 1 (.slice (some ⟨g, 0, none⟩) (L + 1) cap) (needTo m (k + 1)).length ((needTo m (k + 1)).map intV) ∧ Below w1.heap.size w1 wC) := by
          intro o g cap wC h1 h2
          have h3 : Below w1.heap.size w1 wC := (HBR.out.alloc hzr o).grown h2 (by simp; omega) (fun i e => ((HOWN.out o).lt i e).1)
          refine ⟨?_, h3⟩
          have e1 : needTo m (k + 1) = needTo m k ++ [k] := by rw [HTS.out]; simp
          rw [e1, List.length_append, List.map_append, ← HLL.out]
          exact h1
        clear hL
        go_wp2_with (at_builtin; refine wpList_append_lies _ rfl (.tmp 28) (.tmp 30) 34 rfl w1.heap.size 3 i0 _ 1 8 Tryz.underlying34 hi0 hz0 hz1 hz2 rfl (by decide) (.slice xa L xc) L ((needTo m k).map intV) rfl (HOWN.out _) ⟨wr.heap.size, 0, none⟩ 1 1 [.int .i64 (k : Int)] rfl rfl (World.news_of_block (heap_alloc_new wr _)) HONE.out (by decide) (by unfold maxLen; omega) (by omega) (by simp; omega) (wr.heap.size + 1) (by simp) ?_; intro g5 cap5 wC hown hgrow hat hltg; obtain ⟨how, hbl⟩ := HFIN.out _ g5 cap5 wC hown hgrow; have HOW5 := hide how; have HBL5 := hide hbl; clear how hbl hown hgrow hat)
        go_roundw
        case rel => exact ⟨k + 1, by omega, by go_num, HOW5.out, HBL5.out⟩
        case measure => simp [intOf]; omega
    · obtain rfl : n = k := by omega
      have HF := hide (HB1.out.trans (HBR.out.mono HB1.out.size))
      have HOF : Hid (wr.ownsRow w.heap.size 3 1 (.slice xa (needTo m n).length xc) (needTo m n).length ((needTo m n).map intV)) := by
        refine ⟨HOW.out.1, ?_⟩
        rcases HOW.out.2 with h1 | ⟨g, cap, cur, h1, h2, h3⟩
        · exact .inl h1
        · exact .inr ⟨g, cap, cur, h1, by omega, h3⟩
      obtain ⟨L, hL⟩ : ∃ L, L = (needTo m n).length := ⟨_, rfl⟩
      rw [← hL] at HOF ⊢
      have HLL := hide hL
      clear hL HOW
      go_wp2_with fail
      refine bodyPost_ret_by (v := .tuple #[.slice xa L xc, .nilIface]) ?_ rfl ?_
      · simp [results, Tryz.results7, go_sem]
      · exact ⟨m, _, rfl, HM.out, by rw [← HLL.out]; exact HOF.out, HF.out⟩
end Sl
end
section
namespace Sl
/-- some names more -/
def addN (S : List UInt8 → Bool) (l : List (List UInt8)) : List UInt8 → Bool := fun s => S s || l.contains s
def rungS (S : List UInt8 → Bool) (r : Ld.Rng) : List UInt8 → Bool := if S r.name then addN S (namesR r) else S
def roundS (p : Ld.Prg) (S : List UInt8 → Bool) : List UInt8 → Bool := p.rungs.foldl rungS S
def roundsS (p : Ld.Prg) (S : List UInt8 → Bool) : Nat → List UInt8 → Bool
  | 0 => S
  | k + 1 => roundS p (roundsS p S k)
theorem rungS_up (S : List UInt8 → Bool) (r : Ld.Rng) (s : List UInt8) (h : S s = true) : rungS S r s = true := by
  unfold rungS addN
  split
  · show (S s || _) = true
    rw [h, Bool.true_or]
  · exact h
theorem fold_up : ∀ (rs : List Ld.Rng) (S : List UInt8 → Bool) (s : List UInt8), S s = true → rs.foldl rungS S s = true
  | [], _, _, h => h
  | r :: rs, S, s, h => fold_up rs (rungS S r) s (rungS_up S r s h)
theorem fold_new : ∀ (rs : List Ld.Rng) (S : List UInt8 → Bool) (r : Ld.Rng), r ∈ rs → S r.name = true → ∀ s, s ∈ namesR r → rs.foldl rungS S s = true
  | r' :: rs, S, r, hr, hS, s, hs => by
    rw [List.foldl_cons]
    rcases List.mem_cons.1 hr with e | hr
    · subst e
      refine fold_up rs _ s ?_
      unfold rungS addN
      rw [if_pos hS]
      have : (namesR r).contains s = true := List.contains_iff_mem.2 hs
      rw [this, Bool.or_true]
    · exact fold_new rs _ r hr (rungS_up S r' _ hS) s hs
theorem fold_sound (p : Ld.Prg) (F : List (List UInt8)) : ∀ (rs : List Ld.Rng) (S : List UInt8 → Bool), (∀ r, r ∈ rs → r ∈ p.rungs) → (∀ s, S s = true → Rch p F s) → ∀ s, rs.foldl rungS S s = true → Rch p F s
  | [], _, _, h, s, hs => h s hs
  | r :: rs, S, hrs, h, s, hs => by
    refine fold_sound p F rs (rungS S r) (fun r' hr' => hrs r' (by simp [hr'])) (fun t ht => ?_) s hs
    unfold rungS addN at ht
    split at ht
    · rename_i hn
      rcases Bool.or_eq_true_iff.1 ht with h1 | h1
      · exact h t h1
      · exact .step (hrs r (by simp)) (h _ hn) (List.contains_iff_mem.1 h1)
    · exact h t ht
/-- all that is named is there -/
def Shut (p : Ld.Prg) (S : List UInt8 → Bool) : Prop := ∀ r, r ∈ p.rungs → S r.name = true → ∀ s, s ∈ namesR r → S s = true
theorem fold_shut (p : Ld.Prg) (S : List UInt8 → Bool) (h : Shut p S) : ∀ (rs : List Ld.Rng), (∀ r, r ∈ rs → r ∈ p.rungs) → rs.foldl rungS S = S
  | [], _ => rfl
  | r :: rs, hrs => by
    have e : rungS S r = S := by
      unfold rungS addN
      split
      · rename_i hn
        funext s
        cases hc : (namesR r).contains s with
        | false => rw [Bool.or_false]
        | true => rw [h r (hrs r (by simp)) hn s (List.contains_iff_mem.1 hc)]; rfl
      · rfl
    rw [List.foldl_cons, e]
    exact fold_shut p S h rs (fun r' hr' => hrs r' (by simp [hr']))
theorem round_shut (p : Ld.Prg) (hck : Ld.check p = none) (S : List UInt8 → Bool) (k : Nat) : Shut p (roundsS p S k) ∨ k ≤ p.names.countP fun n => roundsS p S k n.name := by
  induction k with
  | zero => exact .inr (Nat.zero_le _)
  | succ k ih =>
    by_cases hs : Shut p (roundsS p S k)
    · left
      have : roundsS p S (k + 1) = roundsS p S k := fold_shut p _ hs p.rungs (fun _ h => h)
      rw [this]
      exact hs
    · right
      rcases ih with ih | ih
      · exact absurd ih hs
      · refine Nat.lt_of_le_of_lt ih (countP_lt _ _ _ (fun n _ hn => fold_up p.rungs _ _ hn) ?_)
        have hx : ∃ r, r ∈ p.rungs ∧ roundsS p S k r.name = true ∧ ∃ s, s ∈ namesR r ∧ roundsS p S k s = false := by
          refine Classical.byContradiction fun hno => hs fun r hr hn s hs2 => ?_
          cases hc : roundsS p S k s with
          | true => rfl
          | false => exact absurd ⟨r, hr, hn, s, hs2, hc⟩ hno
        obtain ⟨r, hr, hn, s, hs2, hf⟩ := hx
        obtain ⟨_, _, _, _, x, hx1, hx2⟩ := Ld.check_rungs p hck r hr
        have hkn : 0 ≤ Ld.number p.names s := by
          unfold Ld.known at hx2
          rw [List.all_eq_true] at hx2
          unfold namesR at hs2
          rw [hx1] at hs2
          simpa using hx2 s hs2
        obtain ⟨y, hy, rfl⟩ := known_mem hkn
        exact ⟨y, hy, hf, fold_new p.rungs _ r hr hn _ hs2⟩
/-- as many rounds as there are names -/
theorem rounds_all (p : Ld.Prg) (hck : Ld.check p = none) (F : List (List UInt8)) (s : List UInt8) : roundsS p (fun t => F.contains t) p.names.length s = true ↔ Rch p F s := by
  have hsound : ∀ k s, roundsS p (fun t => F.contains t) k s = true → Rch p F s := by
    intro k
    induction k with
    | zero => exact fun s hs => .base (List.contains_iff_mem.1 hs)
    | succ k ih => exact fun s hs => fold_sound p F p.rungs _ (fun _ h => h) ih s hs
  have hbase : ∀ k s, s ∈ F → roundsS p (fun t => F.contains t) k s = true := by
    intro k
    induction k with
    | zero => exact fun s hs => List.contains_iff_mem.2 hs
    | succ k ih => exact fun s hs => fold_up p.rungs _ s (ih s hs)
  have hshut : Shut p (roundsS p (fun t => F.contains t) p.names.length) := by
    rcases round_shut p hck (fun t => F.contains t) p.names.length with h | h
    · exact h
    · intro r hr _ s hs
      have hall := List.countP_eq_length.1 (Nat.le_antisymm List.countP_le_length h)
      obtain ⟨_, _, _, _, x, hx1, hx2⟩ := Ld.check_rungs p hck r hr
      have hkn : 0 ≤ Ld.number p.names s := by
        unfold Ld.known at hx2
        rw [List.all_eq_true] at hx2
        unfold namesR at hs
        rw [hx1] at hs
        simpa using hx2 s hs
      obtain ⟨y, hy, rfl⟩ := known_mem hkn
      exact hall y hy
  refine ⟨hsound _ s, fun ⟨k, hk⟩ => ?_⟩
  have key : ∀ (k : Nat) (s : List UInt8), rch p F k s → roundsS p (fun t => F.contains t) p.names.length s = true := by
    intro k
    induction k with
    | zero => exact fun s hs => hbase _ s hs
    | succ k ih =>
      intro s hs
      rcases hs with hs | ⟨r, hr, h1, h2⟩
      · exact ih s hs
      · exact hshut r hr (ih r.name h1) s h2
  exact key k s hk
end Sl
end
section
namespace Sl
open Go.RowKit Go.Maps
theorem lawS : Keyed Tryz.prog 9 := string_keyed Tryz.underlying9
theorem keyS (s : List UInt8) (h : s.length ≤ maxLen) : keyOf Tryz.prog 9 (.string ⟨s.toArray⟩) = some (.string s) := by
  have := Go.WideMaps.keyOf_string_mk (P := Tryz.prog) (k := 9) Tryz.underlying9 (s := ⟨s.toArray⟩) (by show s.toArray.size ≤ maxLen; simpa using h)
  simpa using this
theorem zeroB (w : World) : (zeroValue 4).run Tryz.prog w = .ok (.bool false) w := by kernel_rfl
theorem plainB_inv {P : Program} {e : TypeId} (he : P.underlying e = some .bool) {v : Value} {z : DataW Unit × List MemPlace} (h : plainElem P e v = some z) : ∃ x, v = .bool x ∧ z = (.lit (.bool x), []) := by
  unfold plainElem at h
  rw [he] at h
  cases v <;> simp at h
  exact ⟨_, rfl, h.symm⟩
/-- block b is a map that tells of each text what f does -/
def SM (W : World) (b n : Nat) (f : List UInt8 → Bool) : Prop := ∃ D : DataW Unit, W.ownsMap Tryz.prog 9 (plainElem Tryz.prog 4) b n D ∧ ∀ s, D.atKey (.string s) (.lit (.bool false)) = .lit (.bool (f s))
theorem SM.made (W : World) : SM (W.alloc (.map #[] 0)) W.heap.size 0 (fun _ => false) := ⟨.map [], World.ownsMap_made _ _ _ _, fun _ => rfl⟩
theorem SM.lt {W : World} {b n : Nat} {f : List UInt8 → Bool} (h : SM W b n f) : b < W.heap.size := by
  obtain ⟨D, h1, _⟩ := h
  exact h1.lt
theorem SM.kept {W W' : World} {b n : Nat} {f : List UInt8 → Bool} (h : SM W b n f) (hb : W'.heap[b]? = W.heap[b]?) : SM W' b n f := by
  obtain ⟨D, ⟨es, clock, h1, h2⟩, h3⟩ := h
  exact ⟨D, ⟨es, clock, hb.trans h1, h2⟩, h3⟩
theorem SM.below {W W' : World} {b n : Nat} {f : List UInt8 → Bool} (h : SM W b n f) (hb : Below W.heap.size W W') : SM W' b n f := h.kept (hb.block _ h.lt)
theorem SM.more {W : World} {b n n' : Nat} {f : List UInt8 → Bool} (h : SM W b n f) (hn : n ≤ n') : SM W b n' f := by
  obtain ⟨D, h1, h2⟩ := h
  exact ⟨D, h1.mono hn, h2⟩
theorem SM.look {W : World} {b n : Nat} {f : List UInt8 → Bool} (h : SM W b n f) (s : List UInt8) (hs : s.length ≤ maxLen) : (Instr.lookup 69 (.map (some b)) (.string ⟨s.toArray⟩) false).run Tryz.prog W = .ok (.bool (f s)) W := by
  obtain ⟨D, h1, h2⟩ := h
  obtain ⟨v, ps, hrun, hv⟩ := h1.lookup lawS Tryz.underlying69 (zeroB W) (plainElem_bool Tryz.underlying4 false) (keyS s hs)
  obtain ⟨x, rfl, hx⟩ := plainB_inv Tryz.underlying4 hv
  rw [h2 s] at hx
  simp only [Prod.mk.injEq, DataW.lit.injEq, Lit.bool.injEq] at hx
  rw [hx.1]; exact hrun
/-- a text more -/
theorem SM.put {W : World} {b n : Nat} {f : List UInt8 → Bool} (h : SM W b n f) (hn : n < maxLen) (s : List UInt8) (hs : s.length ≤ maxLen) :
    ∃ W', (Instr.mapUpdate 69 (.map (some b)) (.string ⟨s.toArray⟩) (.bool true)).run Tryz.prog W = .ok () W' ∧ SM W' b (n + 1) (fun t => f t || t == s) ∧ W.mapTurned W' b := by
  obtain ⟨D, h1, h2⟩ := h
  obtain ⟨W', e1, e2, e3⟩ := h1.store lawS Tryz.underlying69 hn (keyS s hs) (plainElem_bool Tryz.underlying4 true)
  refine ⟨W', e1, ⟨_, e2, fun t => ?_⟩, e3⟩
  by_cases e : t = s
  · subst e
    rw [atKey_put_same h1.isMap (by trivial)]
    simp
  · rw [atKey_put_other (by simpa using e), h2 t]
    have : (t == s) = false := by simpa using e
    show _ = DataW.lit (Lit.bool (f t || t == s))
    rw [this, Bool.or_false]
/-- where a map alone turned, all else stands -/
theorem turned_two {W W' : World} {b : Nat} (ht : W.mapTurned W' b) : W'.os = W.os ∧ W'.tape = W.tape ∧ W'.output = W.output ∧ W'.heap.size = W.heap.size ∧ ∀ k, k ≠ b → W'.heap[k]? = W.heap[k]? := by
  obtain ⟨es, clock, es', clock', hb, rfl⟩ := ht
  refine ⟨rfl, rfl, rfl, by simp [Go.ChangeMaps.setBlock], fun k hk => ?_⟩
  have : b ≠ k := fun e => hk e.symm
  simp [Go.ChangeMaps.setBlock, this]
end Sl
end
end Go.Proofs.YtjfgfcajmkbmeaaGreatDoor
