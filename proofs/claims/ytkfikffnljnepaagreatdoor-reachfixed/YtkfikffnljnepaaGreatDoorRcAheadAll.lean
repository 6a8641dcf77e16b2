/-
  The walk of the document's Fixed. Rows of steps in memory; a machine's table, state by state. The walk of package reach's ahead: of each state those that lead to it.
-/
import Derived.Test.YtkfikffnljnepaaGreatDoorRcBRowAll
import Derived.Test.YtkfikffnljnepaaGreatDoorRcMathAll
import Derived.Test.YtkfikffnljnepaaGreatDoorNaEdgesAll
import Derived.Deep.LoopGhost
import Derived.Deep.QuietTactic
import Derived.BigQuiet
namespace Go.Proofs.YtkfikffnljnepaaGreatDoor
section
namespace Rf
open Go.RowKit Go.Deep
theorem addr_add (g o j : Nat) : (⟨g, o, none⟩ : Addr).add j = ⟨g, o + j, none⟩ := by unfold Addr.add; split <;> simp_all
theorem copied {W : World} {q g2 cap2 n : Nat} {l : List Bool} (hown : W.ownsRow q 4 1 (.slice (some ⟨g2, 0, none⟩) (0 + n) cap2) (0 + n) ([] ++ l.map boolV)) : ∃ rest, n ≤ cap2 ∧ BRow W g2 l rest ∧ q ≤ g2 := by
  rcases hown.2 with ⟨hx, _⟩ | ⟨g3, cap3, cur, hx, hg3, hcur, hc3, _, _, htk⟩
  · cases hx
  · simp only [Value.slice.injEq, Option.some.injEq, Addr.mk.injEq] at hx
    obtain ⟨⟨rfl, _⟩, _, rfl⟩ := hx
    refine ⟨cur.toList.drop n, by omega, ?_, hg3⟩
    have e : l.map boolV ++ cur.toList.drop n = cur.toList := by
      rw [Nat.zero_add, Nat.mul_one, List.nil_append] at htk
      rw [← htk, List.take_append_drop]
    show RowIs W g2 4 (l.map boolV ++ cur.toList.drop n)
    rw [e]
    exact hcur
theorem brow_other {W : World} {g h : Nat} {l : List Bool} {rest : List Value} (hr : BRow W g l rest) (hne : g ≠ h) (i : Nat) (x : Value) : BRow (W.setCell ⟨h, i, none⟩ x) g l rest := by
  have hn : ¬ h = g := fun e => hne e.symm
  show (W.setCell ⟨h, i, none⟩ x).heap[g]? = _
  have e : (W.setCell ⟨h, i, none⟩ x).heap[g]? = W.heap[g]? := by simp [World.setCell, Array.getElem?_modify, hn]
  rw [e]
  exact hr
def sameTo (kd : Nat) (next : Nat → List Nat) (S : Nat) (cur : List Bool) (s : Nat) : Bool := Decidable.decide ((fpass kd next S cur).take s = cur.take s)
theorem sameTo_succ (kd : Nat) (next : Nat → List Nat) (S : Nat) (cur : List Bool) (hl : cur.length = S) (s : Nat) (hs : s < S) : sameTo kd next S cur (s + 1) = (sameTo kd next S cur s && (fstep kd next cur s == cur.getD s false)) := by
  unfold sameTo
  have h1 : s < (fpass kd next S cur).length := by rw [fpass_len]; exact hs
  have h2 : s < cur.length := by omega
  have e1 : (fpass kd next S cur)[s] = fstep kd next cur s := by
    have := fpass_at kd next S cur s hs
    rw [List.getD_eq_getElem?_getD, List.getElem?_eq_getElem h1] at this
    exact this
  have e2 : cur.getD s false = cur[s] := by simp [h2]
  rw [List.take_succ_eq_append_getElem h1, List.take_succ_eq_append_getElem h2, e1, e2, Bool.eq_iff_iff]
  simp only [decide_eq_true_eq, Bool.and_eq_true, beq_iff_eq]
  constructor
  · intro h
    have := List.append_inj h (by rw [List.length_take, List.length_take]; omega)
    exact ⟨this.1, by simpa using this.2⟩
  · rintro ⟨h, k⟩
    rw [h, k]
theorem sameTo_all (kd : Nat) (next : Nat → List Nat) (S : Nat) (cur : List Bool) (hl : cur.length = S) : sameTo kd next S cur S = Decidable.decide (fpass kd next S cur = cur) := by
  unfold sameTo
  rw [List.take_of_length_le (by rw [fpass_len]; exact Nat.le_refl _), List.take_of_length_le (by omega)]
def mixT (kd : Nat) (next : Nat → List Nat) (S : Nat) (cur : List Bool) (s : Nat) : List Bool := (fpass kd next S cur).take s ++ cur.drop s
theorem mixT_zero (kd : Nat) (next : Nat → List Nat) (S : Nat) (cur : List Bool) : mixT kd next S cur 0 = cur := by simp [mixT]
theorem mixT_all (kd : Nat) (next : Nat → List Nat) (S : Nat) (cur : List Bool) (hl : cur.length = S) : mixT kd next S cur S = fpass kd next S cur := by
  unfold mixT
  rw [List.take_of_length_le (by rw [fpass_len]; exact Nat.le_refl _), List.drop_of_length_le (by omega), List.append_nil]
theorem mixT_len (kd : Nat) (next : Nat → List Nat) (S : Nat) (cur : List Bool) (hl : cur.length = S) (s : Nat) (hs : s ≤ S) : (mixT kd next S cur s).length = S := by
  unfold mixT
  rw [List.length_append, List.length_take, List.length_drop, fpass_len]
  omega
theorem mixT_set (kd : Nat) (next : Nat → List Nat) (S : Nat) (cur : List Bool) (hl : cur.length = S) (s : Nat) (hs : s < S) : (mixT kd next S cur s).set s (fstep kd next cur s) = mixT kd next S cur (s + 1) := by
  unfold mixT
  have h1 : s < (fpass kd next S cur).length := by rw [fpass_len]; exact hs
  have h2 : s < cur.length := by omega
  have e1 : (fpass kd next S cur)[s] = fstep kd next cur s := by
    have := fpass_at kd next S cur s hs
    rw [List.getD_eq_getElem?_getD, List.getElem?_eq_getElem h1] at this
    exact this
  rw [List.set_append_right _ _ (by rw [List.length_take]; omega), List.length_take, Nat.min_eq_left (by omega), Nat.sub_self, List.drop_eq_getElem_cons h2, List.set_cons_zero, List.take_succ_eq_append_getElem h1, e1, List.append_assoc]
  rfl
/-- what the document's Fixed comes to -/
def FixedD (w : World) (kd S : Nat) (next : Nat → List Nat) (l : List Bool) (e : Ending) (w' : World) : Prop := ∃ g cp rest r, e = .returned (.slice (some ⟨g, 0, none⟩) S cp) ∧ S ≤ cp ∧ FGrown kd S next l r ∧ BRow w' g r rest ∧ w.heap.size ≤ g ∧ Below w.heap.size w w'
set_option maxHeartbeats 16000000 in
set_option maxRecDepth 100000 in
theorem Fixed_any (bx S I : Nat) (nv rv nx : Value) (next : Nat → List Nat) (kd : Nat) (ks : ByteArray) (v : Value) (l : List Bool) (w : World) (h : RMachAt w bx nv rv S I nx) (hR : RowsI w nx ((List.range S).map fun s => asI (next s))) (hnl : ∀ s, (next s).length = I) (hnx : ∀ f s, f < S → s ∈ next f → s < S) (hS : S ≤ 4096) (hI : I ≤ 64) (hv : BoolsO w v l) (hl : l.length = S) (hS1 : 1 ≤ S)
    (hk : (kd = 0 ∧ ks = ⟨#[115, 116, 97, 121, 115]⟩) ∨ (kd = 1 ∧ ks = ⟨#[99, 111, 109, 101, 115]⟩) ∨ (kd = 2 ∧ ks = ⟨#[102, 111, 114, 99, 101, 115]⟩)) :
    Calls Tryz.prog 16 #[.pointer (some ⟨bx, 0, none⟩), .string ks, v] w (FixedD w kd S next l) := by
  obtain ⟨i0, hi0, hz0, hz1, hz2⟩ := info_parts Tryz.infoBool
  have HM := hide h
  obtain ⟨xa, xc, hx⟩ := hR.slice
  have hln : ((List.range S).map fun s => asI (next s)).length = S := by simp
  rw [hln] at hx
  subst hx
  have HR := hide hR
  have HNL := hide hnl
  have HNX := hide hnx
  have HKK := hide hk
  have HBA : Hid (Below w.heap.size w (w.alloc (.cells #[] 4))) := (Below.refl _ w).alloc (Nat.le_refl _) _
  obtain ⟨g0, o0, cap, hv1, hv2, hv3⟩ : ∃ g o cap, v = .slice (some ⟨g, o, none⟩) S cap ∧ S ≤ cap ∧ ∀ (k : Nat) x, l[k]? = some x → w.cell? ⟨g, o + k, none⟩ = some (.bool x) := by
    rcases hv with ⟨h0, _⟩ | ⟨g, o, cap, h1, h2, h3⟩
    · rw [h0] at hl; simp at hl; omega
    · exact ⟨g, o, cap, by rw [h1, hl], by omega, h3⟩
  subst hv1
  have HOWN : Hid ((w.alloc (.cells #[] 4)).ownsRow w.heap.size 4 1 (.slice (some ⟨w.heap.size, 0, none⟩) 0 0) 0 []) := own_zero w w.heap.size 4 1 (Nat.le_refl _)
  have HNEW : Hid (∀ j u, (l.map boolV)[j]? = some u → (w.alloc (.cells #[] 4)).cell? ((⟨g0, o0, none⟩ : Addr).add j) = some u) := by
    intro j u hu
    rw [addr_add]
    rw [List.getElem?_map] at hu
    cases hb : l[j]? with
    | none => rw [hb] at hu; cases hu
    | some b =>
      rw [hb] at hu
      simp only [Option.map_some, Option.some.injEq] at hu
      subst hu
      have hc := hv3 j b hb
      exact (HBA.out.cell (World.block_lt_of_cell? _ _ hc)).trans hc
  have HONE : Hid (∀ (l : List Bool), ∀ u ∈ l.map boolV, u.oneCell' = true) := by
    intro l u hu
    obtain ⟨b, _, rfl⟩ := List.mem_map.1 hu
    rfl
  have HLC : Hid ((l.map boolV).length = S * 1) := by show _ = _; simp [hl]
  have HF0 := hide (FInv.start kd S next l hl)
  have HONEL := hide (HONE.out l)
  obtain ⟨n0, hn0⟩ : ∃ n0, n0 = left kd l := ⟨_, rfl⟩
  have HN0 := hide hn0
  clear h hR hnl hnx hk hv hv3 hl hn0 hln
  go_enter Tryz.func16, Tryz.ntmps16
  go_wp2_with (at_builtin; refine wpList_append_lies _ rfl (.tmp 15) (.tmp 16) 45 rfl w.heap.size 4 i0 _ 1 1 Tryz.underlying45 hi0 hz0 hz1 hz2 rfl (by decide) (.slice (some ⟨w.heap.size, 0, none⟩) 0 0) 0 [] rfl HOWN.out ⟨g0, o0, none⟩ S cap (l.map boolV) rfl HLC.out HNEW.out HONEL.out hS1 (by unfold maxLen; omega) (by omega) (by simp) (w.heap.size + 1) (by simp) ?_; intro g2 cap2 wC hown hgrow hat2 hltg)
  obtain ⟨rest, hcp, hrow, hg⟩ := copied hown
  have HB0 : Hid (Below w.heap.size w wC) := HBA.out.grown hgrow (by simp) (fun j e => by simp only [Value.ownBlock, Option.some.injEq] at e; omega)
  have HROW0 := hide hrow
  clear hown hgrow hat2 hltg hrow HOWN HNEW HLC HONEL
  go_loopg [7] n0 (fun gh nv wr => ∃ g cp rest cur, gh = left kd cur ∧ nv = .slice (some ⟨g, 0, none⟩) S cp ∧ S ≤ cp ∧ Hid (FInv kd S next l cur) ∧ Hid (BRow wr g cur rest) ∧ w.heap.size ≤ g ∧ Hid (Below w.heap.size w wr))
  case atStart => exact ⟨g2, cap2, rest, l, HN0.out, by first | rfl | simp, hcp, HF0.out, HROW0.out, hg, HB0.out⟩
  case round =>
    obtain ⟨g, cp, rest1, cur, hgk, rfl, hcp1, HFI, HROW, hgw, HB⟩ := hrel
    have HGK := hide hgk
    obtain ⟨wo, hwo⟩ : ∃ wo, wo = wr := ⟨_, rfl⟩
    subst hwo
    have HCL : Hid (cur.length = S) := HFI.out.1
    have HBA2 : Hid (Below wo.heap.size wo (wo.alloc (.cells #[] 4))) := (Below.refl _ wo).alloc (Nat.le_refl _) _
    have HOWN2 : Hid ((wo.alloc (.cells #[] 4)).ownsRow wo.heap.size 4 1 (.slice (some ⟨wo.heap.size, 0, none⟩) 0 0) 0 []) := own_zero wo wo.heap.size 4 1 (Nat.le_refl _)
    have HNEW2 : Hid (∀ j u, (cur.map boolV)[j]? = some u → (wo.alloc (.cells #[] 4)).cell? ((⟨g, 0, none⟩ : Addr).add j) = some u) := by
      intro j u hu
      rw [addr_add, Nat.zero_add]
      rw [List.getElem?_map] at hu
      cases hb : cur[j]? with
      | none => rw [hb] at hu; cases hu
      | some b =>
        rw [hb] at hu
        simp only [Option.map_some, Option.some.injEq] at hu
        subst hu
        have hc := HROW.out.cell j b hb
        exact (HBA2.out.cell (World.block_lt_of_cell? _ _ hc)).trans hc
    have HLC2 : Hid ((cur.map boolV).length = S * 1) := by show _ = _; simp [HCL.out]
    have HONE2 := hide (HONE.out cur)
    have hgo : g < wo.heap.size := RowIs.lt HROW.out
    have hzw : w.heap.size ≤ wo.heap.size := HB.out.size
    clear hgk
    go_wp2_with (at_builtin; refine wpList_append_lies _ rfl (.tmp 18) (.tmp 19) 45 rfl wo.heap.size 4 i0 _ 1 1 Tryz.underlying45 hi0 hz0 hz1 hz2 rfl (by decide) (.slice (some ⟨wo.heap.size, 0, none⟩) 0 0) 0 [] rfl HOWN2.out ⟨g, 0, none⟩ S cp (cur.map boolV) rfl HLC2.out HNEW2.out HONE2.out hS1 (by unfold maxLen; omega) (by omega) (by simp) (wo.heap.size + 1) (by simp) ?_; intro g3 cap3 wD hown hgrow hat2 hltg; obtain ⟨rest2, hcp3, hrow2, hg3⟩ := copied hown; have HB2 : Hid (Below wo.heap.size wo wD) := HBA2.out.grown hgrow (by simp) (fun j e => by simp only [Value.ownBlock, Option.some.injEq] at e; omega); have HR2 := hide hrow2; obtain ⟨_, _, c4⟩ := (HM.out.below (then_ HB.out HB2.out)).cells; clear hown hgrow hat2 hltg hrow2)
    have hne : g3 ≠ g := by omega
    have HRO0 := hide (HROW.out.below HB2.out)
    have HBD : Hid (Below w.heap.size w wD) := then_ HB.out HB2.out
    have HMX0 : Hid (BRow wD g3 (mixT kd next S cur 0) rest2) := by show BRow _ _ _ _; rw [mixT_zero]; exact HR2.out
    clear HOWN2 HNEW2 HLC2 HONE2 HBA2 HR2 c4
    go_loopw [9, 26] (fun sm i wr => ∃ s : Nat, s ≤ S ∧ i = .int .i64 (s : Int) ∧ sm = .bool (sameTo kd next S cur s) ∧ Hid (BRow wr g3 (mixT kd next S cur s) rest2) ∧ Hid (BRow wr g cur rest1) ∧ Hid (Below w.heap.size w wr)) (fun _ i _ => S - (intOf i).toNat)
    case atStart => exact ⟨0, Nat.zero_le _, rfl, by simp [sameTo], HMX0.out, HRO0.out, HBD.out⟩
    case round =>
      obtain ⟨s, hs, rfl, rfl, HMX, HRO, HBB⟩ := hrel
      obtain ⟨wq, hwq⟩ : ∃ wq, wq = wr := ⟨_, rfl⟩
      subst hwq
      by_cases hlt : s < S
      · have hrs : ((List.range S).map fun s => asI (next s))[s]? = some (asI (next s)) := by simp [hlt]
        obtain ⟨gR, u, hxa, hxc, cR, iR⟩ := (HR.out.below HBB.out).at_ s _ hrs
        subst hxa
        obtain ⟨ua, uc, rfl⟩ := iR.slice
        have hlen : (asI (next s)).length = I := by unfold asI; rw [List.length_map]; exact HNL.out s
        rw [hlen] at iR cR
        have HIR := hide iR
        have hsi : (s : Int) < (S : Int) := by omega
        obtain ⟨sm, hsm⟩ : ∃ sm, sm = sameTo kd next S cur s := ⟨_, rfl⟩
        have HSM := hide hsm
        rw [← hsm]
        clear hrs iR hlen hsm
        go_wp2_with fail
        go_loopw [12, 33] (fun n j wr => ∃ k : Nat, k ≤ I ∧ j = .int .i64 (k : Int) ∧ n = .int .i64 (cnt cur ((next s).take k) : Int) ∧ Hid (wr = wq)) (fun _ j _ => I - (intOf j).toNat)
        case atStart => exact ⟨0, Nat.zero_le _, rfl, rfl, rfl⟩
        case round =>
          obtain ⟨k, hk, rfl, rfl, hwr⟩ := hrel
          have hww := hwr.out
          subst hww
          by_cases hlt2 : k < I
          · have hkl : k < (next s).length := by rw [HNL.out]; exact hlt2
            have hxk : (asI (next s))[k]? = some (((next s)[k] : Nat) : Int) := by simp [asI, hkl]
            obtain ⟨gu, o, hua, cu⟩ := HIR.out.cell k _ hxk
            subst hua
            have htS : (next s)[k] < S := HNX.out s _ hlt (List.getElem_mem hkl)
            have hcl : (next s)[k] < cur.length := by rw [HCL.out]; exact htS
            have cb := HRO.out.cell (next s)[k] _ (List.getElem?_eq_getElem hcl)
            have hsu := cnt_succ cur (next s) k hkl
            have hgd : cur.getD (next s)[k] false = cur[(next s)[k]] := by simp [hcl]
            rw [hgd] at hsu
            have HSU := hide hsu
            have hle : cnt cur ((next s).take k) ≤ 64 := by have := cnt_le cur ((next s).take k); rw [List.length_take] at this; omega
            clear hgd hxk hsu
            generalize cur[(next s)[k]] = b at *
            generalize (next s)[k] = t at *
            generalize cnt cur ((next s).take k) = c at *
            have hti : (t : Int) < (S : Int) := by omega
            have hki : (k : Int) < (I : Int) := by omega
            clear hcl
            cases b
            all_goals
              go_wp2_with fail
              go_roundw
              case rel => exact ⟨k + 1, by omega, by go_num, by rw [HSU.out]; simp, trivial⟩
              case measure => simp [intOf]; omega
          · obtain rfl : k = I := by omega
            have htk : (next s).take k = next s := List.take_of_length_le (by rw [HNL.out]; exact Nat.le_refl _)
            rw [htk]
            have hsc : s < cur.length := by rw [HCL.out]; exact hlt
            have hsx : s < (mixT kd next S cur s).length := by rw [mixT_len kd next S cur HCL.out s hs]; exact hlt
            have cb := HRO.out.cell s _ (List.getElem?_eq_getElem hsc)
            have cx := HMX.out.cell s _ (List.getElem?_eq_getElem hsx)
            have fx := RowIs.frozen HMX.out s
            have hwg : w.heap.size ≤ g3 := by omega
            have HST : Hid (∀ x, fstep kd next cur s = x → BRow (wr.setCell ⟨g3, s, none⟩ (.bool x)) g3 (mixT kd next S cur (s + 1)) rest2 ∧ BRow (wr.setCell ⟨g3, s, none⟩ (.bool x)) g cur rest1 ∧ Below w.heap.size w (wr.setCell ⟨g3, s, none⟩ (.bool x))) := fun x hx => by
              refine ⟨?_, brow_other HRO.out (fun e => hne e.symm) _ _, HBB.out.setCell (p := ⟨g3, s, none⟩) hwg _⟩
              have h1 := BRow.set HMX.out s x hsx
              rw [← hx, mixT_set kd next S cur HCL.out s hlt, hx] at h1
              exact h1
            have hn1 : ∀ x, (wr.setCell ⟨g3, s, none⟩ (.bool x)).cell? ⟨g3, s, none⟩ = some (.bool x) := fun x => (BRow.set HMX.out s x hsx).cell s x (by rw [List.getElem?_set_self hsx])
            have hn2 : ∀ x, (wr.setCell ⟨g3, s, none⟩ (.bool x)).cell? ⟨g, s, none⟩ = some (.bool cur[s]) := fun x => BRow.cell (brow_other HRO.out (fun e => hne e.symm) s (.bool x)) s _ (List.getElem?_eq_getElem hsc)
            have hgd : cur.getD s false = cur[s] := by simp [hsc]
            have hss := sameTo_succ kd next S cur HCL.out s hlt
            rw [← HSM.out, hgd] at hss
            have HSS := hide hss
            have HFS : Hid (fstep kd next cur s = if kd = 0 then (cur[s] && Decidable.decide (cnt cur (next s) = k)) else if kd = 1 then (cur[s] || Decidable.decide (0 < cnt cur (next s))) else (cur[s] || Decidable.decide (cnt cur (next s) = k))) := by show _ = _; unfold fstep; rw [hgd, HNL.out]
            clear hgd hss
            generalize cur[s] = b at *
            generalize (mixT kd next S cur s)[s] = y at *
            obtain ⟨cn, hcn⟩ : ∃ cn, cn = cnt cur (next s) := ⟨_, rfl⟩
            rw [← hcn] at HFS ⊢
            obtain ⟨e1, he1⟩ : ∃ e1 : Bool, ((cn : Int) == (k : Int)) = e1 := ⟨_, rfl⟩
            have d1 : Decidable.decide (cn = k) = e1 := by rw [← he1, Bool.eq_iff_iff]; simp; omega
            rw [d1] at HFS
            have hkk : ¬ (k : Int) < (k : Int) := by omega
            clear hcn d1 htk
            cases b
            all_goals rcases HKK.out with ⟨rfl, rfl⟩ | ⟨rfl, rfl⟩ | ⟨rfl, rfl⟩
            all_goals
              cases sm
              all_goals
                go_wp2_with fail
                go_quiet (fail)
                go_wp2_with fail
                go_roundw
                case rel => exact ⟨s + 1, by omega, by go_num, by rw [HSS.out, HFS.out]; simp, (HST.out _ (by rw [HFS.out]; simp)).1, (HST.out _ (by rw [HFS.out]; simp)).2.1, (HST.out _ (by rw [HFS.out]; simp)).2.2.trans ⟨rfl, rfl, rfl, Nat.le_refl _, fun _ _ => rfl⟩⟩
                case measure => simp [intOf]; omega
      · obtain rfl : s = S := by omega
        rw [sameTo_all kd next s cur HCL.out]
        by_cases he : fpass kd next s cur = cur
        · have HDN := hide (HFI.out.done HNX.out he)
          rw [decide_eq_true he]
          have hsi : ¬ (s : Int) < (s : Int) := by omega
          clear he
          go_wp2_with fail
          go_ret
          exact ⟨g, cp, rest1, cur, rfl, hcp1, HDN.out, HRO.out, hgw, HBB.out⟩
        · have HLT := hide (left_lt kd next s cur HCL.out he)
          have HFI2 := hide (HFI.out.pass HNX.out)
          have HMF : Hid (BRow wq g3 (fpass kd next s cur) rest2) := by have h := HMX.out; rw [mixT_all kd next s cur HCL.out] at h; exact h
          rw [decide_eq_false he]
          have hsi : ¬ (s : Int) < (s : Int) := by omega
          clear he
          go_wp2_with fail
          go_roundg (left kd (fpass kd next s cur))
          case measure => have h1 := HLT.out; have h2 := HGK.out; omega
          case rel => exact ⟨g3, cap3, rest2, _, rfl, by first | rfl | simp, hcp3, HFI2.out, HMF.out, by omega, HBB.out⟩
end Rf
end
section
open Go.RowKit
def stpCells (x : Rc.Stp) : List Value := [.int .i64 x.far, .int .i64 (x.frm : Int), .int .i64 (x.by_ : Int)]
theorem stp_len : ∀ (l : List Rc.Stp), (l.flatMap stpCells).length = l.length * 3
  | [] => rfl
  | x :: l => by rw [List.flatMap_cons, List.length_append, stp_len l, List.length_cons]; simp [stpCells]; omega
theorem stp_set1 (a : Int) : ∀ (l : List Rc.Stp) (i : Nat), i < l.length → (l.flatMap stpCells).set (i * 3) (.int .i64 a) = (l.set i ⟨a, (l.getD i Rc.st0).frm, (l.getD i Rc.st0).by_⟩).flatMap stpCells
  | [], i, h => by simp at h
  | x :: l, 0, _ => rfl
  | x :: l, i + 1, h => by
    have ih := stp_set1 a l i (by simpa using h)
    rw [List.flatMap_cons, show (i + 1) * 3 = i * 3 + 3 by omega]
    show (stpCells x ++ l.flatMap stpCells).set (i * 3 + (stpCells x).length) _ = _
    rw [List.set_append_right _ _ (by omega), Nat.add_sub_cancel, ih]
    rfl
theorem stp_set3 (y : Rc.Stp) : ∀ (l : List Rc.Stp) (i : Nat), i < l.length → (((l.flatMap stpCells).set (i * 3) (.int .i64 y.far)).set (i * 3 + 1) (.int .i64 (y.frm : Int))).set (i * 3 + 2) (.int .i64 (y.by_ : Int)) = (l.set i y).flatMap stpCells
  | [], i, h => by simp at h
  | x :: l, 0, _ => rfl
  | x :: l, i + 1, h => by
    have ih := stp_set3 y l i (by simpa using h)
    rw [List.flatMap_cons]
    have e0 : (i + 1) * 3 = (stpCells x).length + i * 3 := by simp [stpCells]; omega
    rw [e0, List.set_append_right _ _ (by omega), show (stpCells x).length + i * 3 - (stpCells x).length = i * 3 by omega,
      show (stpCells x).length + i * 3 + 1 = (stpCells x).length + (i * 3 + 1) by omega, List.set_append_right _ _ (by omega), show (stpCells x).length + (i * 3 + 1) - (stpCells x).length = i * 3 + 1 by omega,
      show (stpCells x).length + i * 3 + 2 = (stpCells x).length + (i * 3 + 2) by omega, List.set_append_right _ _ (by omega), show (stpCells x).length + (i * 3 + 2) - (stpCells x).length = i * 3 + 2 by omega, ih]
    rfl
theorem stp_cell {W : World} {g : Nat} {l : List Rc.Stp} (h : RowIs W g 66 (l.flatMap stpCells)) (k : Nat) (hk : k < l.length) : W.cell? ⟨g, k * 3, none⟩ = some (.int .i64 (l.getD k Rc.st0).far) ∧ W.cell? ⟨g, k * 3 + 1, none⟩ = some (.int .i64 ((l.getD k Rc.st0).frm : Int)) ∧ W.cell? ⟨g, k * 3 + 2, none⟩ = some (.int .i64 ((l.getD k Rc.st0).by_ : Int)) := by
  have e : l.getD k Rc.st0 = l[k] := by simp [hk]
  rw [e]
  exact ⟨h.cell _ _ (flat3 stpCells (fun _ => rfl) l k _ (List.getElem?_eq_getElem hk) 0 (by omega)), h.cell _ _ (flat3 stpCells (fun _ => rfl) l k _ (List.getElem?_eq_getElem hk) 1 (by omega)), h.cell _ _ (flat3 stpCells (fun _ => rfl) l k _ (List.getElem?_eq_getElem hk) 2 (by omega))⟩
theorem mcells_three (z : Value) (n : Nat) : madeCells #[z, z, z] (n * 3) = ⟨List.replicate (n * 3) z⟩ := by
  apply Array.ext'
  simp only [madeCells, Array.toList_map, Array.toList_range]
  apply List.ext_getElem
  · simp
  · intro i h1 h2
    have h3 : i % 3 = 0 ∨ i % 3 = 1 ∨ i % 3 = 2 := by omega
    rcases h3 with h3 | h3 | h3 <;> simp [h3]
theorem Tryz.infoStep : (Tryz.prog.info? 66).map (fun i => (i.zero, i.size, i.bytes)) = some (some (.agg #[.int .i64 0, .int .i64 0, .int .i64 0]), 3, 24) := by kernel_rfl
theorem stp_zero (n : Nat) : (List.replicate n Rc.st0).flatMap stpCells = List.replicate (n * 3) (.int .i64 0) := by
  induction n with
  | zero => rfl
  | succ n ih => rw [List.replicate_succ, List.flatMap_cons, ih, show (n + 1) * 3 = n * 3 + 1 + 1 + 1 by omega, List.replicate_succ, List.replicate_succ, List.replicate_succ]; rfl
theorem makeSteps (n : Nat) (hn : n ≤ 1000000) (w : World) : (Instr.makeSlice 63 (.int .i64 (n : Int)) (.int .i64 (n : Int))).run Tryz.prog w = .ok (.slice (some ⟨w.heap.size, 0, none⟩) n n) (w.alloc (.cells ⟨(List.replicate n Rc.st0).flatMap stpCells⟩ 66)) := by
  obtain ⟨i0, hi0, hz0, hz1, hz2⟩ := info_parts Tryz.infoStep
  have h := run_makeSlice (P := Tryz.prog) w 63 66 i0 _ Tryz.underlying63 hi0 hz0 .i64 .i64 n n (by omega) (Int.le_refl _) (by rw [hz1]; omega) (by rw [hz2]; omega) (by omega)
  have hc : (Value.agg #[.int .i64 0, .int .i64 0, .int .i64 0]).cells = #[.int .i64 0, .int .i64 0, .int .i64 0] := rfl
  rw [hz1, show ((n : Int)).toNat = n by omega, hc, mcells_three, ← stp_zero] at h
  exact h
end
section
open Go.RowKit
namespace Rc
/-- those that lead to a state, of the first f, and of the next one by its first b inputs -/
def preTo (next : Nat → List Nat) (f b t : Nat) : List Nat := (List.range f).filter (fun s => (next s).contains t) ++ (if ((next f).take b).contains t then [f] else [])
theorem preTo_zero (next : Nat → List Nat) (t : Nat) : preTo next 0 0 t = [] := by simp [preTo]
theorem preTo_next (next : Nat → List Nat) (f t : Nat) : preTo next f (next f).length t = preTo next (f + 1) 0 t := by
  unfold preTo
  rw [List.take_length, List.range_succ, List.filter_append, List.take_zero]
  have e : (List.filter (fun s => (next s).contains t) [f]) = if (next f).contains t then [f] else [] := by
    rw [List.filter_cons, List.filter_nil]
  rw [e]; simp
theorem preTo_len (next : Nat → List Nat) (f b t : Nat) : (preTo next f b t).length ≤ f + 1 := by
  unfold preTo
  rw [List.length_append]
  have h1 := List.length_filter_le (fun s => (next s).contains t) (List.range f)
  rw [List.length_range] at h1
  have h2 : (if ((next f).take b).contains t then [f] else []).length ≤ 1 := by split <;> simp
  omega
theorem preTo_lt (next : Nat → List Nat) (f b t x : Nat) (h : x ∈ preTo next f b t) : x ≤ f := by
  unfold preTo at h
  rcases List.mem_append.1 h with h | h
  · have := List.mem_range.1 (List.mem_filter.1 h).1; omega
  · split at h <;> simp at h; omega
theorem preTo_put (next : Nat → List Nat) (f b u : Nat) (hb : (next f)[b]? = some u) (hn : u ∉ (next f).take b) : ∀ t, preTo next f (b + 1) t = if t = u then preTo next f b u ++ [f] else preTo next f b t := by
  intro t
  obtain ⟨hbl, e⟩ := List.getElem?_eq_some_iff.1 hb
  unfold preTo
  rw [List.take_succ_eq_append_getElem hbl, e]
  by_cases h : t = u
  · subst h
    have h1 : ((next f).take b).contains t = false := by simpa using hn
    rw [if_pos rfl, h1]; simp
  · rw [if_neg h]
    have h1 : ((next f).take b ++ [u]).contains t = ((next f).take b).contains t := by simp [h]
    rw [h1]
theorem preTo_pass (next : Nat → List Nat) (f b u : Nat) (hb : (next f)[b]? = some u) (hn : u ∈ (next f).take b) : ∀ t, preTo next f (b + 1) t = preTo next f b t := by
  intro t
  obtain ⟨hbl, e⟩ := List.getElem?_eq_some_iff.1 hb
  unfold preTo
  rw [List.take_succ_eq_append_getElem hbl, e]
  by_cases h : t = u
  · subst h
    have h1 : ((next f).take b).contains t = true := by simpa using hn
    have h2 : ((next f).take b ++ [t]).contains t = true := by simp
    rw [h1, h2]
  · have h1 : ((next f).take b ++ [u]).contains t = ((next f).take b).contains t := by simp [h]
    rw [h1]
theorem preTo_last (next : Nat → List Nat) (f b u : Nat) (hn : u ∈ (next f).take b) : ∃ l, preTo next f b u = l ++ [f] := by
  have h1 : ((next f).take b).contains u = true := by simpa using hn
  exact ⟨_, by unfold preTo; rw [h1]; rfl⟩
theorem preTo_other (next : Nat → List Nat) (f b u x : Nat) (hn : u ∉ (next f).take b) (hx : x ∈ preTo next f b u) : x < f := by
  have h1 : ((next f).take b).contains u = false := by simpa using hn
  unfold preTo at hx
  rw [h1] at hx
  simp only [Bool.false_eq_true, if_false, List.append_nil] at hx
  exact List.mem_range.1 (List.mem_filter.1 hx).1
theorem preTo_all (next : Nat → List Nat) (S t s : Nat) : s ∈ preTo next S 0 t ↔ s < S ∧ t ∈ next s := by
  unfold preTo
  simp [List.mem_filter]
end Rc
/-- a table of rows that grow, each its own -/
structure AhAt (W : World) (gA S q : Nat) (vs : List Value) (P : Nat → List Nat) : Prop where
  top : RowIs W gA 26 vs
  len : vs.length = S
  own : ∀ (t : Nat) v, vs[t]? = some v → W.ownsRow q 3 1 v (P t).length ((P t).map intV)
  apart : ∀ (t t' : Nat) v v' b, vs[t]? = some v → vs[t']? = some v' → v.ownBlock = some b → v'.ownBlock = some b → t = t'
theorem AhAt.below {W W' : World} {gA S q : Nat} {vs : List Value} {P : Nat → List Nat} (h : AhAt W gA S q vs P) (hb : Below W.heap.size W W') : AhAt W' gA S q vs P :=
  ⟨h.top.below hb, h.len, fun t v hv => own_below (h.own t v hv) hb, h.apart⟩
theorem AhAt.congr {W : World} {gA S q : Nat} {vs : List Value} {P P' : Nat → List Nat} (h : AhAt W gA S q vs P) (e : ∀ t, P' t = P t) : AhAt W gA S q vs P' := by
  have : P' = P := funext e
  rw [this]; exact h
theorem AhAt.start (W : World) (S q : Nat) (next : Nat → List Nat) : AhAt (W.alloc (.cells ⟨List.replicate S (.slice none 0 0)⟩ 26)) W.heap.size S q (List.replicate S (.slice none 0 0)) (Rc.preTo next 0 0) := by
  have hv : ∀ (t : Nat) v, (List.replicate S (Value.slice none 0 0))[t]? = some v → v = .slice none 0 0 := fun t v h => (List.mem_replicate.1 (List.mem_of_getElem? h)).2
  refine ⟨RowIs.new _ _ _, by simp, fun t v h => ?_, fun t t' v v' b h _ hb => ?_⟩
  · rw [hv t v h, Rc.preTo_zero]; exact World.ownsRow_nil _ _ _ _
  · rw [hv t v h] at hb; cases hb
theorem AhAt.put {W wC : World} {gA S q u f g2 cap2 : Nat} {vs : List Value} {P : Nat → List Nat} {v : Value} {o : Obj} (h : AhAt W gA S q vs P) (hgA : gA < q) (hu : vs[u]? = some v)
    (hown : wC.ownsRow q 3 1 (.slice (some ⟨g2, 0, none⟩) ((P u).length + 1) cap2) ((P u).length + 1) ((P u).map intV ++ [intV f])) (hgrow : (W.alloc o).grownBy wC v.ownBlock) (hloc : v.ownBlock = some g2 ∨ g2 = W.heap.size + 1) :
    AhAt (wC.setCell ⟨gA, u, none⟩ (.slice (some ⟨g2, 0, none⟩) ((P u).length + 1) cap2)) gA S q (vs.set u (.slice (some ⟨g2, 0, none⟩) ((P u).length + 1) cap2)) (fun t => if t = u then P u ++ [f] else P t) := by
  have hul : u < vs.length := (List.getElem?_eq_some_iff.1 hu).1
  have hov := h.own u v hu
  have hgr : wC.grownBy (wC.setCell ⟨gA, u, none⟩ (.slice (some ⟨g2, 0, none⟩) ((P u).length + 1) cap2)) (some gA) := ⟨rfl, rfl, rfl, by simp [World.setCell], fun b _ hb => Below.heap_setCell _ _ _ _ (fun e => hb (congrArg some e))⟩
  have hne : ∀ {x : Value} {n : Nat} {l : List Value} {Z : World}, Z.ownsRow q 3 1 x n l → x.ownBlock = none ∨ x.ownBlock ≠ some gA := fun {x n l Z} hx => by
    cases hb : x.ownBlock with
    | none => exact .inl rfl
    | some b => exact .inr (fun e => by cases e; have := (hx.lt _ hb).1; omega)
  have hcase : ∀ (t : Nat) x, (vs.set u (.slice (some ⟨g2, 0, none⟩) ((P u).length + 1) cap2))[t]? = some x → (t = u ∧ x = .slice (some ⟨g2, 0, none⟩) ((P u).length + 1) cap2) ∨ (t ≠ u ∧ vs[t]? = some x) := fun t x hx => by
    by_cases e : t = u
    · subst e
      rw [List.getElem?_set_self hul] at hx
      exact .inl ⟨rfl, (Option.some.inj hx).symm⟩
    · rw [List.getElem?_set_ne (fun e2 => e e2.symm)] at hx
      exact .inr ⟨e, hx⟩
  have htop : RowIs wC gA 26 vs := by
    have h1 := h.top.alloc o
    refine (hgrow.block _ h1.lt (fun e => ?_)).trans h1
    have := (hov.lt _ e.symm).1
    omega
  refine ⟨htop.set u _, by simp [h.len], fun t x hx => ?_, fun t t' x x' b hx hx' hb hb' => ?_⟩
  · rcases hcase t x hx with ⟨rfl, rfl⟩ | ⟨hne2, hx⟩
    · have h1 := hown.kept hgr (hne hown)
      simp only [if_true]
      rw [List.length_append, List.map_append]
      exact h1
    · have h1 := h.own t x hx
      rw [if_neg hne2]
      refine ((h1.alloc o).kept hgrow ?_).kept hgr (hne h1)
      cases hb : x.ownBlock with
      | none => exact .inl rfl
      | some b => exact .inr (fun e => hne2 (h.apart t u x v b hx hu hb e.symm))
  · rcases hcase t x hx with ⟨e1, e2⟩ | ⟨hne2, hy⟩
    · rcases hcase t' x' hx' with ⟨e3, e4⟩ | ⟨hne3, hy'⟩
      · rw [e1, e3]
      · exfalso
        rw [e2] at hb
        cases hb
        have h1 := (h.own t' x' hy').lt _ hb'
        rcases hloc with hl | hl
        · exact hne3 (h.apart t' u x' v _ hy' hu hb' hl)
        · simp only at h1; omega
    · rcases hcase t' x' hx' with ⟨e3, e4⟩ | ⟨hne3, hy'⟩
      · exfalso
        rw [e4] at hb'
        cases hb'
        have h1 := (h.own t x hy).lt _ hb
        rcases hloc with hl | hl
        · exact hne2 (h.apart t u x v _ hy hu hb hl)
        · simp only at h1; omega
      · exact h.apart t t' x x' b hy hy' hb hb'
/-- what ahead comes to -/
def Aheaded (w : World) (S : Nat) (next : Nat → List Nat) (e : Ending) (w' : World) : Prop := ∃ g vs, e = .returned (slV g S) ∧ AhAt w' g S (g + 1) vs (Rc.preTo next S 0) ∧ w.heap.size ≤ g ∧ Below w.heap.size w w'
set_option maxHeartbeats 8000000 in
set_option maxRecDepth 100000 in
theorem ahead_any (bm S I gN : Nat) (next : Nat → List Nat) (uN : List Nat) (w : World) (h : NextAt w bm S I next gN uN) (hS : S ≤ 4096) (hI : I ≤ 64) (hnl : ∀ s, (next s).length = I) (hnx : ∀ f s, f < S → s ∈ next f → s < S) :
    Calls Tryz.prog 52 #[.pointer (some ⟨bm, 0, none⟩)] w (Aheaded w S next) := by
  obtain ⟨i0, hi0, hz0, hz1, hz2⟩ := info_parts Tryz.infoInt
  have HNA := hide h
  have HNL := hide hnl
  have HNX := hide hnx
  have mk := fun w => makeIss S (by omega) w
  obtain ⟨c4, hul, _⟩ := h
  have hbm : bm < w.heap.size := World.block_lt_of_cell? _ _ c4
  obtain ⟨cS, hcS⟩ : ∃ c, c = List.replicate S (Value.slice none 0 0) := ⟨_, rfl⟩
  rw [← hcS] at mk
  obtain ⟨w1, hw1⟩ : ∃ w1, w1 = w.alloc (.cells ⟨cS⟩ 26) := ⟨_, rfl⟩
  have HA1 : Hid (AhAt w1 w.heap.size S (w.heap.size + 1) cS (Rc.preTo next 0 0)) := by rw [hw1, hcS]; exact AhAt.start w S _ next
  have HB1 : Hid (Below w.heap.size w w1) := by rw [hw1]; exact (Below.refl _ _).alloc (Nat.le_refl _) _
  clear hcS hul hnl hnx
  go_enter Tryz.func52, Tryz.ntmps52
  go_wp2_with fail
  rw [← hw1]
  clear hw1
  go_loopw [20] (fun i wr => ∃ f : Nat, f ≤ S ∧ i = .int .i64 (f : Int) ∧ Hid (∃ vs, AhAt wr w.heap.size S (w.heap.size + 1) vs (Rc.preTo next f 0)) ∧ Hid (Below w.heap.size w wr)) (fun i _ => S - (intOf i).toNat)
  case atStart => exact ⟨0, Nat.zero_le _, rfl, ⟨_, HA1.out⟩, HB1.out⟩
  case round =>
    obtain ⟨f, hf, rfl, HA, HB⟩ := hrel
    by_cases hlt : f < S
    · have hna := HNA.out.below HB.out
      obtain ⟨bN, hbN⟩ : ∃ b, uN[f]? = some b := ⟨_, List.getElem?_eq_getElem (by rw [hna.2.1]; exact hlt)⟩
      have n1 := (hna.2.2 f bN hbN).1
      have HBN := hide hbN
      clear hna hbN
      go_wp2_with fail
      go_loopw [27] (fun i wr => ∃ b : Nat, b ≤ I ∧ i = .int .i64 (b : Int) ∧ Hid (∃ vs, AhAt wr w.heap.size S (w.heap.size + 1) vs (Rc.preTo next f b)) ∧ Hid (Below w.heap.size w wr)) (fun i _ => I - (intOf i).toNat)
      case atStart => exact ⟨0, Nat.zero_le _, rfl, HA.out, HB.out⟩
      case round =>
        obtain ⟨b, hb, rfl, HA, HB⟩ := hrel
        by_cases hbI : b < I
        · have hbl : b < (next f).length := by rw [HNL.out]; exact hbI
          have hx := List.getElem?_eq_getElem hbl
          have hxk : (next f)[b] < S := HNX.out f _ hlt (List.getElem_mem hbl)
          have hna := HNA.out.below HB.out
          have n2 := (hna.2.2 f bN HBN.out).2 b _ hx
          have HX := hide hx
          generalize (next f)[b] = u at *
          obtain ⟨vs, hah⟩ := HA.out
          obtain ⟨v, hv⟩ : ∃ v, vs[u]? = some v := ⟨_, List.getElem?_eq_getElem (by rw [hah.len]; exact hxk)⟩
          have hov := hah.own u v hv
          have t0 := hah.top.cell u v hv
          have tf := hah.top.frozen u
          obtain ⟨va, vc, rfl⟩ := own_slice hov
          have hpl := Rc.preTo_len next f b u
          have hwl : w.heap.size < wr.heap.size := World.block_lt_of_cell? _ _ t0
          have HAH := hide hah
          have HV := hide hv
          have HOV := hide hov
          have HPX := hide (fun hn => Rc.preTo_put next f b u HX.out hn)
          have HPS := hide (fun hn => Rc.preTo_pass next f b u HX.out hn)
          have HLA := hide (fun hn => Rc.preTo_last next f b u hn)
          have HOT := hide (fun x hn => Rc.preTo_other next f b u x hn)
          obtain ⟨pl, hplE⟩ : ∃ pl, pl = Rc.preTo next f b u := ⟨_, rfl⟩
          have HPE := hide hplE
          rw [← hplE] at hpl HOV HLA HOT t0 HV
          rw [← hplE] at HPX
          clear hna hx hah hv hov hplE
          have HONE : Hid (∀ u ∈ [Value.int .i64 (f : Int)], u.oneCell' = true) := by
            intro u hu
            simp only [List.mem_cons, List.not_mem_nil, or_false] at hu
            subst hu; rfl
          have hul : u < vs.length := (List.getElem?_eq_some_iff.1 HV.out).1
          have HFIN0 : Hid (u ∉ (next f).take b → ∀ (o : Obj) (g cap : Nat) (wC : World), wC.ownsRow (w.heap.size + 1) 3 1 (.slice (some ⟨g, 0, none⟩) (pl.length + 1) cap) (pl.length + 1) (pl.map intV ++ [intV f]) → (wr.alloc o).grownBy wC (Value.slice va pl.length vc).ownBlock → ((Value.slice va pl.length vc).ownBlock = some g ∨ g = wr.heap.size + 1) →
              (∃ vs, AhAt (wC.setCell ⟨w.heap.size, u, none⟩ (.slice (some ⟨g, 0, none⟩) (pl.length + 1) cap)) w.heap.size S (w.heap.size + 1) vs (Rc.preTo next f (b + 1))) ∧ Below w.heap.size w (wC.setCell ⟨w.heap.size, u, none⟩ (.slice (some ⟨g, 0, none⟩) (pl.length + 1) cap)) ∧ wC.cell? ⟨w.heap.size, u, none⟩ = some (.slice va pl.length vc) ∧ wC.frozen? ⟨w.heap.size, u, none⟩ = false) := by
            intro hn o g cap wC hown hgrow hloc
            have h1 := HAH.out.put (o := o) (f := f) (g2 := g) (cap2 := cap) (Nat.lt_succ_self _) HV.out (by rw [← HPE.out]; exact hown) hgrow hloc
            rw [← HPE.out] at h1
            have htop : RowIs wC w.heap.size 26 vs := by
              have h2 := HAH.out.top.alloc o
              refine (hgrow.block _ h2.lt (fun e => ?_)).trans h2
              have := (HOV.out.lt _ e.symm).1
              omega
            refine ⟨⟨_, h1.congr (HPX.out hn)⟩, ?_, htop.cell u _ HV.out, htop.frozen u⟩
            exact ((HB.out.alloc HB.out.size o).grown hgrow (by simp; omega) (fun j e => by have := (HOV.out.lt j e).1; omega)).setCell (p := ⟨w.heap.size, u, none⟩) (Nat.le_refl _) _
          by_cases hmem : u ∈ (next f).take b
          · obtain ⟨l, hl⟩ := HLA.out hmem
            obtain ⟨m, hm⟩ : ∃ m, pl.length = m + 1 := ⟨l.length, by rw [hl]; simp⟩
            obtain ⟨gv, hva, hcv, m0⟩ : ∃ g, va = some ⟨g, 0, none⟩ ∧ m + 1 ≤ vc ∧ wr.cell? ⟨g, m, none⟩ = some (intV f) := by
              rcases HOV.out.2 with ⟨_, h0⟩ | ⟨g, cap, cur, h1, _, hcur, hcap, _, _, htk⟩
              · omega
              · simp only [Value.slice.injEq] at h1
                have e : l.length = m := by rw [hl] at hm; simpa using hm
                exact ⟨g, h1.1, by rw [h1.2.2, ← hm]; exact hcap, row_cell hcur htk (by rw [List.getElem?_map, hl, ← e]; simp)⟩
            subst hva
            unfold intV at m0
            rw [hm] at t0
            have HAN : Hid (∃ vs, AhAt wr w.heap.size S (w.heap.size + 1) vs (Rc.preTo next f (b + 1))) := ⟨vs, HAH.out.congr (HPS.out hmem)⟩
            have hm5 : m ≤ 5000 := by omega
            have hm0 : ((m : Int) + 1 == 0) = false := by simp; omega
            clear hl hm hpl HFIN0
            go_wp2_with fail
            exact ⟨⟨b + 1, by omega, by go_num, HAN.out, HB.out⟩, by simp [intOf]; omega⟩
          · have HFIN := hide (HFIN0.out hmem (.cells #[.int .i64 (f : Int)] 3))
            have HOWN : Hid (∀ o, (wr.alloc o).ownsRow (w.heap.size + 1) 3 1 (.slice va pl.length vc) pl.length (pl.map intV)) := fun o => HOV.out.alloc o
            by_cases h0 : pl.length = 0
            · rw [h0] at t0 HFIN HOWN
              go_wp2_with (at_builtin; refine wpList_append_lies _ rfl (.tmp 63) (.tmp 65) 26 rfl (w.heap.size + 1) 3 i0 _ 1 8 Tryz.underlying26 hi0 hz0 hz1 hz2 rfl (by decide) (.slice va 0 vc) 0 (pl.map intV) rfl (HOWN.out _) ⟨wr.heap.size, 0, none⟩ 1 1 [.int .i64 (f : Int)] rfl rfl (World.news_of_block (heap_alloc_new wr _)) HONE.out (by decide) (by unfold maxLen; omega) (by omega) (by simp; omega) (wr.heap.size + 1) (by simp) ?_; intro g2 cap2 wC hown hgrow hat hltg; obtain ⟨haC, hbC, k0, k1⟩ := HFIN.out g2 cap2 wC hown hgrow hat; have HAC := hide haC; have HBC := hide hbC; clear haC hbC hown hgrow hat)
              exact ⟨⟨b + 1, by omega, by go_num, HAC.out, HBC.out⟩, by simp [intOf]; omega⟩
            · obtain ⟨m, hm⟩ : ∃ m, pl.length = m + 1 := ⟨pl.length - 1, by omega⟩
              have hml : m < pl.length := by omega
              have hxe := List.getElem?_eq_getElem hml
              have hxf := HOT.out _ hmem (List.mem_of_getElem? hxe)
              obtain ⟨gv, hva, hcv, m0⟩ : ∃ g, va = some ⟨g, 0, none⟩ ∧ m + 1 ≤ vc ∧ wr.cell? ⟨g, m, none⟩ = some (intV pl[m]) := by
                rcases HOV.out.2 with ⟨_, h0⟩ | ⟨g, cap, cur, h1, _, hcur, hcap, _, _, htk⟩
                · omega
                · simp only [Value.slice.injEq] at h1
                  exact ⟨g, h1.1, by rw [h1.2.2, ← hm]; exact hcap, row_cell hcur htk (by rw [List.getElem?_map, hxe]; rfl)⟩
              subst hva
              unfold intV at m0
              generalize pl[m] = x at *
              rw [hm] at t0 HFIN HOWN
              have hm5 : m ≤ 5000 := by omega
              have hm0 : ((m : Int) + 1 == 0) = false := by simp; omega
              have hxf1 : ((x : Int) != (f : Int)) = true := by simp; omega
              have hxf2 : ¬ (x = f) := by omega
              clear hxe hml hm h0 hpl
              go_wp2_with (at_builtin; refine wpList_append_lies _ rfl (.tmp 63) (.tmp 65) 26 rfl (w.heap.size + 1) 3 i0 _ 1 8 Tryz.underlying26 hi0 hz0 hz1 hz2 rfl (by decide) (.slice (some ⟨gv, 0, none⟩) (m + 1) vc) (m + 1) (pl.map intV) rfl (HOWN.out _) ⟨wr.heap.size, 0, none⟩ 1 1 [.int .i64 (f : Int)] rfl rfl (World.news_of_block (heap_alloc_new wr _)) HONE.out (by decide) (by unfold maxLen; omega) (by omega) (by simp; omega) (wr.heap.size + 1) (by simp) ?_; intro g2 cap2 wC hown hgrow hat hltg; obtain ⟨haC, hbC, k0, k1⟩ := HFIN.out g2 cap2 wC hown hgrow hat; have HAC := hide haC; have HBC := hide hbC; clear haC hbC hown hgrow hat)
              exact ⟨⟨b + 1, by omega, by go_num, HAC.out, HBC.out⟩, by simp [intOf]; omega⟩
        · have hbI' : b = I := by omega
          subst hbI'
          have HAN : Hid (∃ vs, AhAt wr w.heap.size S (w.heap.size + 1) vs (Rc.preTo next (f + 1) 0)) := by
            obtain ⟨vs, hah⟩ := HA.out
            exact ⟨vs, hah.congr (fun t => by rw [← Rc.preTo_next, HNL.out])⟩
          go_wp2_with fail
          exact ⟨⟨f + 1, by omega, by go_num, HAN.out, HB.out⟩, by simp [intOf]; omega⟩
    · have hfS : f = S := by omega
      subst hfS
      obtain ⟨vs, hah⟩ := HA.out
      have HAH := hide hah
      clear hah HA
      go_wp2_with fail
      go_ret
      exact ⟨w.heap.size, vs, rfl, HAH.out, Nat.le_refl _, HB.out⟩
end
end Go.Proofs.YtkfikffnljnepaaGreatDoor
