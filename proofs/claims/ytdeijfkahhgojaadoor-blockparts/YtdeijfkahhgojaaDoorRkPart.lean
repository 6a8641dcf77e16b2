/-
  The walk of the document's own Part (9.2).
-/
import Derived.Test.YtdeijfkahhgojaaDoorRkBlocks
import Derived.Test.YtdeijfkahhgojaaDoorRkShort
namespace Go.Proofs.YtdeijfkahhgojaaDoor
namespace Bk
open Go.RowKit
/-- what the document's Part comes to -/
def RPartDone (w : World) (N T : List (List Int)) (a b : Nat) (e : Ending) (w' : World) : Prop := Below w.heap.size w w' ∧ ∃ D, Stable (tab N T) D ∧
  ((lv (tab N T) D a b = 0 ∧ e = .returned (.tuple #[.slice none 0 0, .bool false])) ∨ (0 < lv (tab N T) D a b ∧ ∃ v, e = .returned (.tuple #[v, .bool true]) ∧ Rw w' w.heap.size v (ints (rp (tab N T) D (lv (tab N T) D a b) a b))))
set_option maxHeartbeats 16000000 in
set_option maxRecDepth 100000 in
theorem RPart_any (N T : List (List Int)) (nv tv : Value) (a b : Nat) (w : World) (hG : Good N T) (hN : Rows w nv N) (hT : Rows w tv T) (ha : a < N.length) (hb : b < N.length) :
    Calls Tryd.prog 16 #[.agg #[nv, tv], .int .i64 (a : Int), .int .i64 (b : Int)] w (RPartDone w N T a b) := by
  obtain ⟨i0, hi0, hz0, hz1, hz2⟩ := info_parts Tryd.infoInt
  obtain ⟨wA, hwA⟩ : ∃ wA, wA = w.alloc (.cells #[nv, tv] 25) := ⟨_, rfl⟩
  have hzA : wA.heap.size = w.heap.size + 1 := by rw [hwA]; simp
  have hBA : Below w.heap.size w wA := by rw [hwA]; exact (Below.refl _ _).alloc (Nat.le_refl _) _
  have hTA : Tab wA w.heap.size nv tv := by rw [hwA]; exact TabR.new _ _ _
  have HC := hide (apart_any N T nv tv wA hG (hN.below hBA) (hT.below hBA))
  have HN0 := hide (hN.below hBA)
  have HT0 := hide (hT.below hBA)
  obtain ⟨gN, oN, nc, rfl⟩ := hN.base hG.pos
  obtain ⟨gT, oT, tc, rfl⟩ := hT.base (by have := hG.tells; have := hG.pos; omega)
  have HTA := hide hTA
  have HBA := hide hBA
  have HG := hide hG
  have hn5 := hG.few
  obtain ⟨m, hm⟩ : ∃ m, m = N.length := ⟨_, rfl⟩
  have HNn := hide hm
  have htl : T.length = m := by rw [hm]; exact hG.tells
  rw [← hm] at HTA hwA HC hn5 HN0 ha hb ⊢
  rw [htl] at HT0 HTA hwA HC ⊢
  obtain ⟨t0, t1⟩ := HTA.out
  have HTLn : Hid (T.length = m) := htl
  clear hN hT hBA hTA hG hm htl
  go_enter Tryd.func16, Tryd.ntmps16
  go_wp2_with fail
  rw [← hwA]
  clear hwA
  refine HC.out.mono ?_
  rintro e w1 ⟨hb1, D, g, rfl, hx, hst, hD5⟩
  rw [← HNn.out] at hx ⊢
  have HX := hide hx
  have HB1 := hide hb1
  have HN := hide (HN0.out.below hb1)
  have HT := hide (HT0.out.below hb1)
  have HTB := hide (HTA.out.below hb1)
  have HNL : Hid (N.length = m) := HNn.out.symm
  have HTN : Hid ((tab N T).n = m) := HNn.out.symm
  obtain ⟨k, hk⟩ : ∃ k, k = (N.getD 0 []).length := ⟨_, rfl⟩
  have HTK : Hid ((tab N T).k = k) := hk.symm
  have hk64 : k ≤ 64 := by rw [hk]; exact HG.out.ins
  have HNX : Hid (∀ s, s < m → (N.getD s []).length = k ∧ ∀ i, i < k → (N.getD s [])[i]? = some (((tab N T).nx s i : Nat) : Int) ∧ (tab N T).nx s i < m) := fun s hs => by
    have hs' : s < N.length := by rw [← HNn.out]; exact hs
    refine ⟨by rw [hk]; exact (HG.out.rows s hs').1, fun i hi => ⟨HG.out.next s hs' i (by rw [← hk]; exact hi), ?_⟩⟩
    have := HG.out.ok s (by rw [HTN.out]; exact hs) i (by rw [HTK.out]; exact hi)
    rw [HTN.out] at this
    exact this
  have HTL : Hid (∀ s, s < m → (T.getD s []).length = k ∧ ∀ i, i < k → (T.getD s [])[i]? = some ((tab N T).tl s i)) := fun s hs => by
    have hs' : s < N.length := by rw [← HNn.out]; exact hs
    exact ⟨by rw [hk]; exact (HG.out.rows s hs').2.1, fun i hi => HG.out.told s hs' i (by rw [← hk]; exact hi)⟩
  have HFIN0 : Hid (lv (tab N T) D a b = 0 → RPartDone w N T a b (.returned (.tuple #[.slice none 0 0, .bool false])) w1) := fun h => ⟨then_ HBA.out hb1, D, hst, .inl ⟨h, rfl⟩⟩
  have HFIN1 : Hid (∀ W v, Below w1.heap.size w1 W → 0 < lv (tab N T) D a b → Rw W w1.heap.size v (ints (rp (tab N T) D (lv (tab N T) D a b) a b)) → RPartDone w N T a b (.returned (.tuple #[v, .bool true])) W) := fun W v h1 h2 h3 => ⟨then_ HBA.out (then_ hb1 h1), D, hst, .inr ⟨h2, v, rfl, own_mono h3 (then_ HBA.out hb1).size⟩⟩
  have HLD : Hid (∀ x y, lv (tab N T) D x y ≤ 1000000) := fun x y => by
    rcases Nat.eq_zero_or_pos (lv (tab N T) D x y) with h | h
    · rw [h]; omega
    · have := (lv_val (tab N T) D x y h).1; omega
  obtain ⟨x0, x1, _⟩ := hx.cells a b ha hb
  have hai : (a : Int) < (m : Int) := by omega
  have hbi : (b : Int) < (m : Int) := by omega
  obtain ⟨t0, t1⟩ := HTB.out
  clear hx hst hb1 HC hk HG HNn hD5
  have hl5 := HLD.out a b
  by_cases h0 : lv (tab N T) D a b = 0
  · have HF := hide (HFIN0.out h0)
    rw [h0] at x1
    clear h0 HFIN0 HFIN1
    go_wp2_with fail
    go_ret2
    exact HF.out
  · have h0i : ¬ ((lv (tab N T) D a b : Nat) : Int) = 0 := by omega
    have h0b : (((lv (tab N T) D a b : Nat) : Int) == 0) = false := by simpa using h0i
    have HF := hide (fun W v h1 => HFIN1.out W v h1 (by omega))
    clear h0 HFIN0 HFIN1
    generalize tab N T = t at *
    obtain ⟨L, hL⟩ : ∃ L, L = lv t D a b := ⟨_, rfl⟩
    have HL := hide hL
    rw [← hL] at x1 h0i h0b HF hl5
    clear hL
    go_wp2_with fail
    go_loopw [1, 2, 9, 10] (fun av bv ov dv wr => ∃ (a' b' d : Nat) (pre : List Nat), a' < m ∧ b' < m ∧ av = .int .i64 (a' : Int) ∧ bv = .int .i64 (b' : Int) ∧ dv = .int .i64 (d : Int) ∧ d ≤ L ∧ (∃ oa oc, ov = .slice oa pre.length oc) ∧ Hid (0 < d → lv t D a' b' = d) ∧ Hid (pre.length + d = L) ∧ Hid (pre ++ rp t D d a' b' = rp t D L a b) ∧ Hid (∀ x, x ∈ pre → x < k) ∧ Hid (Rw wr w1.heap.size ov (ints pre)) ∧ Hid (Below w1.heap.size w1 wr)) (fun _ _ _ dv _ => (intOf dv).toNat)
    case atStart => exact ⟨a, b, L, [], ha, hb, rfl, rfl, rfl, Nat.le_refl _, ⟨_, _, rfl⟩, fun _ => HL.out.symm, (by show _ = _; simp), rfl, fun x hx => by simp at hx, World.ownsRow_nil _ _ _ _, Below.refl _ _⟩
    case round =>
      obtain ⟨a', b', d, pre, ha', hb', rfl, rfl, hdv, hdL, ⟨oa, oc, rfl⟩, HLV, HPL, HRP, HPK, HO, HB⟩ := hrel
      obtain ⟨wo, hwo⟩ : ∃ wo, wo = wr := ⟨_, rfl⟩
      subst hwo
      obtain ⟨E, hE⟩ : ∃ E : Int, E = (d : Int) := ⟨_, rfl⟩
      rw [← hE] at hdv
      subst hdv
      have HEQ := hide hE
      clear hE
      by_cases hd0 : d = 0
      · have hE0 : E = 0 := by have := HEQ.out; omega
        subst hE0
        have hpre : pre = rp t D L a b := by have h := HRP.out; rw [hd0, rp, List.append_nil] at h; exact h
        have HFE : Hid (RPartDone w N T a b (.returned (.tuple #[.slice oa pre.length oc, .bool true])) wo) := HF.out wo _ HB.out (by rw [← hpre]; exact HO.out)
        clear hpre hd0
        go_wp2_with fail
        go_ret2
        exact HFE.out
      · have hd1 : (0 : Int) < E := by have := HEQ.out; omega
        have hlv := HLV.out (by omega)
        obtain ⟨d', hd'⟩ : ∃ d', d = d' + 1 := ⟨d - 1, by omega⟩
        have HEX : Hid (∃ i, i < t.k ∧ hitB t D d a' b' i = true) := by rw [hd']; exact hit_ex t D d' a' b' (by rw [← hd']; exact hlv)
        have HDD' := hide hd'
        have hai' : (a' : Int) < (m : Int) := by omega
        have hbi' : (b' : Int) < (m : Int) := by omega
        obtain ⟨t0, t1⟩ := HTB.out.below HB.out
        obtain ⟨ua, da, ca, ia⟩ := (HN.out.below HB.out).at a' (by rw [HNL.out]; exact ha')
        rw [(HNX.out a' ha').1] at ca
        clear hlv hd'
        go_wp2_with fail
        clear ia ca t0 t1
        go_loopw [1, 2, 9, 41] (fun av bv ov iv wr => ∃ i : Nat, i ≤ k ∧ iv = .int .i64 (i : Int) ∧ av = .int .i64 (a' : Int) ∧ bv = .int .i64 (b' : Int) ∧ ov = .slice oa pre.length oc ∧ Hid (∀ j, j < i → hitB t D d a' b' j = false) ∧ Hid (Below wo.heap.size wo wr)) (fun _ _ _ iv _ => k - (intOf iv).toNat)
        case atStart => exact ⟨0, Nat.zero_le _, rfl, rfl, rfl, rfl, fun j hj => by omega, Below.refl _ _⟩
        case round =>
          obtain ⟨i, hi, rfl, rfl, rfl, rfl, HNH, HBI⟩ := hrel
          obtain ⟨wq, hwq⟩ : ∃ wq, wq = wr := ⟨_, rfl⟩
          subst hwq
          have HBW := hide (then_ HB.out HBI.out)
          by_cases hlt3 : i < k
          · have hki : (i : Int) < (k : Int) := by omega
            have HXw := hide (HX.out.below HBW.out)
            obtain ⟨t0, t1⟩ := HTB.out.below HBW.out
            obtain ⟨ua, da, ca, ia⟩ := (HN.out.below HBW.out).at a' (by rw [HNL.out]; exact ha')
            obtain ⟨ub, db, cb, ib⟩ := (HN.out.below HBW.out).at b' (by rw [HNL.out]; exact hb')
            obtain ⟨va, ea, cva, iva⟩ := (HT.out.below HBW.out).at a' (by rw [HTLn.out]; exact ha')
            obtain ⟨vb, eb, cvb, ivb⟩ := (HT.out.below HBW.out).at b' (by rw [HTLn.out]; exact hb')
            rw [(HNX.out a' ha').1] at ca ia
            rw [(HNX.out b' hb').1] at cb ib
            rw [(HTL.out a' ha').1] at cva iva
            rw [(HTL.out b' hb').1] at cvb ivb
            obtain ⟨n1, l1⟩ := (HNX.out a' ha').2 i hlt3
            obtain ⟨n2, l2⟩ := (HNX.out b' hb').2 i hlt3
            obtain ⟨g1, o1, rfl, d1, _⟩ := ia.cell i _ n1
            obtain ⟨g2, o2, rfl, d2, _⟩ := ib.cell i _ n2
            obtain ⟨g3, o3, rfl, d3, _⟩ := iva.cell i _ ((HTL.out a' ha').2 i hlt3)
            obtain ⟨g4, o4, rfl, d4, _⟩ := ivb.cell i _ ((HTL.out b' hb').2 i hlt3)
            obtain ⟨x3, x4, _⟩ := HXw.out.cells _ _ l1 l2
            have HHR : Hid (hitB t D d a' b' i = if d = 1 then decide (t.tl a' i ≠ t.tl b' i) else decide (lv t D (t.nx a' i) (t.nx b' i) = d - 1)) := rfl
            have HNX2 : Hid (hitB t D d a' b' i = false → ∀ j, j < i + 1 → hitB t D d a' b' j = false) := fun h j hj => by
              by_cases e : j = i
              · subst e; exact h
              · exact HNH.out j (by omega)
            have HDD : Hid (∀ n, Below wq.heap.size wq (wq.drewN n)) := fun _ => ⟨rfl, rfl, rfl, Nat.le_refl _, fun _ _ => rfl⟩
            have HPAR : Hid (hitB t D d a' b' i = true → rp t D d a' b' = i :: rp t D d' (t.nx a' i) (t.nx b' i) ∧ (0 < d' → lv t D (t.nx a' i) (t.nx b' i) = d')) := fun h => by
              have hf := fst_is t D d a' b' i (by rw [HTK.out]; exact hlt3) h HNH.out
              have e := HDD'.out
              refine ⟨?_, fun hp => ?_⟩
              · rw [e, rp]
                rw [e] at hf
                rw [hf]
              · obtain ⟨d2, rfl⟩ : ∃ d2, d' = d2 + 1 := ⟨d' - 1, by omega⟩
                rw [e] at h
                exact hit_next t D d2 a' b' i h
            have HOWN : Hid (∀ n o, ((wq.drewN n).alloc o).ownsRow w1.heap.size 3 1 (.slice oa pre.length oc) pre.length ((ints pre).map intV)) := fun n o => by
              have h := own_below HO.out (then_ HBI.out (HDD.out n))
              rw [ints_len] at h
              exact h.alloc o
            have HONE : Hid (∀ u ∈ [Value.int .i64 (i : Int)], u.oneCell' = true) := by
              intro u hu
              simp only [List.mem_cons, List.not_mem_nil, or_false] at hu
              subst hu; rfl
            have hzw : w1.heap.size ≤ wq.heap.size := HBW.out.size
            have hpl5 : pre.length ≤ 1000000 := by have := HPL.out; omega
            have HAPP : Hid (∀ (n : Nat) (o : Obj) (g2 cap2 : Nat) (wC : World), wC.ownsRow w1.heap.size 3 1 (.slice (some ⟨g2, 0, none⟩) (pre.length + 1) cap2) (pre.length + 1) ((ints pre).map intV ++ [.int .i64 (i : Int)]) → ((wq.drewN n).alloc o).grownBy wC (Value.slice oa pre.length oc).ownBlock → Rw wC w1.heap.size (.slice (some ⟨g2, 0, none⟩) (pre.length + 1) cap2) (ints (pre ++ [i])) ∧ Below w1.heap.size w1 wC) := fun n o g2 cap2 wC h1 h2 => by
              have h := rw_app (own_below HO.out (then_ HBI.out (HDD.out n))) hzw (i : Int) o g2 cap2 (by rw [ints_len]; exact h1) h2
              rw [ints_len] at h
              rw [ints_snoc]
              exact ⟨h.1, (HBW.out.trans ((HDD.out n).mono hzw)).trans h.2⟩
            have HPN : Hid (∀ x, x ∈ pre ++ [i] → x < k) := fun x hx => by
              rcases List.mem_append.1 hx with h | h
              · exact HPK.out x h
              · simp only [List.mem_cons, List.not_mem_nil, or_false] at h
                subst h; exact hlt3
            have HPP : Hid (hitB t D d a' b' i = true → (pre ++ [i]) ++ rp t D d' (t.nx a' i) (t.nx b' i) = rp t D L a b) := fun h => by
              have h2 := HRP.out
              rw [(HPAR.out h).1] at h2
              rw [List.append_assoc]
              exact h2
            clear n1 n2 ia ib iva ivb
            generalize t.nx a' i = x at *
            generalize t.nx b' i = y at *
            generalize t.tl a' i = p at *
            generalize t.tl b' i = q at *
            have HC0 : Hid (∀ z, lv t D x y = z → lv t D x y = z) := fun z h => h
            generalize hc : lv t D x y = C at *
            by_cases h0 : d = 1
            · have HD1 := hide h0
              by_cases hpq : p = q
              · have hpb : (p != q) = false := by simpa using hpq
                have hh : hitB t D d a' b' i = false := by have h := HHR.out; rw [if_pos h0] at h; rw [h]; simpa using hpq
                have hE1 : E = 1 := by have := HEQ.out; omega
                subst hE1
                have HNO := hide (HNX2.out hh)
                clear HPAR HPP HHR HEX HNX2
                go_wp2_with fail
                go_quiet (fail)
                go_wp2_with fail
                go_quiet (fail)
                go_wp2_with fail
                go_roundw
                case rel => exact ⟨i + 1, by omega, by go_num, rfl, rfl, rfl, HNO.out, then_ HBI.out (HDD.out _)⟩
                case measure => simp [intOf]; omega
              · have hpb : (p != q) = true := by simpa using hpq
                have hh : hitB t D d a' b' i = true := by have h := HHR.out; rw [if_pos h0] at h; rw [h]; simpa using hpq
                have hE1 : E = 1 := by have := HEQ.out; omega
                subst hE1
                have hpar := HPAR.out hh
                have hpp := HPP.out hh
                have HP1 := hide hpar.2
                have HP2 := hide hpp
                have HPL2 : Hid ((pre ++ [i]).length = pre.length + 1) := by show _ = _; simp
                clear hpar hpp HPAR HPP HHR HEX HNX2
                go_wp2_with fail
                go_quiet (fail)
                go_wp2_with fail
                go_quiet (fail)
                go_wp2_with (at_builtin; refine wpList_append_lies _ rfl (.tmp 97) (.tmp 99) 31 rfl w1.heap.size 3 i0 _ 1 8 Tryd.underlying31 hi0 hz0 hz1 hz2 rfl (by decide) (.slice oa pre.length oc) pre.length ((ints pre).map intV) rfl (HOWN.out _ _) ⟨wq.heap.size, 0, none⟩ 1 1 [.int .i64 (i : Int)] rfl rfl (World.news_of_block (heap_alloc_new _ _)) (HONE.out) (by decide) (by unfold maxLen; omega) (by omega) (by simp; omega) (wq.heap.size + 1) (by simp) ?_; intro g9 cap9 wC hown hgrow hat hltg; obtain ⟨ha1, ha2⟩ := HAPP.out _ _ g9 cap9 wC hown hgrow; have HA1 := hide ha1; have HA2 := hide ha2; clear hown hgrow hat ha1 ha2)
                go_roundw
                case rel => exact ⟨x, y, d', pre ++ [i], l1, l2, rfl, rfl, (by have := HDD'.out; have := HEQ.out; congr 1 <;> omega), (by have := HDD'.out; omega), ⟨_, _, by rw [HPL2.out]⟩, (by first | (show _ → _; rw [hc]; exact HP1.out) | exact fun _ => hc), (by have := HPL.out; have := HDD'.out; show _ = _; rw [HPL2.out]; omega), HP2.out, HPN.out, HA1.out, HA2.out⟩
                case measure => have := HDD'.out; have := HEQ.out; simp [intOf] <;> omega
            · have hD1 : ¬ E = 1 := by have := HEQ.out; omega
              have hDb : (E == 1) = false := by simpa using hD1
              have hDd : Decidable.decide (E = 1) = false := by simpa using hD1
              have hDg : (1 : Int) < E := by have := HEQ.out; omega
              have hDe : Decidable.decide ((1 : Int) < E) = true := by simpa using hDg
              have hDs : IntKind.i64.wrap (E - 1) = (d' : Int) := by rw [show E - 1 = (d' : Int) by have := HEQ.out; have := HDD'.out; omega]; exact wrapI _ (by omega) (by have := HDD'.out; omega)
              by_cases hC : C = d'
              · have hh : hitB t D d a' b' i = true := by have h := HHR.out; rw [if_neg h0] at h; rw [h]; have := HDD'.out; simp; omega
                have hCb : ((C : Int) == (d' : Int)) = true := by rw [hC]; simp
                subst hC
                have hpar := HPAR.out hh
                have hpp := HPP.out hh
                have HP1 := hide hpar.2
                have HP2 := hide hpp
                have HPL2 : Hid ((pre ++ [i]).length = pre.length + 1) := by show _ = _; simp
                clear hpar hpp HPAR HPP HHR HEX HNX2
                go_wp2_with fail
                go_quiet (fail)
                go_wp2_with fail
                go_quiet (fail)
                go_wp2_with (at_builtin; refine wpList_append_lies _ rfl (.tmp 97) (.tmp 99) 31 rfl w1.heap.size 3 i0 _ 1 8 Tryd.underlying31 hi0 hz0 hz1 hz2 rfl (by decide) (.slice oa pre.length oc) pre.length ((ints pre).map intV) rfl (HOWN.out _ _) ⟨wq.heap.size, 0, none⟩ 1 1 [.int .i64 (i : Int)] rfl rfl (World.news_of_block (heap_alloc_new _ _)) (HONE.out) (by decide) (by unfold maxLen; omega) (by omega) (by simp; omega) (wq.heap.size + 1) (by simp) ?_; intro g9 cap9 wC hown hgrow hat hltg; obtain ⟨ha1, ha2⟩ := HAPP.out _ _ g9 cap9 wC hown hgrow; have HA1 := hide ha1; have HA2 := hide ha2; clear hown hgrow hat ha1 ha2)
                go_roundw
                case rel => exact ⟨x, y, C, pre ++ [i], l1, l2, rfl, rfl, (by have := HDD'.out; have := HEQ.out; congr 1 <;> omega), (by have := HDD'.out; omega), ⟨_, _, by rw [HPL2.out]⟩, (by first | (show _ → _; rw [hc]; exact HP1.out) | exact fun _ => hc), (by have := HPL.out; have := HDD'.out; show _ = _; rw [HPL2.out]; omega), HP2.out, HPN.out, HA1.out, HA2.out⟩
                case measure => have := HDD'.out; have := HEQ.out; simp [intOf] <;> omega
              · have hh : hitB t D d a' b' i = false := by have h := HHR.out; rw [if_neg h0] at h; rw [h]; have := HDD'.out; simp; omega
                have hCi : ¬ (C : Int) = (d' : Int) := by omega
                have hCb : ((C : Int) == (d' : Int)) = false := by simpa using hCi
                have hCd : Decidable.decide ((C : Int) = (d' : Int)) = false := by simpa using hCi
                have HNO := hide (HNX2.out hh)
                clear HPAR HPP HHR HEX HNX2
                go_wp2_with fail
                go_quiet (fail)
                go_wp2_with fail
                go_quiet (fail)
                go_wp2_with fail
                go_roundw
                case rel => exact ⟨i + 1, by omega, by go_num, rfl, rfl, rfl, HNO.out, then_ HBI.out (HDD.out _)⟩
                case measure => simp [intOf]; omega
          · exfalso
            obtain ⟨i', h1, h2⟩ := HEX.out
            have := HNH.out i' (by rw [HTK.out] at h1; omega)
            rw [h2] at this
            cases this
end Bk
end Go.Proofs.YtdeijfkahhgojaaDoor
