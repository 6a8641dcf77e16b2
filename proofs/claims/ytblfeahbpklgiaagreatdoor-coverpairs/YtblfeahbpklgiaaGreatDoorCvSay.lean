/-
  The walks of package cover's saying and leastPair.
-/
import Derived.Test.YtblfeahbpklgiaaGreatDoorCvBase
import Derived.Deep.RegionWith
import Derived.Deep.DeepCutAuto
namespace Go.Proofs.YtblfeahbpklgiaaGreatDoor
namespace Cv
open Go.RowKit
theorem tells1 (l : List (List UInt8)) (hl : l.length ≤ 60) (sv : Value) (p q v : Nat) (w : World) (h : Strs w sv (l.map fun l => (⟨l.toArray⟩ : ByteArray))) (hp : w.cell? ⟨p, 0, none⟩ = some sv) (hq : w.cell? ⟨q, 0, none⟩ = some (.int .i64 (v : Int))) :
    E2.Tells (.func (.func 33) #[] #[.pointer (some ⟨p, 0, none⟩), .pointer (some ⟨q, 0, none⟩)]) (tv l v) w := by
  refine ⟨33, _, _, rfl, fun _ _ => by kernel_rfl, fun W hW nm => ?_⟩
  refine (saying1_any l hl nm sv p q v W (h.below hW) ((hW.cell (World.block_lt_of_cell? _ _ hp)).trans hp) ((hW.cell (World.block_lt_of_cell? _ _ hq)).trans hq)).mono ?_
  rintro e W' ⟨rfl, rfl⟩
  exact ⟨rfl, Below.refl _ _⟩
theorem pow_wrap (n : Nat) (hn : n ≤ 8) : wrap64 ((2 : Int) ^ n) = ((2 ^ n : Nat) : Int) := by
  have h : ∀ n : Fin 9, wrap64 ((2 : Int) ^ n.1) = ((2 ^ n.1 : Nat) : Int) := by decide +kernel
  exact h ⟨n, by omega⟩
/-- what stands while the table is filled -/
structure Fil (w : World) (sv : Value) (s : Nat → Bool) (m k : Nat) (W : World) : Prop where
  low : Below w.heap.size w W
  nm : W.cell? ⟨w.heap.size, 0, none⟩ = some sv
  tb : W.cell? ⟨w.heap.size + 2, 0, none⟩ = some (.slice (some ⟨w.heap.size + 1, 0, none⟩) m m)
  row : RowIs W (w.heap.size + 1) 4 (((tableTo s k).map Value.bool) ++ List.replicate (m - ((tableTo s k).map Value.bool).length) (.bool false))
theorem Fil.below {w W W' : World} {sv : Value} {s : Nat → Bool} {m k : Nat} (h : Fil w sv s m k W) (hb : Below W.heap.size W W') : Fil w sv s m k W' :=
  ⟨h.low.trans (hb.mono h.low.size), (hb.cell (World.block_lt_of_cell? _ _ h.nm)).trans h.nm, (hb.cell (World.block_lt_of_cell? _ _ h.tb)).trans h.tb, h.row.below hb⟩
theorem table_len (s : Nat → Bool) (k : Nat) : ((tableTo s k).map Value.bool).length = k := by simp [tableTo]
theorem table_succ (s : Nat → Bool) (k : Nat) : (tableTo s (k + 1)).map Value.bool = (tableTo s k).map Value.bool ++ [.bool (s k)] := by simp [tableTo, List.range_succ]
theorem Fil.next {w W : World} {sv : Value} {s : Nat → Bool} {m k : Nat} (h : Fil w sv s m k W) (hk : k < m) : Fil w sv s m (k + 1) (W.setCell ⟨w.heap.size + 1, k, none⟩ (.bool (s k))) := by
  refine ⟨h.low.setCell (p := ⟨w.heap.size + 1, k, none⟩) (by show w.heap.size ≤ w.heap.size + 1; omega) _, ?_, ?_, ?_⟩
  · rw [World.cell?_setCell_other _ _ _ _ (by intro e; simp at e)]; exact h.nm
  · rw [World.cell?_setCell_other _ _ _ _ (by intro e; simp at e)]; exact h.tb
  · have h1 := h.row.set k (.bool (s k))
    have h2 := fill_set ((tableTo s k).map Value.bool) (.bool false) (.bool (s k)) m (by rw [table_len]; exact hk)
    rw [table_len] at h2
    rw [table_len, h2] at h1
    rw [table_succ]
    exact h1
set_option maxHeartbeats 4000000 in
set_option maxRecDepth 100000 in
theorem saying_any (ok : Nat → Prop) (x : Ex) (v : Value) (l : List (List UInt8)) (hl : l.length ≤ 8) (sv : Value) (w : World) (hx : IsEx ok w x v) (h : Strs w sv (l.map fun l => (⟨l.toArray⟩ : ByteArray))) (hsl : ∃ a c, sv = .slice a l.length c) :
    Calls Tryz.prog 14 #[v, sv] w fun e w' => ∃ f p g, e = .returned f ∧ Says w' f (2 ^ l.length) (sayV x l) p g ∧ Below w.heap.size w w' := by
  have hmf : ∀ (fn : Fn) (first cap : Array Value) (w : World), (Instr.makeFunc fn first cap).run Tryz.prog w = .ok (.func fn first cap) w := fun _ _ _ _ => rfl
  have HS := hide h
  have HX := hide hx
  have HLL := hide hl
  obtain ⟨a, c, rfl⟩ := hsl
  obtain ⟨t, y, rfl⟩ := IsEx.iface x v hx
  obtain ⟨n, hn⟩ : ∃ n, n = l.length := ⟨_, rfl⟩
  have HN := hide hn
  have HPW := hide (pow_wrap n (by omega))
  obtain ⟨m, hm⟩ : ∃ m, m = 2 ^ n := ⟨_, rfl⟩
  have HM := hide hm
  have hm2 : m ≤ 256 := by rw [hm]; exact Nat.pow_le_pow_right (n := 2) (j := 8) (by decide) (by omega)
  rw [← hm] at HPW
  have mk := fun w => makeBs m (by omega) w
  obtain ⟨cb, hcb⟩ : ∃ cb, cb = List.replicate m (Value.bool false) := ⟨_, rfl⟩
  have HCB := hide hcb
  rw [← hcb] at mk
  rw [← hn] at hl HS ⊢
  rw [← hm]
  obtain ⟨s, hs⟩ : ∃ s, s = sayV x l := ⟨_, rfl⟩
  have HSS := hide hs
  rw [← hs]
  have hpw := HPW.out
  clear hn h hx hm hs hcb
  go_enter Tryz.func14, Tryz.ntmps14
  go_wp2_with fail
  have e1 : w.heap.size + 1 + 1 = w.heap.size + 2 := rfl
  have HF0 : Hid (Fil w (.slice a n c) s m 0 (((w.alloc (.cells #[.slice a n c] 34)).alloc (.cells ⟨cb⟩ 4)).alloc (.cells #[.slice (some ⟨w.heap.size + 1, 0, none⟩) m m] 73))) := by
    refine ⟨(((Below.refl _ w).alloc (Nat.le_refl _) _).alloc (by simp) _).alloc (by simp; omega) _, ?_, ?_, ?_⟩
    · rw [World.cell?_alloc_old _ _ _ (by simp; omega), World.cell?_alloc_old _ _ _ (by simp)]
      simp
    · have := (RowIs.new ((w.alloc (.cells #[.slice a n c] 34)).alloc (.cells ⟨cb⟩ 4)) 73 [.slice (some ⟨w.heap.size + 1, 0, none⟩) m m]).cell 0 _ rfl
      rw [show ((w.alloc (.cells #[.slice a n c] 34)).alloc (.cells ⟨cb⟩ 4)).heap.size = w.heap.size + 2 by simp] at this
      exact this
    · have := ((RowIs.new (w.alloc (.cells #[.slice a n c] 34)) 4 cb).alloc (.cells #[.slice (some ⟨w.heap.size + 1, 0, none⟩) m m] 73))
      rw [show (w.alloc (.cells #[.slice a n c] 34)).heap.size = w.heap.size + 1 by simp] at this
      rw [table_len, HCB.out] at *
      simpa [tableTo] using this
  rw [hpw]
  clear hpw mk
  go_loopw [14] (fun i wr => ∃ k : Nat, k ≤ m ∧ i = .int .i64 (k : Int) ∧ Hid (Fil w (.slice a n c) s m k wr)) (fun i _ => m - (intOf i).toNat)
  case atStart => exact ⟨0, Nat.zero_le _, rfl, HF0.out⟩
  case round =>
    obtain ⟨k, hk, rfl, HF⟩ := hrel
    clear HF0 e1
    by_cases hlt : k < m
    · obtain ⟨wb, hwb⟩ : ∃ wb, wb = wr.alloc (.cells #[.int .i64 (k : Int)] 3) := ⟨_, rfl⟩
      have hbb : Below wr.heap.size wr wb := by rw [hwb]; exact (Below.refl _ _).alloc (Nat.le_refl _) _
      have HFB := hide (HF.out.below hbb)
      have c6 : wb.cell? ⟨wr.heap.size, 0, none⟩ = some (.int .i64 (k : Int)) := by rw [hwb]; simp
      have c5 := HFB.out.tb
      have hdr : Below wb.heap.size wb wb.drew := ⟨rfl, rfl, rfl, Nat.le_refl _, fun _ _ => rfl⟩
      have HT := hide ((tells1 l (by have := HLL.out; omega) (.slice a n c) w.heap.size wr.heap.size k wb ((HS.out.below HF.out.low).below hbb) HFB.out.nm c6).below hdr)
      have HE := hide (E2.Eval_any ok x (.iface t y) _ _ _ _ wb.drew (IsEx.stay (Stay.below (HFB.out.below hdr).low) (fun g hg => hg) x _ HX.out) HT.out HT.out)
      have HEV : Hid (x.eval (tv l k) (tv l k) = s k) := by show _ = _; rw [HSS.out]; rfl
      rw [HEV.out] at HE
      have HWB := hide hwb
      clear hwb hbb
      go_upto_region 6 with fail
      rw [← HWB.out]
      have HK : Hid (∀ W, Below wb.heap.size wb W → W.cell? ⟨w.heap.size + 2, 0, none⟩ = some (.slice (some ⟨w.heap.size + 1, 0, none⟩) m m) ∧ W.cell? ⟨wr.heap.size, 0, none⟩ = some (.int .i64 (k : Int)) ∧ W.cell? ⟨w.heap.size + 1, k, none⟩ = some (.bool false) ∧ W.frozen? ⟨w.heap.size + 1, k, none⟩ = false) := by
        intro W hW
        have h1 := HFB.out.below hW
        refine ⟨h1.tb, (hW.cell (World.block_lt_of_cell? _ _ c6)).trans c6, ?_, h1.row.frozen k⟩
        exact h1.row.cell k _ (by rw [List.getElem?_append_right (by rw [table_len]; exact Nat.le_refl _), table_len, List.getElem?_replicate, if_pos (by omega)])
      obtain ⟨d1, d2, d3, d4⟩ := HK.out wb.drew hdr
      clear c5 c6
      go_region_with ((go_at_call 35; refine HE.out.mono ?_; rintro e w2 ⟨rfl, hb2⟩; have HB2 := hide (hdr.trans (hb2.mono hdr.size)); obtain ⟨k1, k2, k3, k4⟩ := HK.out w2 HB2.out; clear hb2))
      all_goals
        have HFN := hide ((HFB.out.below HB2.out).next hlt)
        go_wp2_with fail
        go_roundw
        case rel => exact ⟨k + 1, by omega, by go_num, HFN.out⟩
        case measure => simp [intOf]; omega
    · have hkm : k = m := by omega
      subst hkm
      go_wp2_with fail
      go_ret
      refine ⟨_, _, _, rfl, ⟨rfl, HF.out.tb, ?_⟩, HF.out.low⟩
      have h1 := HF.out.row
      rw [table_len, Nat.sub_self, List.replicate_zero, List.append_nil] at h1
      exact h1
theorem and_pow (v k : Nat) (hv : v < 256) (hk : k < 8) : bits BinOp.and .u64 (v : Int) ((2 ^ k : Nat) : Int) = if v.testBit k then ((2 ^ k : Nat) : Int) else 0 := by
  have h1 : ∀ v : Fin 256, ∀ k : Fin 8, v.1 &&& 2 ^ k.1 = if v.1.testBit k.1 then 2 ^ k.1 else 0 := by decide +kernel
  have h2 : 2 ^ k ≤ 2 ^ 7 := Nat.pow_le_pow_right (by decide) (by omega)
  rw [bits_and_u64_nat v (2 ^ k) (by omega) (by omega), h1 ⟨v, hv⟩ ⟨k, hk⟩]
  simp only
  split <;> simp
theorem or_pow (v k : Nat) (hv : v < 18446744073709551616) (hk : k < 8) : bits BinOp.or .u64 (v : Int) ((2 ^ k : Nat) : Int) = ((v ||| 2 ^ k : Nat) : Int) := by
  have h2 : 2 ^ k ≤ 2 ^ 7 := Nat.pow_le_pow_right (by decide) (by omega)
  exact bits_or_u64_nat v (2 ^ k) hv (by omega)
/-- what leastPair tells -/
def told : Option Nat → Nat → Value
  | some v, k => .tuple #[.int .u64 (v : Int), .int .u64 ((v ||| 2 ^ k : Nat) : Int), .bool true]
  | none, _ => .tuple #[.int .u64 0, .int .u64 0, .bool false]
set_option maxHeartbeats 4000000 in
set_option maxRecDepth 100000 in
theorem leastPair_any (n k : Nat) (hn : n ≤ 8) (hk : k < n) (s : Nat → Bool) (f : Value) (p g : Nat) (w : World) (h : Says w f (2 ^ n) s p g) :
    Calls Tryz.prog 15 #[.int .i64 (n : Int), .int .i64 (k : Int), f] w fun e w' => e = .returned (told (least s n k) k) ∧ w' = w := by
  obtain ⟨rfl, h1, h2⟩ := h
  have HS := hide (fun v hv => saying2_any (2 ^ n) (by have : 2 ^ n ≤ 2 ^ 8 := Nat.pow_le_pow_right (by decide) hn; omega) s p g v hv w h1 h2)
  have hent : ∀ (args : Array Value) (w : World), (callFunc 36 args).run Tryz.prog w = .ok (.enter 36 args) w := fun _ _ => by kernel_rfl
  have HOR := hide (fun v hv => or_pow v k hv (show k < 8 by omega))
  have HAN := hide (fun v hv => and_pow v k hv (show k < 8 by omega))
  have HBN : Hid (∀ v, v < 2 ^ n → v ||| 2 ^ k < 2 ^ n) := fun v hv => Nat.or_lt_two_pow hv (Nat.pow_lt_pow_right (by decide) hk)
  have hb0 : 0 < 2 ^ k := Nat.two_pow_pos k
  have HBB : Hid (2 ^ k ≤ 128) := Nat.pow_le_pow_right (n := 2) (j := 7) (by decide) (by omega)
  have hm2 : 2 ^ n ≤ 256 := Nat.pow_le_pow_right (n := 2) (j := 8) (by decide) hn
  have e1 : IntKind.u64.wrap ((2 : Int) ^ k) = ((2 ^ k : Nat) : Int) := by
    have h : ∀ n : Fin 9, IntKind.u64.wrap ((2 : Int) ^ n.1) = ((2 ^ n.1 : Nat) : Int) := by decide +kernel
    exact h ⟨k, by omega⟩
  have e2 : IntKind.u64.wrap ((2 : Int) ^ n) = ((2 ^ n : Nat) : Int) := by
    have h : ∀ n : Fin 9, IntKind.u64.wrap ((2 : Int) ^ n.1) = ((2 ^ n.1 : Nat) : Int) := by decide +kernel
    exact h ⟨n, by omega⟩
  have HL : Hid (least s n k = (List.range (2 ^ n)).find? (hit s k)) := rfl
  have HH : Hid (∀ v, hit s k v = (!v.testBit k && (s v != s (v ||| 2 ^ k)))) := fun _ => rfl
  have HTD : Hid (∀ v, told (some v) k = .tuple #[.int .u64 (v : Int), .int .u64 ((v ||| 2 ^ k : Nat) : Int), .bool true]) := fun _ => rfl
  generalize least s n k = L at *
  clear h1 h2
  generalize hq : (2 : Nat) ^ k = b at *
  generalize hmm : (2 : Nat) ^ n = m at *
  clear hq hmm
  go_enter Tryz.func15, Tryz.ntmps15
  go_wp2_with fail
  clear e1 e2
  go_loop [15] (fun i => ∃ v : Nat, v ≤ m ∧ i = .int .u64 (v : Int) ∧ Hid (∀ u, u < v → hit s k u = false)) (fun i => m - (intOf i).toNat)
  case atStart => exact ⟨0, Nat.zero_le _, rfl, fun u hu => by omega⟩
  case round =>
    obtain ⟨v, hv, rfl, HNO⟩ := hrel
    by_cases hlt : v < m
    · have hA := HAN.out v (by omega)
      have hO := HOR.out v (by omega)
      have HC1 := hide (HS.out v hlt)
      have HC2 := hide (HS.out _ (HBN.out v hlt))
      have HHV := hide (HH.out v)
      have HSTEP : Hid (hit s k v = false → ∀ u, u < v + 1 → hit s k u = false) := fun h u hu => by
        by_cases e : u = v
        · exact e ▸ h
        · exact HNO.out u (by omega)
      cases ht : v.testBit k with
      | true =>
        rw [ht] at hA
        simp only [if_true] at hA
        have hbz : ((b : Int) == 0) = false := by simp; omega
        have HF : Hid (hit s k v = false) := by show _ = _; rw [HHV.out, ht]; rfl
        clear ht
        go_wp2_with fail
        go_round
        case rel => exact ⟨v + 1, by omega, by go_num, HSTEP.out HF.out⟩
        case measure => simp [intOf]; omega
      | false =>
        rw [ht] at hA
        simp only [Bool.false_eq_true, if_false] at hA
        rw [ht] at HHV
        clear ht
        have HV2 : Hid (v < m) := hlt
        generalize hu : v ||| b = u at *
        have HU := hide hu
        clear hu
        generalize s v = sa at *
        generalize s u = sb at *
        go_wp2_with fail
        refine HC1.out.mono ?_
        rintro e w1 ⟨rfl, rfl⟩
        go_wp2_with fail
        refine HC2.out.mono ?_
        rintro e w2 ⟨rfl, rfl⟩
        cases hne : (sa == sb) with
        | false =>
          have hne2 : (!(sa == sb)) = true := by rw [hne]; rfl
          have HF : Hid (L = some v) := by
            show _ = _
            rw [HL.out, List.find?_range_eq_some]
            exact ⟨by rw [HHV.out]; simp [bne, hne], List.mem_range.2 HV2.out, fun u hu => by rw [HNO.out u hu]; rfl⟩
          have HTV := hide (HTD.out v)
          rw [HU.out] at HTV
          clear HHV
          go_wp2_with fail
          refine bodyPost_ret_by (v := .tuple #[.int .u64 (v : Int), .int .u64 (u : Int), .bool true]) ?_ rfl ⟨by rw [HF.out, HTV.out], rfl⟩
          simp [results, Tryz.results15, go_sem]
        | true =>
          have hne2 : (!(sa == sb)) = false := by rw [hne]; rfl
          have HF : Hid (hit s k v = false) := by show _ = _; rw [HHV.out]; simp [bne, hne]
          clear HHV
          go_wp2_with fail
          go_round
          case rel => exact ⟨v + 1, by omega, by go_num, HSTEP.out HF.out⟩
          case measure => simp [intOf]; omega
    · have hvm : v = m := by omega
      have HF : Hid (L = none) := by
        show _ = _
        rw [HL.out, List.find?_eq_none]
        intro u hu
        rw [HNO.out u (by have := List.mem_range.1 hu; omega)]
        simp
      subst hvm
      go_wp2_with fail
      refine bodyPost_ret_by (v := .tuple #[.int .u64 0, .int .u64 0, .bool false]) ?_ rfl ⟨by rw [HF.out]; rfl, rfl⟩
      simp [results, Tryz.results15, go_sem]
end Cv
end Go.Proofs.YtblfeahbpklgiaaGreatDoor
