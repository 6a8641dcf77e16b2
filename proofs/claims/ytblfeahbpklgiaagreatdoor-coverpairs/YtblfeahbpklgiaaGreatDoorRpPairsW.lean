/-
  The walk of the document's own Pairs.
-/
import Derived.Test.YtblfeahbpklgiaaGreatDoorRpPairs
import Derived.Deep.AppendLies
namespace Go.Proofs.YtblfeahbpklgiaaGreatDoor
namespace Cv
open Go.RowKit
theorem infoQ : (Tryz.prog.info? 41).map (fun i => (i.zero, i.size, i.bytes)) = some (some (.agg #[.string ⟨#[]⟩, .int .u64 0, .int .u64 0]), 3, 32) := by kernel_rfl
theorem PairsAt.ownQ {w : World} {B : Nat} {v : Value} {l : List Pr} (h : w.ownsRow B 41 3 v l.length (l.flatMap prCells)) : PairsAt w v l := by
  have hown := h
  rcases h.2 with ⟨hv, h0⟩ | ⟨g, cap, cur, hv, hbg, hg, hnc, hcm, hcs, htake⟩
  · exact .inl ⟨List.length_eq_zero_iff.1 h0, hv⟩
  · refine .inr ⟨g, cap, hv, hnc, fun i p hp => ?_⟩
    have key : ∀ j u, j < 3 → (prCells p)[j]? = some u → w.cell? ⟨g, i * 3 + j, none⟩ = some u := fun j u hj hu => by
      have := hown.cells (g := g) (by rw [hv]; rfl) (i * 3 + j) u (by rw [flat_at l i p hp j hj]; exact hu)
      generalize i * 3 + j = q at *
      cases q <;> simpa [Addr.add] using this
    exact ⟨key 0 _ (by decide) rfl, key 1 _ (by decide) rfl, key 2 _ (by decide) rfl⟩
theorem ownQ {w w' : World} {B : Nat} {e : TypeId} {z : Nat} {v : Value} {n : Nat} {xs : List Value} (h : w.ownsRow B e z v n xs) (hb : Below w.heap.size w w') : w'.ownsRow B e z v n xs :=
  h.kept (row := none) ⟨hb.os, hb.tape, hb.output, hb.size, fun k hk _ => hb.block k hk⟩ (by cases v.ownBlock <;> simp)
theorem or_add (v k : Nat) (hv : v < 256) (hk : k < 8) (h : v.testBit k = false) : v ||| 2 ^ k = v + 2 ^ k := by
  have h1 : ∀ v : Fin 256, ∀ k : Fin 8, v.1.testBit k.1 = false → v.1 ||| 2 ^ k.1 = v.1 + 2 ^ k.1 := by decide +kernel
  exact h1 ⟨v, hv⟩ ⟨k, hk⟩ h
theorem rem_bit (v k : Nat) : (((v : Int) / 2 ^ k).tmod 2 == 0) = !v.testBit k := by
  rw [Nat.testBit_eq_decide_div_mod_eq]
  have e : (v : Int) / 2 ^ k = ((v / 2 ^ k : Nat) : Int) := by simp
  rw [e]
  generalize v / 2 ^ k = q
  have e2 : ((q : Int)).tmod 2 = ((q % 2 : Nat) : Int) := by rw [Int.tmod_eq_emod_of_nonneg (by omega)]; omega
  rw [e2]
  have h3 : q % 2 = 0 ∨ q % 2 = 1 := by omega
  rcases h3 with h | h <;> simp [h]
theorem pow_wrapq (k : Nat) (hk : k ≤ 8) : IntKind.u64.wrap ((2 : Int) ^ k) = ((2 ^ k : Nat) : Int) := by
  have h : ∀ n : Fin 9, IntKind.u64.wrap ((2 : Int) ^ n.1) = ((2 ^ n.1 : Nat) : Int) := by decide +kernel
  exact h ⟨k, by omega⟩
/-- what the document's Pairs comes to -/
def RPairs (w : World) (x : Ex) (e : Ending) (w' : World) : Prop := ∃ sv, e = .returned sv ∧ PairsAt w' sv (pairsTo (sayV x (ordered (x.named true))) (ordered (x.named true)) (ordered (x.named true)).length) ∧ Below w.heap.size w w'
set_option maxHeartbeats 8000000 in
set_option maxRecDepth 100000 in
theorem RPairs_any (x : Ex) (g : Nat) (m : Int) (w : World) (hx : IsRx (fun _ => True) w x g) (hlen : x.size ≤ 1000000) (hmp : 2 < w.heap.size) (hm : w.cell? ⟨2, 0, none⟩ = some (.int .i64 m)) (h8 : (ordered (x.named true)).length ≤ 8) (hne : ∀ n, n ∈ x.named true → n ≠ []) :
    Calls Tryz.prog 9 #[.pointer (some ⟨g, 0, none⟩)] w (RPairs w x) := by
  obtain ⟨i0, hi0, hz0, hz1, hz2⟩ := info_parts infoQ
  have hmf : ∀ (fn : Fn) (first cap : Array Value) (w : World), (Instr.makeFunc fn first cap).run Tryz.prog w = .ok (.func fn first cap) w := fun _ _ _ _ => rfl
  obtain ⟨w1, hw1⟩ : ∃ w1, w1 = w.alloc (.cells #[.pointer (some ⟨g, 0, none⟩)] 24) := ⟨_, rfl⟩
  have hb1 : Below w.heap.size w w1 := by rw [hw1]; exact (Below.refl _ _).alloc (Nat.le_refl _) _
  have HB1 := hide hb1
  have HX1 := hide (IsRx.later hx hb1)
  have HCE : Hid (w1.cell? ⟨w.heap.size, 0, none⟩ = some (.pointer (some ⟨g, 0, none⟩))) := by show _ = _; rw [hw1]; simp
  have HNA := hide (RNames_any _ x g m w1 HX1.out hlen (Nat.lt_of_lt_of_le hmp hb1.size) ((hb1.cell (World.block_lt_of_cell? _ _ hm)).trans hm))
  have HNE : Hid (∀ n, n ∈ ordered (x.named true) → n ≠ []) := fun n hn => hne n ((mem_ordered _ _).1 hn)
  have HIN : Hid (∀ n, n ∈ x.named true → n ∈ ordered (x.named true)) := fun n hn => (mem_ordered _ _).2 hn
  have HPD : Hid (∀ sv w', PairsAt w' sv (pairsTo (sayV x (ordered (x.named true))) (ordered (x.named true)) (ordered (x.named true)).length) → Below w.heap.size w w' → RPairs w x (.returned sv) w') := fun sv w' h1 h2 => ⟨sv, rfl, h1, h2⟩
  rw [hw1] at HNA
  have HW1 := hide hw1
  generalize ordered (x.named true) = N at *
  clear hx hlen hmp hm hb1 hw1 hne
  go_enter Tryz.func9, Tryz.ntmps9
  go_wp2_with fail
  refine HNA.out.mono ?_
  rw [← HW1.out]
  rintro e w2 ⟨sN, rfl, hsN, hb2⟩
  obtain ⟨an, cn, rfl, ln1, ln2⟩ := strs_slice hsN
  rw [List.length_map] at ln1 ln2 hsN ⊢
  obtain ⟨n, hn⟩ : ∃ n, n = N.length := ⟨_, rfl⟩
  have HN := hide hn
  rw [← hn] at ln1 ln2 hsN h8 ⊢
  obtain ⟨w3, hw3⟩ : ∃ w3, w3 = w2.alloc (.cells #[.slice an n cn] 34) := ⟨_, rfl⟩
  have hb3 : Below w2.heap.size w2 w3 := by rw [hw3]; exact (Below.refl _ _).alloc (Nat.le_refl _) _
  have HB13 := hide (hb2.trans (hb3.mono hb2.size))
  have HB3 := hide (HB1.out.trans (HB13.out.mono HB1.out.size))
  have HCN : Hid (w3.cell? ⟨w2.heap.size, 0, none⟩ = some (.slice an n cn)) := by show _ = _; rw [hw3]; simp
  have HCE3 : Hid (w3.cell? ⟨w.heap.size, 0, none⟩ = some (.pointer (some ⟨g, 0, none⟩))) := (HB13.out.cell (World.block_lt_of_cell? _ _ HCE.out)).trans HCE.out
  have HS3 := hide (hsN.below hb3)
  have HX3 := hide (IsRx.later HX1.out HB13.out)
  have HW3 := hide hw3
  obtain ⟨bn, hbn⟩ : ∃ bn, bn = w2.heap.size := ⟨_, rfl⟩
  rw [← hbn] at HCN
  have HBN := hide hbn
  obtain ⟨be, hbe⟩ : ∃ be, be = w.heap.size := ⟨_, rfl⟩
  rw [← hbe] at HCE3
  have HBE := hide hbe
  obtain ⟨s, hs⟩ : ∃ s, s = sayV x N := ⟨_, rfl⟩
  have HSE := hide hs
  have hent : ∀ (args : Array Value) (w : World), (callFunc 19 args).run Tryz.prog w = .ok (.enter 19 args) w := fun _ _ => by kernel_rfl
  have HSAY : Hid (∀ (v : Nat) W, Below w3.heap.size w3 W → Calls Tryz.prog 19 #[.int .u64 (v : Int), .pointer (some ⟨bn, 0, none⟩), .pointer (some ⟨be, 0, none⟩)] W fun e w' => e = .returned (.bool (s v)) ∧ Below W.heap.size W w') := fun v W hW => by
    rw [hs]
    exact rpairs1_any x g N (by rw [← HN.out]; omega) HNE.out HIN.out (.slice an n cn) bn be v W (IsRx.later HX3.out hW) (HS3.out.below hW) ((hW.cell (World.block_lt_of_cell? _ _ HCN.out)).trans HCN.out) ((hW.cell (World.block_lt_of_cell? _ _ HCE3.out)).trans HCE3.out)
  rw [← hs] at HPD
  have HM2 := hide (pow_wrapq n (by omega))
  obtain ⟨M, hM⟩ : ∃ M, M = 2 ^ n := ⟨_, rfl⟩
  have HM := hide hM
  have hMb : M ≤ 256 := by rw [hM]; exact Nat.pow_le_pow_right (n := 2) (j := 8) (by decide) h8
  rw [← hM] at HM2
  have hMw := HM2.out
  have HKN : Hid (∀ W, Below w3.heap.size w3 W → W.cell? ⟨bn, 0, none⟩ = some (.slice an n cn)) := fun W hW => (hW.cell (World.block_lt_of_cell? _ _ HCN.out)).trans HCN.out
  have c30 := HKN.out w3 (Below.refl _ _)
  clear hn hsN hb2 hw3 hb3 hbn hbe hs hM HNA HX1 HB13 HCE
  go_upto_region 2 with fail
  rw [← HW3.out, ← HBN.out, ← HBE.out]
  go_wp2_with fail
  go_loopw [5, 14] (fun pv i wr => ∃ k : Nat, ∃ a c, k ≤ n ∧ i = .int .i64 (k : Int) ∧ pv = .slice a (pairsTo s N k).length c ∧ Hid (wr.ownsRow w3.heap.size 41 3 (.slice a (pairsTo s N k).length c) (pairsTo s N k).length ((pairsTo s N k).flatMap prCells)) ∧ Hid (Below w3.heap.size w3 wr)) (fun _ i _ => n - (intOf i).toNat)
  case atStart => exact ⟨0, none, 0, Nat.zero_le _, rfl, rfl, World.ownsRow_nil _ _ _ _, Below.refl _ _⟩
  case round =>
    obtain ⟨k, pa, pc, hk, rfl, rfl, HO, HB⟩ := hrel
    have hpl := pairsTo_le s N k
    clear c30
    by_cases hlt : k < n
    · have hkl : k < N.length := by rw [← HN.out]; exact hlt
      have hcl : ∃ g o, an = some ⟨g, o, none⟩ ∧ wr.cell? ⟨g, o + k, none⟩ = some (.string ⟨N[k].toArray⟩) := by
        rcases HS3.out.below HB.out with ⟨h0, _⟩ | ⟨g, o, cap, hv, hcap, _, hc⟩
        · simp only [List.map_eq_nil_iff] at h0
          rw [h0] at hkl; simp at hkl
        · have := hc k (toBA N[k]) (by rw [List.getElem?_map, List.getElem?_eq_getElem hkl]; rfl)
          simp only [Value.slice.injEq] at hv
          exact ⟨g, o, hv.1, this⟩
      obtain ⟨gn, on, rfl, c0⟩ := hcl
      have HSU := hide (pairsTo_succ s N k hkl)
      rw [← HN.out] at HSU
      have HLD : Hid (least s n k = (List.range M).find? (hit s k)) := by show _ = _; rw [HM.out]; rfl
      have hPW := pow_wrapq k (by omega)
      generalize N[k] = nm at *
      generalize pairsTo s N k = P at *
      generalize hP2 : pairsTo s N (k + 1) = P2 at *
      have HQ : Hid (∀ (W : World) a c, W.ownsRow w3.heap.size 41 3 (.slice a P2.length c) P2.length (P2.flatMap prCells) → Hid (W.ownsRow w3.heap.size 41 3 (.slice a (pairsTo s N (k + 1)).length c) (pairsTo s N (k + 1)).length ((pairsTo s N (k + 1)).flatMap prCells))) := fun W a c h => by rw [hP2]; exact h
      have HQ2 := hide hP2
      clear hP2 hkl
      generalize least s n k = LS at *
      go_wp2_with fail
      clear c0
      go_loopw [5, 8] (fun pv xv wj => ∃ v : Nat, v ≤ M ∧ xv = .int .u64 (v : Int) ∧ pv = .slice pa P.length pc ∧ Hid (∀ u, u < v → hit s k u = false) ∧ Hid (wj.ownsRow w3.heap.size 41 3 (.slice pa P.length pc) P.length (P.flatMap prCells)) ∧ Hid (Below w3.heap.size w3 wj)) (fun _ xv _ => M - (intOf xv).toNat)
      case atStart => exact ⟨0, Nat.zero_le _, rfl, rfl, fun u hu => by omega, HO.out, HB.out⟩
      case round =>
        obtain ⟨wj, rfl⟩ : ∃ wj, wj = wr := ⟨wr, rfl⟩
        obtain ⟨v, hv, rfl, rfl, HNO, HOj, HBj⟩ := hrel
        have d0 := HKN.out wj HBj.out
        by_cases hvM : v < M
        · have hREM := rem_bit v k
          have HHV : Hid (hit s k v = (!v.testBit k && (s v != s (v ||| 2 ^ k)))) := rfl
          have HSTEP : Hid (hit s k v = false → ∀ u, u < v + 1 → hit s k u = false) := fun h u hu => by
            by_cases e : u = v
            · exact e ▸ h
            · exact HNO.out u (by omega)
          cases ht : v.testBit k with
          | true =>
            rw [ht] at hREM
            have HF : Hid (hit s k v = false) := by show _ = _; rw [HHV.out, ht]; rfl
            clear ht HHV
            go_upto_region 10 with fail
            go_quiet (fail)
            go_wp2_with fail
            go_roundw
            case rel => exact ⟨v + 1, by omega, by go_num, rfl, HSTEP.out HF.out, HOj.out, ⟨HBj.out.os, HBj.out.tape, HBj.out.output, HBj.out.size, HBj.out.block⟩⟩
            case measure => simp [intOf]; omega
          | false =>
            rw [ht] at hREM
            have hadd := or_add v k (by omega) (by omega) ht
            rw [ht] at HHV
            have HVM : Hid (v < M) := hvM
            have HD : Hid (Below wj.heap.size wj wj.drew) := ⟨rfl, rfl, rfl, Nat.le_refl _, fun _ _ => rfl⟩
            have HBD : Hid (Below w3.heap.size w3 wj.drew) := HBj.out.trans (HD.out.mono HBj.out.size)
            have HC1 := hide (fun W hW => HSAY.out v W hW)
            have HC2 := hide (fun W hW => HSAY.out (v ||| 2 ^ k) W hW)
            have HPC : Hid (prCells ⟨nm, v, k⟩ = [.string ⟨nm.toArray⟩, .int .u64 (v : Int), .int .u64 ((v ||| 2 ^ k : Nat) : Int)]) := rfl
            have HLSV : Hid (hit s k v = true → LS = some v) := fun h => by
              rw [HLD.out, List.find?_range_eq_some]
              exact ⟨h, List.mem_range.2 HVM.out, fun u hu => by rw [HNO.out u hu]; rfl⟩
            obtain ⟨b2, hb2⟩ : ∃ b2, b2 = 2 ^ k := ⟨_, rfl⟩
            have hb2l : b2 ≤ 128 := by rw [hb2]; exact Nat.pow_le_pow_right (n := 2) (j := 7) (by decide) (by omega)
            rw [← hb2] at hadd hPW HC2 HPC HHV
            obtain ⟨u, hu⟩ : ∃ u, u = v ||| b2 := ⟨_, rfl⟩
            rw [← hu] at hadd HC2 HPC HHV
            have hui : (v : Int) + (b2 : Int) = (u : Int) := by rw [hadd]; rfl
            have hul : u ≤ 400 := by rw [hadd]; omega
            have hwu : IntKind.u64.wrap (u : Int) = (u : Int) := by rw [IntKind.wrap_u64]; omega
            clear ht hb2 hu hadd
            generalize s v = sa at *
            generalize s u = sb at *
            have HONE : Hid (∀ z ∈ prCells ⟨nm, v, k⟩, z.oneCell' = true) := by
              intro z hz
              unfold prCells at hz
              simp only [List.mem_cons, List.not_mem_nil, or_false] at hz
              rcases hz with rfl | rfl | rfl <;> rfl
            rw [HPC.out] at HONE
            cases hne : (sa == sb) with
            | true =>
              have hne2 : (!(sa == sb)) = false := by rw [hne]; rfl
              have hne3 : (sa != sb) = false := hne2
              have HF : Hid (hit s k v = false) := by show _ = _; rw [HHV.out]; simp [bne, hne]
              clear HHV
              go_upto_region 10 with fail
              go_region_held3 (fun _ => True) (trivial) ((first
                | (go_at_call 19; (with_reducible refine (HC1.out _ HBD.out).mono ?_); rintro e x1 ⟨rfl, hx1⟩; have HE1 : Hid (Below w3.heap.size w3 x1) := HBD.out.trans (hx1.mono HBD.out.size); have HOE1 : Hid (x1.ownsRow w3.heap.size 41 3 (.slice pa P.length pc) P.length (P.flatMap prCells)) := ownQ (ownQ HOj.out HD.out) hx1; clear hx1)
                | (go_at_call 19; (with_reducible refine (HC2.out _ HE1.out).mono ?_); rintro e x2 ⟨rfl, hx2⟩; have HE2 : Hid (Below w3.heap.size w3 x2) := HE1.out.trans (hx2.mono HE1.out.size); have HOE2 : Hid (x2.ownsRow w3.heap.size 41 3 (.slice pa P.length pc) P.length (P.flatMap prCells)) := ownQ HOE1.out hx2; clear hx2)))
              go_wp2_with fail
              go_roundw
              case rel => exact ⟨v + 1, by omega, by go_num, rfl, HSTEP.out HF.out, HOE2.out, HE2.out⟩
              case measure => simp [intOf]; omega
            | false =>
              have hne2 : (!(sa == sb)) = true := by rw [hne]; rfl
              have hne3 : (sa != sb) = true := hne2
              have HF : Hid (hit s k v = true) := by show _ = _; rw [HHV.out]; simp [bne, hne]
              have HP2 : Hid (P2 = P ++ [⟨nm, v, k⟩]) := by
                show _ = _
                have h1 := HSU.out
                rw [HLSV.out HF.out] at h1
                exact h1
              have HL2 : Hid (P.length + 1 = P2.length) := by show _ = _; rw [HP2.out]; simp
              clear HHV
              go_upto_region 10 with fail
              go_region_held3 (fun _ => True) (trivial) ((first
                | (go_at_call 19; (with_reducible refine (HC1.out _ HBD.out).mono ?_); rintro e x1 ⟨rfl, hx1⟩; have HE1 : Hid (Below w3.heap.size w3 x1) := HBD.out.trans (hx1.mono HBD.out.size); have HOE1 : Hid (x1.ownsRow w3.heap.size 41 3 (.slice pa P.length pc) P.length (P.flatMap prCells)) := ownQ (ownQ HOj.out HD.out) hx1; clear hx1)
                | (go_at_call 19; (with_reducible refine (HC2.out _ HE1.out).mono ?_); rintro e x2 ⟨rfl, hx2⟩; have HE2 : Hid (Below w3.heap.size w3 x2) := HE1.out.trans (hx2.mono HE1.out.size); have HOE2 : Hid (x2.ownsRow w3.heap.size 41 3 (.slice pa P.length pc) P.length (P.flatMap prCells)) := ownQ HOE1.out hx2; clear hx2)))
              have HOWN : Hid (∀ o, (x2.alloc o).ownsRow w3.heap.size 41 3 (.slice pa P.length pc) P.length (P.flatMap prCells)) := fun o => HOE2.out.alloc o
              have HFIN : Hid (∀ (o : Obj) (g cap : Nat) (wC : World), wC.ownsRow w3.heap.size 41 3 (.slice (some ⟨g, 0, none⟩) (P.length + 1) cap) (P.length + 1) (P.flatMap prCells ++ [.string ⟨nm.toArray⟩, .int .u64 (v : Int), .int .u64 (u : Int)]) → (x2.alloc o).grownBy wC (Value.slice pa P.length pc).ownBlock →
                  wC.ownsRow w3.heap.size 41 3 (.slice (some ⟨g, 0, none⟩) P2.length cap) P2.length (P2.flatMap prCells) ∧ Below w3.heap.size w3 wC) := fun o g cap wC h1 h2 =>
                ⟨by rw [HP2.out, List.flatMap_append, List.length_append, List.flatMap_cons, List.flatMap_nil, HPC.out]; simpa using h1, (HE2.out.alloc HE2.out.size o).grown h2 (by have := HE2.out.size; simp; omega) (fun k e => (HOE2.out.lt k e).1)⟩
              have hzr := HE2.out.size
              generalize P.length = L at *
              go_wp2_with (at_builtin; refine wpList_append_lies _ rfl (.tmp 43) (.tmp 51) 36 rfl w3.heap.size 41 i0 _ 3 32 Tryz.underlying36 hi0 hz0 hz1 hz2 rfl (by decide) (.slice pa L pc) L (P.flatMap prCells) rfl (HOWN.out _) ⟨x2.heap.size, 0, none⟩ 1 1 [.string ⟨nm.toArray⟩, .int .u64 (v : Int), .int .u64 (u : Int)] rfl rfl (World.news_of_block (heap_alloc_new x2 _)) (HONE.out) (by decide) (by unfold maxLen; omega) (by omega) (by simp; omega) (x2.heap.size + 1) (by simp) ?_; intro g2 cap2 wC hown hgrow hat hltg; obtain ⟨hoC, hbC⟩ := HFIN.out _ g2 cap2 wC hown hgrow; have HOC := hide hoC; have HBC := hide hbC; clear hoC hbC hown hgrow hat)
              go_roundw
              case rel => exact ⟨k + 1, some ⟨g2, 0, none⟩, cap2, by omega, by go_num, by rw [HQ2.out, ← HL2.out], HQ.out _ _ _ HOC.out, HBC.out⟩
              case measure => simp [intOf]; omega
        · have hvm : v = M := by omega
          have HNONE : Hid (LS = none) := by
            show _ = _
            rw [HLD.out, List.find?_eq_none]
            intro u hu
            rw [HNO.out u (by have := List.mem_range.1 hu; omega)]
            simp
          have HP2 : Hid (P2 = P) := by
            show _ = _
            have h1 := HSU.out
            rw [HNONE.out] at h1
            simpa using h1
          have HQP : Hid (Hid (wj.ownsRow w3.heap.size 41 3 (.slice pa (pairsTo s N (k + 1)).length pc) (pairsTo s N (k + 1)).length ((pairsTo s N (k + 1)).flatMap prCells))) := HQ.out _ _ _ (by rw [HP2.out]; exact HOj.out)
          clear hvm
          go_wp2_with fail
          go_roundw
          case rel => exact ⟨k + 1, pa, pc, by omega, by go_num, by rw [HQ2.out, HP2.out], HQP.out, HBj.out⟩
          case measure => simp [intOf]; omega
    · have hkn : k = n := by omega
      subst hkn
      have HPA := hide (PairsAt.ownQ HO.out)
      have HBF := hide (HB3.out.trans (HB.out.mono HB3.out.size))
      rw [HN.out] at HPA
      have HFIN := hide (HPD.out _ _ HPA.out HBF.out)
      rw [← HN.out] at HFIN
      go_wp2_with fail
      go_ret
      exact HFIN.out
end Cv
end Go.Proofs.YtblfeahbpklgiaaGreatDoor
