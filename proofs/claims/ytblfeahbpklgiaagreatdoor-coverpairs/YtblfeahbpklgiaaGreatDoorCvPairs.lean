/-
  The walk of package cover's Pairs.
-/
import Derived.Test.YtblfeahbpklgiaaGreatDoorCvSay
import Derived.Test.YtblfeahbpklgiaaGreatDoorNaOrder
import Derived.Test.YtblfeahbpklgiaaGreatDoorNaEdges
import Derived.Deep.AppendLies
import Derived.Laws.OwnMore
namespace Go.Proofs.YtblfeahbpklgiaaGreatDoor
namespace Cv
open Go.RowKit
/-- a pair, as it lies in memory -/
def prCells (p : Pr) : List Value := [.string ⟨p.name.toArray⟩, .int .u64 (p.off : Int), .int .u64 ((p.off ||| 2 ^ p.k : Nat) : Int)]
theorem infoP : (Tryz.prog.info? 40).map (fun i => (i.zero, i.size, i.bytes)) = some (some (.agg #[.string ⟨#[]⟩, .int .u64 0, .int .u64 0]), 3, 32) := by kernel_rfl
/-- a row of pairs -/
def PairsAt (w : World) (sv : Value) (l : List Pr) : Prop := (l = [] ∧ sv = .slice none 0 0) ∨ ∃ g c, sv = .slice (some ⟨g, 0, none⟩) l.length c ∧ l.length ≤ c ∧ ∀ i p, l[i]? = some p → w.cell? ⟨g, i * 3, none⟩ = some (.string ⟨p.name.toArray⟩) ∧ w.cell? ⟨g, i * 3 + 1, none⟩ = some (.int .u64 (p.off : Int)) ∧ w.cell? ⟨g, i * 3 + 2, none⟩ = some (.int .u64 ((p.off ||| 2 ^ p.k : Nat) : Int))
theorem PairsAt.below {w w' : World} {sv : Value} {l : List Pr} (h : PairsAt w sv l) (hb : Below w.heap.size w w') : PairsAt w' sv l := by
  rcases h with h | ⟨g, c, h1, h2, h3⟩
  · exact .inl h
  · refine .inr ⟨g, c, h1, h2, fun i p hp => ?_⟩
    obtain ⟨a1, a2, a3⟩ := h3 i p hp
    exact ⟨(hb.cell (World.block_lt_of_cell? _ _ a1)).trans a1, (hb.cell (World.block_lt_of_cell? _ _ a2)).trans a2, (hb.cell (World.block_lt_of_cell? _ _ a3)).trans a3⟩
theorem flat_at (l : List Pr) (i : Nat) (p : Pr) (h : l[i]? = some p) (j : Nat) (hj : j < 3) : (l.flatMap prCells)[i * 3 + j]? = (prCells p)[j]? := by
  induction l generalizing i with
  | nil => simp at h
  | cons a r ih =>
    rw [List.flatMap_cons]
    match i, h with
    | 0, h =>
      simp only [List.getElem?_cons_zero, Option.some.injEq] at h
      subst h
      rw [List.getElem?_append_left (by simp [prCells]; omega)]
      simp
    | i + 1, h =>
      rw [List.getElem?_append_right (by simp [prCells]; omega)]
      simp only [List.getElem?_cons_succ] at h
      have := ih i h
      rw [← this]
      congr 1
      simp [prCells]
      omega
theorem flat_len (l : List Pr) : (l.flatMap prCells).length = l.length * 3 := by
  induction l with
  | nil => rfl
  | cons a r ih => rw [List.flatMap_cons, List.length_append, ih, List.length_cons]; simp [prCells]; omega
theorem PairsAt.own {w : World} {B : Nat} {v : Value} {l : List Pr} (h : w.ownsRow B 40 3 v l.length (l.flatMap prCells)) : PairsAt w v l := by
  have hown := h
  rcases h.2 with ⟨hv, h0⟩ | ⟨g, cap, cur, hv, hbg, hg, hnc, hcm, hcs, htake⟩
  · exact .inl ⟨List.length_eq_zero_iff.1 h0, hv⟩
  · refine .inr ⟨g, cap, hv, hnc, fun i p hp => ?_⟩
    have key : ∀ j u, j < 3 → (prCells p)[j]? = some u → w.cell? ⟨g, i * 3 + j, none⟩ = some u := fun j u hj hu => by
      have := hown.cells (g := g) (by rw [hv]; rfl) (i * 3 + j) u (by rw [flat_at l i p hp j hj]; exact hu)
      generalize i * 3 + j = q at *
      cases q <;> simpa [Addr.add] using this
    exact ⟨key 0 _ (by decide) rfl, key 1 _ (by decide) rfl, key 2 _ (by decide) rfl⟩
/-- what Pairs answers -/
def Answer (x : Ex) (e : Ending) (w' : World) : Prop :=
  (∃ t y, e = .returned (.tuple #[.slice none 0 0, .iface t y]) ∧ (ordered (x.named false) ≠ [] ∨ 8 < (ordered (x.named true)).length)) ∨
  (∃ sv, e = .returned (.tuple #[sv, .nilIface]) ∧ ordered (x.named false) = [] ∧ (ordered (x.named true)).length ≤ 8 ∧ PairsAt w' sv (pairsTo (sayV x (ordered (x.named true))) (ordered (x.named true)) (ordered (x.named true)).length))
theorem strs_slice {w : World} {sv : Value} {ss : List ByteArray} (h : Strs w sv ss) : ∃ a c, sv = .slice a ss.length c ∧ ss.length ≤ 1000000 ∧ (ss.length ≤ c) := by
  rcases h with ⟨h0, a, cap, h⟩ | ⟨g, o, cap, h, h1, h2, _⟩
  · exact ⟨_, _, by rw [h, h0]; rfl, by rw [h0]; decide, by rw [h0]; exact Nat.zero_le _⟩
  · exact ⟨_, _, h, h2, h1⟩
set_option maxHeartbeats 4000000 in
set_option maxRecDepth 100000 in
theorem Pairs_any (ok : Nat → Prop) (x : Ex) (v : Value) (w : World) (hx : IsEx ok w x v) (hlen : x.size ≤ 1000000) :
    Calls Tryz.prog 5 #[v] w fun e w' => Answer x e w' ∧ Below w.heap.size w w' := by
  obtain ⟨i0, hi0, hz0, hz1, hz2⟩ := info_parts infoP
  have HE := hide (Edges_any ok x v w hx hlen)
  have HX := hide hx
  have HLN := hide hlen
  obtain ⟨t, y, rfl⟩ := IsEx.iface x v hx
  have HA1 : Hid (∀ t y w', (ordered (x.named false) ≠ [] ∨ 8 < (ordered (x.named true)).length) → Answer x (.returned (.tuple #[.slice none 0 0, .iface t y])) w') := fun t y w' h => .inl ⟨t, y, rfl, h⟩
  have HA2 : Hid (∀ sv w', ordered (x.named false) = [] → (ordered (x.named true)).length ≤ 8 → PairsAt w' sv (pairsTo (sayV x (ordered (x.named true))) (ordered (x.named true)) (ordered (x.named true)).length) → Answer x (.returned (.tuple #[sv, .nilIface])) w') := fun sv w' h1 h2 h3 => .inr ⟨sv, rfl, h1, h2, h3⟩
  generalize hE : ordered (x.named false) = E at *
  generalize hN : ordered (x.named true) = N at *
  have HNN := hide hN
  have HEE := hide hE
  clear hx hlen hE hN
  go_enter Tryz.func5, Tryz.ntmps5
  go_wp2_with fail
  refine HE.out.mono ?_
  rintro e w1 ⟨sE, rfl, hsE, hb1⟩
  obtain ⟨ae, ce, rfl, le1, le2⟩ := strs_slice hsE
  have HB1 := hide hb1
  rw [List.length_map] at le1 le2 ⊢
  obtain ⟨ne, hne⟩ : ∃ ne, ne = E.length := ⟨_, rfl⟩
  have HNE := hide hne
  rw [← hne] at le1 le2 ⊢
  clear hb1 hsE hne HE
  by_cases h0 : 0 < ne
  · go_wp2_with fail
    go_ret2
    refine ⟨HA1.out _ _ _ (.inl ?_), HB1.out⟩
    intro h
    have := HNE.out
    rw [h] at this
    simp at this
    omega
  have hz : ne = 0 := by omega
  have HE0 : Hid (E = []) := List.length_eq_zero_iff.1 (by have := HNE.out; omega)
  subst hz
  have HX1 := hide (IsEx.stay (Stay.below HB1.out) (fun g hg => hg) x _ HX.out)
  go_wp2_with fail
  refine (Names_any ok x _ w1 HX1.out HLN.out).mono ?_
  rw [HNN.out]
  rintro e w2 ⟨sN, rfl, hsN, hb2⟩
  obtain ⟨an, cn, rfl, ln1, ln2⟩ := strs_slice hsN
  have HSN := hide hsN
  have HB2 := hide (HB1.out.trans (hb2.mono HB1.out.size))
  have HX2 := hide (IsEx.stay (Stay.below hb2) (fun g hg => hg) x _ HX1.out)
  rw [List.length_map] at ln1 ln2 HSN ⊢
  obtain ⟨n, hn⟩ : ∃ n, n = N.length := ⟨_, rfl⟩
  have HN := hide hn
  rw [← hn] at ln1 ln2 HSN ⊢
  clear hb2 hsN hn
  by_cases h8 : 8 < n
  · go_wp2_with fail
    go_ret2
    exact ⟨HA1.out _ _ _ (.inr (by have := HN.out; omega)), HB2.out⟩
  have HSY := hide (saying_any ok x (.iface t y) N (by have := HN.out; omega) (.slice an n cn) w2 HX2.out HSN.out ⟨an, cn, by rw [HN.out]⟩)
  go_wp2_with fail
  refine HSY.out.mono ?_
  rintro e w3 ⟨f, p, g, rfl, hsy, hb3⟩
  have HSY3 := hide hsy
  have HB3 := hide (HB2.out.trans (hb3.mono HB2.out.size))
  have HSN3 := hide (HSN.out.below hb3)
  obtain ⟨s, hs⟩ : ∃ s, s = sayV x N := ⟨_, rfl⟩
  have HS := hide hs
  rw [← hs] at HSY3
  have hf := hsy.is
  subst hf
  clear hb3 hsy hs HSY
  go_wp2_with fail
  go_loopw [5, 31] (fun pv i wr => ∃ k : Nat, ∃ a c, k ≤ n ∧ i = .int .i64 (k : Int) ∧ pv = .slice a (pairsTo s N k).length c ∧ Hid (wr.ownsRow w3.heap.size 40 3 (.slice a (pairsTo s N k).length c) (pairsTo s N k).length ((pairsTo s N k).flatMap prCells)) ∧ Hid (Below w3.heap.size w3 wr)) (fun _ i _ => n - (intOf i).toNat)
  case atStart => exact ⟨0, none, 0, Nat.zero_le _, rfl, rfl, World.ownsRow_nil _ _ _ _, Below.refl _ _⟩
  case round =>
    obtain ⟨k, pa, pc, hk, rfl, rfl, HO, HB⟩ := hrel
    have hpl := pairsTo_le s N k
    by_cases hlt : k < n
    · have hkl : k < N.length := by rw [← HN.out]; exact hlt
      have hcl : ∃ g o, an = some ⟨g, o, none⟩ ∧ wr.cell? ⟨g, o + k, none⟩ = some (.string ⟨N[k].toArray⟩) := by
        rcases HSN3.out.below HB.out with ⟨h0, _⟩ | ⟨g, o, cap, hv, hcap, _, hc⟩
        · simp only [List.map_eq_nil_iff] at h0
          rw [h0] at hkl; simp at hkl
        · have := hc k (toBA N[k]) (by rw [List.getElem?_map, List.getElem?_eq_getElem hkl]; rfl)
          simp only [Value.slice.injEq] at hv
          exact ⟨g, o, hv.1, this⟩
      obtain ⟨gn, on, rfl, c0⟩ := hcl
      have HLP := hide (leastPair_any n k (by omega) hlt s _ p g wr (by rw [HN.out]; exact HSY3.out.below HB.out))
      have HSU := hide (pairsTo_succ s N k hkl)
      rw [← HN.out] at HSU
      generalize N[k] = nm at *
      generalize pairsTo s N k = P at *
      generalize hP2 : pairsTo s N (k + 1) = P2 at *
      have HQ : Hid (∀ (W : World) a c, W.ownsRow w3.heap.size 40 3 (.slice a P2.length c) P2.length (P2.flatMap prCells) → Hid (W.ownsRow w3.heap.size 40 3 (.slice a (pairsTo s N (k + 1)).length c) (pairsTo s N (k + 1)).length ((pairsTo s N (k + 1)).flatMap prCells))) := fun W a c h => by rw [hP2]; exact h
      have HQ2 := hide hP2
      clear hP2
      cases hL : least s n k with
      | none =>
        rw [hL] at HLP HSU
        obtain rfl : P2 = P := by have := HSU.out; simpa using this
        clear hL
        go_wp2_with fail
        refine HLP.out.mono ?_
        rintro e w4 ⟨rfl, rfl⟩
        unfold told
        go_wp2_with fail
        go_roundw
        case rel => exact ⟨k + 1, pa, pc, by omega, by go_num, by rw [HQ2.out], HQ.out _ _ _ HO.out, HB.out⟩
        case measure => simp [intOf]; omega
      | some u =>
        rw [hL] at HLP HSU
        clear hL
        have HP2 : Hid (P2 = P ++ [⟨nm, u, k⟩]) := HSU.out
        have HOWN : Hid (∀ o, (wr.alloc o).ownsRow w3.heap.size 40 3 (.slice pa P.length pc) P.length (P.flatMap prCells)) := fun o => HO.out.alloc o
        have HONE : Hid (∀ z ∈ prCells ⟨nm, u, k⟩, z.oneCell' = true) := by
          intro z hz
          unfold prCells at hz
          simp only [List.mem_cons, List.not_mem_nil, or_false] at hz
          rcases hz with rfl | rfl | rfl <;> rfl
        have HFIN : Hid (∀ (o : Obj) (g cap : Nat) (wC : World), wC.ownsRow w3.heap.size 40 3 (.slice (some ⟨g, 0, none⟩) (P.length + 1) cap) (P.length + 1) (P.flatMap prCells ++ prCells ⟨nm, u, k⟩) → (wr.alloc o).grownBy wC (Value.slice pa P.length pc).ownBlock →
            wC.ownsRow w3.heap.size 40 3 (.slice (some ⟨g, 0, none⟩) P2.length cap) P2.length (P2.flatMap prCells) ∧ Below w3.heap.size w3 wC) := fun o g cap wC h1 h2 =>
          ⟨by rw [HP2.out, List.flatMap_append, List.length_append]; simpa using h1, (HB.out.alloc HB.out.size o).grown h2 (by have := HB.out.size; simp; omega) (fun k e => (HO.out.lt k e).1)⟩
        have HL2 : Hid (P.length + 1 = P2.length) := by show _ = _; rw [HP2.out]; simp
        have hzr := HB.out.size
        clear HSU
        have HTS : Hid (told (some u) k = .tuple #[.int .u64 (u : Int), .int .u64 ((u ||| 2 ^ k : Nat) : Int), .bool true]) := rfl
        rw [HTS.out] at HLP
        clear HTS
        have HPC : Hid (prCells ⟨nm, u, k⟩ = [.string ⟨nm.toArray⟩, .int .u64 (u : Int), .int .u64 ((u ||| 2 ^ k : Nat) : Int)]) := rfl
        rw [HPC.out] at HONE HFIN
        generalize (u ||| 2 ^ k) = ub at *
        generalize P.length = L at *
        clear HPC
        go_wp2_with fail
        refine HLP.out.mono ?_
        rintro e w4 ⟨rfl, rfl⟩
        go_wp2_with (at_builtin; refine wpList_append_lies _ rfl (.tmp 46) (.tmp 51) 27 rfl w3.heap.size 40 i0 _ 3 32 Tryz.underlying27 hi0 hz0 hz1 hz2 rfl (by decide) (.slice pa L pc) L (P.flatMap prCells) rfl (HOWN.out _) ⟨w4.heap.size, 0, none⟩ 1 1 [.string ⟨nm.toArray⟩, .int .u64 (u : Int), .int .u64 (ub : Int)] rfl rfl (World.news_of_block (heap_alloc_new w4 _)) (HONE.out) (by decide) (by unfold maxLen; omega) (by omega) (by simp; omega) (w4.heap.size + 1) (by simp) ?_; intro g2 cap2 wC hown hgrow hat hltg; obtain ⟨hoC, hbC⟩ := HFIN.out _ g2 cap2 wC hown hgrow; have HOC := hide hoC; have HBC := hide hbC; clear hoC hbC hown hgrow hat)
        go_roundw
        case rel => exact ⟨k + 1, some ⟨g2, 0, none⟩, cap2, by omega, by go_num, by rw [HQ2.out, ← HL2.out], HQ.out _ _ _ HOC.out, HBC.out⟩
        case measure => simp [intOf]; omega
    · have hkn : k = n := by omega
      subst hkn
      have HPA := hide (PairsAt.own HO.out)
      have HBF := hide (HB3.out.trans (HB.out.mono HB3.out.size))
      go_wp2_with fail
      go_ret2
      refine ⟨HA2.out _ _ HE0.out (by have := HN.out; omega) ?_, HBF.out⟩
      rw [← HS.out, ← HN.out]
      exact HPA.out
end Cv
end Go.Proofs.YtblfeahbpklgiaaGreatDoor
