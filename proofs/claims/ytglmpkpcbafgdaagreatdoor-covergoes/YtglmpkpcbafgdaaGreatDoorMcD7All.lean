/-
  The walk of package cover's Pairs. The walk of the statements' own covered: a fact of two pairs. What a round of fill's inner loop lays.
-/
import Derived.Test.YtglmpkpcbafgdaaGreatDoorCvSayAll
import Derived.Test.YtglmpkpcbafgdaaGreatDoorLdCheckAll
import Derived.Test.YtglmpkpcbafgdaaGreatDoorNaEdgesAll
import Derived.Deep.AppendLies
import Derived.Laws.OwnMore
import Derived.Test.YtglmpkpcbafgdaaGreatDoorLdRdAll
import Derived.Test.YtglmpkpcbafgdaaGreatDoorRcRowAll
namespace Go.Proofs.YtglmpkpcbafgdaaGreatDoor
section
namespace Cv
open Go.RowKit
/-- a pair, as it lies in memory -/
def prCells (p : Pr) : List Value := [.string ⟨p.name.toArray⟩, .int .u64 (p.off : Int), .int .u64 ((p.off ||| 2 ^ p.k : Nat) : Int)]
theorem infoP : (Tryz.prog.info? 62).map (fun i => (i.zero, i.size, i.bytes)) = some (some (.agg #[.string ⟨#[]⟩, .int .u64 0, .int .u64 0]), 3, 32) := by kernel_rfl
/-- a row of pairs -/
def PairsAt (w : World) (sv : Value) (l : List Pr) : Prop := (l = [] ∧ sv = .slice none 0 0) ∨ ∃ g c, sv = .slice (some ⟨g, 0, none⟩) l.length c ∧ l.length ≤ c ∧ ∀ i p, l[i]? = some p → w.cell? ⟨g, i * 3, none⟩ = some (.string ⟨p.name.toArray⟩) ∧ w.cell? ⟨g, i * 3 + 1, none⟩ = some (.int .u64 (p.off : Int)) ∧ w.cell? ⟨g, i * 3 + 2, none⟩ = some (.int .u64 ((p.off ||| 2 ^ p.k : Nat) : Int))
theorem PairsAt.below {w w' : World} {sv : Value} {l : List Pr} (h : PairsAt w sv l) (hb : Below w.heap.size w w') : PairsAt w' sv l := by
  rcases h with h | ⟨g, c, h1, h2, h3⟩
  · exact .inl h
  · refine .inr ⟨g, c, h1, h2, fun i p hp => ?_⟩
    obtain ⟨a1, a2, a3⟩ := h3 i p hp
    exact ⟨(hb.cell (World.block_lt_of_cell? _ _ a1)).trans a1, (hb.cell (World.block_lt_of_cell? _ _ a2)).trans a2, (hb.cell (World.block_lt_of_cell? _ _ a3)).trans a3⟩
theorem flat_at (l : List Pr) (i : Nat) (p : Pr) (h : l[i]? = some p) (j : Nat) (hj : j < 3) : (l.flatMap prCells)[i * 3 + j]? = (prCells p)[j]? := by
  induction l generalizing i with
  | nil => simp at h
  | cons a r ih =>
    rw [List.flatMap_cons]
    match i, h with
    | 0, h =>
      simp only [List.getElem?_cons_zero, Option.some.injEq] at h
      subst h
      rw [List.getElem?_append_left (by simp [prCells]; omega)]
      simp
    | i + 1, h =>
      rw [List.getElem?_append_right (by simp [prCells]; omega)]
      simp only [List.getElem?_cons_succ] at h
      have := ih i h
      rw [← this]
      congr 1
      simp [prCells]
      omega
theorem flat_len (l : List Pr) : (l.flatMap prCells).length = l.length * 3 := by
  induction l with
  | nil => rfl
  | cons a r ih => rw [List.flatMap_cons, List.length_append, ih, List.length_cons]; simp [prCells]; omega
theorem PairsAt.own {w : World} {B : Nat} {v : Value} {l : List Pr} (h : w.ownsRow B 62 3 v l.length (l.flatMap prCells)) : PairsAt w v l := by
  have hown := h
  rcases h.2 with ⟨hv, h0⟩ | ⟨g, cap, cur, hv, hbg, hg, hnc, hcm, hcs, htake⟩
  · exact .inl ⟨List.length_eq_zero_iff.1 h0, hv⟩
  · refine .inr ⟨g, cap, hv, hnc, fun i p hp => ?_⟩
    have key : ∀ j u, j < 3 → (prCells p)[j]? = some u → w.cell? ⟨g, i * 3 + j, none⟩ = some u := fun j u hj hu => by
      have := hown.cells (g := g) (by rw [hv]; rfl) (i * 3 + j) u (by rw [flat_at l i p hp j hj]; exact hu)
      generalize i * 3 + j = q at *
      cases q <;> simpa [Addr.add] using this
    exact ⟨key 0 _ (by decide) rfl, key 1 _ (by decide) rfl, key 2 _ (by decide) rfl⟩
/-- what Pairs answers -/
def Answer (x : Ex) (e : Ending) (w' : World) : Prop :=
  (∃ t y, e = .returned (.tuple #[.slice none 0 0, .iface t y]) ∧ (ordered (x.named false) ≠ [] ∨ 8 < (ordered (x.named true)).length)) ∨
  (∃ sv, e = .returned (.tuple #[sv, .nilIface]) ∧ ordered (x.named false) = [] ∧ (ordered (x.named true)).length ≤ 8 ∧ PairsAt w' sv (pairsTo (sayV x (ordered (x.named true))) (ordered (x.named true)) (ordered (x.named true)).length))
theorem strs_slice {w : World} {sv : Value} {ss : List ByteArray} (h : Strs w sv ss) : ∃ a c, sv = .slice a ss.length c ∧ ss.length ≤ 1000000 ∧ (ss.length ≤ c) := by
  rcases h with ⟨h0, a, cap, h⟩ | ⟨g, o, cap, h, h1, h2, _⟩
  · exact ⟨_, _, by rw [h, h0]; rfl, by rw [h0]; decide, by rw [h0]; exact Nat.zero_le _⟩
  · exact ⟨_, _, h, h2, h1⟩
set_option maxHeartbeats 4000000 in
set_option maxRecDepth 100000 in
theorem Pairs_any (ok : Nat → Prop) (x : Ex) (v : Value) (w : World) (hx : IsEx ok w x v) (hlen : x.size ≤ 1000000) :
    Calls Tryz.prog 13 #[v] w fun e w' => Answer x e w' ∧ Below w.heap.size w w' := by
  obtain ⟨i0, hi0, hz0, hz1, hz2⟩ := info_parts infoP
  have HE := hide (Edges_any ok x v w hx hlen)
  have HX := hide hx
  have HLN := hide hlen
  obtain ⟨t, y, rfl⟩ := IsEx.iface x v hx
  have HA1 : Hid (∀ t y w', (ordered (x.named false) ≠ [] ∨ 8 < (ordered (x.named true)).length) → Answer x (.returned (.tuple #[.slice none 0 0, .iface t y])) w') := fun t y w' h => .inl ⟨t, y, rfl, h⟩
  have HA2 : Hid (∀ sv w', ordered (x.named false) = [] → (ordered (x.named true)).length ≤ 8 → PairsAt w' sv (pairsTo (sayV x (ordered (x.named true))) (ordered (x.named true)) (ordered (x.named true)).length) → Answer x (.returned (.tuple #[sv, .nilIface])) w') := fun sv w' h1 h2 h3 => .inr ⟨sv, rfl, h1, h2, h3⟩
  generalize hE : ordered (x.named false) = E at *
  generalize hN : ordered (x.named true) = N at *
  have HNN := hide hN
  have HEE := hide hE
  clear hx hlen hE hN
  go_enter Tryz.func13, Tryz.ntmps13
  go_wp2_with fail
  refine HE.out.mono ?_
  rintro e w1 ⟨sE, rfl, hsE, hb1⟩
  obtain ⟨ae, ce, rfl, le1, le2⟩ := strs_slice hsE
  have HB1 := hide hb1
  rw [List.length_map] at le1 le2 ⊢
  obtain ⟨ne, hne⟩ : ∃ ne, ne = E.length := ⟨_, rfl⟩
  have HNE := hide hne
  rw [← hne] at le1 le2 ⊢
  clear hb1 hsE hne HE
  by_cases h0 : 0 < ne
  · go_wp2_with fail
    go_ret2
    refine ⟨HA1.out _ _ _ (.inl ?_), HB1.out⟩
    intro h
    have := HNE.out
    rw [h] at this
    simp at this
    omega
  have hz : ne = 0 := by omega
  have HE0 : Hid (E = []) := List.length_eq_zero_iff.1 (by have := HNE.out; omega)
  subst hz
  have HX1 := hide (IsEx.stay (Stay.below HB1.out) (fun g hg => hg) x _ HX.out)
  go_wp2_with fail
  refine (Names_any ok x _ w1 HX1.out HLN.out).mono ?_
  rw [HNN.out]
  rintro e w2 ⟨sN, rfl, hsN, hb2⟩
  obtain ⟨an, cn, rfl, ln1, ln2⟩ := strs_slice hsN
  have HSN := hide hsN
  have HB2 := hide (HB1.out.trans (hb2.mono HB1.out.size))
  have HX2 := hide (IsEx.stay (Stay.below hb2) (fun g hg => hg) x _ HX1.out)
  rw [List.length_map] at ln1 ln2 HSN ⊢
  obtain ⟨n, hn⟩ : ∃ n, n = N.length := ⟨_, rfl⟩
  have HN := hide hn
  rw [← hn] at ln1 ln2 HSN ⊢
  clear hb2 hsN hn
  by_cases h8 : 8 < n
  · go_wp2_with fail
    go_ret2
    exact ⟨HA1.out _ _ _ (.inr (by have := HN.out; omega)), HB2.out⟩
  have HSY := hide (saying_any ok x (.iface t y) N (by have := HN.out; omega) (.slice an n cn) w2 HX2.out HSN.out ⟨an, cn, by rw [HN.out]⟩)
  go_wp2_with fail
  refine HSY.out.mono ?_
  rintro e w3 ⟨f, p, g, rfl, hsy, hb3⟩
  have HSY3 := hide hsy
  have HB3 := hide (HB2.out.trans (hb3.mono HB2.out.size))
  have HSN3 := hide (HSN.out.below hb3)
  obtain ⟨s, hs⟩ : ∃ s, s = sayV x N := ⟨_, rfl⟩
  have HS := hide hs
  rw [← hs] at HSY3
  have hf := hsy.is
  subst hf
  clear hb3 hsy hs HSY
  go_wp2_with fail
  go_loopw [5, 31] (fun pv i wr => ∃ k : Nat, ∃ a c, k ≤ n ∧ i = .int .i64 (k : Int) ∧ pv = .slice a (pairsTo s N k).length c ∧ Hid (wr.ownsRow w3.heap.size 62 3 (.slice a (pairsTo s N k).length c) (pairsTo s N k).length ((pairsTo s N k).flatMap prCells)) ∧ Hid (Below w3.heap.size w3 wr)) (fun _ i _ => n - (intOf i).toNat)
  case atStart => exact ⟨0, none, 0, Nat.zero_le _, rfl, rfl, World.ownsRow_nil _ _ _ _, Below.refl _ _⟩
  case round =>
    obtain ⟨k, pa, pc, hk, rfl, rfl, HO, HB⟩ := hrel
    have hpl := pairsTo_le s N k
    by_cases hlt : k < n
    · have hkl : k < N.length := by rw [← HN.out]; exact hlt
      have hcl : ∃ g o, an = some ⟨g, o, none⟩ ∧ wr.cell? ⟨g, o + k, none⟩ = some (.string ⟨N[k].toArray⟩) := by
        rcases HSN3.out.below HB.out with ⟨h0, _⟩ | ⟨g, o, cap, hv, hcap, _, hc⟩
        · simp only [List.map_eq_nil_iff] at h0
          rw [h0] at hkl; simp at hkl
        · have := hc k (toBA N[k]) (by rw [List.getElem?_map, List.getElem?_eq_getElem hkl]; rfl)
          simp only [Value.slice.injEq] at hv
          exact ⟨g, o, hv.1, this⟩
      obtain ⟨gn, on, rfl, c0⟩ := hcl
      have HLP := hide (leastPair_any n k (by omega) hlt s _ p g wr (by rw [HN.out]; exact HSY3.out.below HB.out))
      have HSU := hide (pairsTo_succ s N k hkl)
      rw [← HN.out] at HSU
      generalize N[k] = nm at *
      generalize pairsTo s N k = P at *
      generalize hP2 : pairsTo s N (k + 1) = P2 at *
      have HQ : Hid (∀ (W : World) a c, W.ownsRow w3.heap.size 62 3 (.slice a P2.length c) P2.length (P2.flatMap prCells) → Hid (W.ownsRow w3.heap.size 62 3 (.slice a (pairsTo s N (k + 1)).length c) (pairsTo s N (k + 1)).length ((pairsTo s N (k + 1)).flatMap prCells))) := fun W a c h => by rw [hP2]; exact h
      have HQ2 := hide hP2
      clear hP2
      cases hL : least s n k with
      | none =>
        rw [hL] at HLP HSU
        obtain rfl : P2 = P := by have := HSU.out; simpa using this
        clear hL
        go_wp2_with fail
        refine HLP.out.mono ?_
        rintro e w4 ⟨rfl, rfl⟩
        unfold told
        go_wp2_with fail
        go_roundw
        case rel => exact ⟨k + 1, pa, pc, by omega, by go_num, by rw [HQ2.out], HQ.out _ _ _ HO.out, HB.out⟩
        case measure => simp [intOf]; omega
      | some u =>
        rw [hL] at HLP HSU
        clear hL
        have HP2 : Hid (P2 = P ++ [⟨nm, u, k⟩]) := HSU.out
        have HOWN : Hid (∀ o, (wr.alloc o).ownsRow w3.heap.size 62 3 (.slice pa P.length pc) P.length (P.flatMap prCells)) := fun o => HO.out.alloc o
        have HONE : Hid (∀ z ∈ prCells ⟨nm, u, k⟩, z.oneCell' = true) := by
          intro z hz
          unfold prCells at hz
          simp only [List.mem_cons, List.not_mem_nil, or_false] at hz
          rcases hz with rfl | rfl | rfl <;> rfl
        have HFIN : Hid (∀ (o : Obj) (g cap : Nat) (wC : World), wC.ownsRow w3.heap.size 62 3 (.slice (some ⟨g, 0, none⟩) (P.length + 1) cap) (P.length + 1) (P.flatMap prCells ++ prCells ⟨nm, u, k⟩) → (wr.alloc o).grownBy wC (Value.slice pa P.length pc).ownBlock →
            wC.ownsRow w3.heap.size 62 3 (.slice (some ⟨g, 0, none⟩) P2.length cap) P2.length (P2.flatMap prCells) ∧ Below w3.heap.size w3 wC) := fun o g cap wC h1 h2 =>
          ⟨by rw [HP2.out, List.flatMap_append, List.length_append]; simpa using h1, (HB.out.alloc HB.out.size o).grown h2 (by have := HB.out.size; simp; omega) (fun k e => (HO.out.lt k e).1)⟩
        have HL2 : Hid (P.length + 1 = P2.length) := by show _ = _; rw [HP2.out]; simp
        have hzr := HB.out.size
        clear HSU
        have HTS : Hid (told (some u) k = .tuple #[.int .u64 (u : Int), .int .u64 ((u ||| 2 ^ k : Nat) : Int), .bool true]) := rfl
        rw [HTS.out] at HLP
        clear HTS
        have HPC : Hid (prCells ⟨nm, u, k⟩ = [.string ⟨nm.toArray⟩, .int .u64 (u : Int), .int .u64 ((u ||| 2 ^ k : Nat) : Int)]) := rfl
        rw [HPC.out] at HONE HFIN
        generalize (u ||| 2 ^ k) = ub at *
        generalize P.length = L at *
        clear HPC
        go_wp2_with fail
        refine HLP.out.mono ?_
        rintro e w4 ⟨rfl, rfl⟩
        go_wp2_with (at_builtin; refine wpList_append_lies _ rfl (.tmp 46) (.tmp 51) 57 rfl w3.heap.size 62 i0 _ 3 32 Tryz.underlying57 hi0 hz0 hz1 hz2 rfl (by decide) (.slice pa L pc) L (P.flatMap prCells) rfl (HOWN.out _) ⟨w4.heap.size, 0, none⟩ 1 1 [.string ⟨nm.toArray⟩, .int .u64 (u : Int), .int .u64 (ub : Int)] rfl rfl (World.news_of_block (heap_alloc_new w4 _)) (HONE.out) (by decide) (by unfold maxLen; omega) (by omega) (by simp; omega) (w4.heap.size + 1) (by simp) ?_; intro g2 cap2 wC hown hgrow hat hltg; obtain ⟨hoC, hbC⟩ := HFIN.out _ g2 cap2 wC hown hgrow; have HOC := hide hoC; have HBC := hide hbC; clear hoC hbC hown hgrow hat)
        go_roundw
        case rel => exact ⟨k + 1, some ⟨g2, 0, none⟩, cap2, by omega, by go_num, by rw [HQ2.out, ← HL2.out], HQ.out _ _ _ HOC.out, HBC.out⟩
        case measure => simp [intOf]; omega
    · have hkn : k = n := by omega
      subst hkn
      have HPA := hide (PairsAt.own HO.out)
      have HBF := hide (HB3.out.trans (HB.out.mono HB3.out.size))
      go_wp2_with fail
      go_ret2
      refine ⟨HA2.out _ _ HE0.out (by have := HN.out; omega) ?_, HBF.out⟩
      rw [← HS.out, ← HN.out]
      exact HPA.out
end Cv
end
section
namespace Cv
open Go.RowKit
/-- the expression a & b -/
def exC : Ex := ⟨6, [], [⟨2, [97], []⟩, ⟨2, [98], []⟩]⟩
theorem exC_parse : Ex.parse [97, 32, 38, 32, 98] = .inr exC := by kernel_rfl
theorem ord2 : ordered [[97], [98]] = [[97], [98]] := by
  unfold ordered
  rw [List.mergeSort_of_pairwise (by decide +kernel)]
  decide +kernel
theorem ord0 : ordered [] = [] := by kernel_rfl
theorem exC_names : ordered (exC.named true) = [[97], [98]] := by
  have h : exC.named true = [[97], [98]] := by simp [exC, Ex.named]
  exact (congrArg ordered h).trans ord2
theorem exC_edges : ordered (exC.named false) = [] := by
  have h : exC.named false = [] := by simp [exC, Ex.named]
  exact (congrArg ordered h).trans ord0
theorem exC_says : sayV exC [[97], [98]] = fun v => v.testBit 0 && v.testBit 1 := by
  funext v
  have h1 : tv [[97], [98]] v [97] = v.testBit 0 := by simp [tv, ix]
  have h2 : tv [[97], [98]] v [98] = v.testBit 1 := by simp [tv, ix]
  simp only [sayV, exC, Ex.eval, List.map_cons, List.map_nil, List.all_cons, List.all_nil, id, h1, h2, Bool.and_true]
theorem exC_pairs : pairsTo (sayV exC [[97], [98]]) [[97], [98]] 2 = [⟨[97], 2, 0⟩, ⟨[98], 1, 1⟩] := by
  rw [exC_says]
  kernel_rfl
theorem exC_size : exC.size ≤ 1000000 := by simp [exC, Ex.size]
theorem later {ok : Nat → Prop} {w w' : World} {x : Ex} {v : Value} (h : IsEx ok w x v) (hb : Below w.heap.size w w') : IsEx (fun _ => True) w' x v := IsEx.stay (Stay.below hb) (fun _ _ => trivial) x v h
set_option maxHeartbeats 2000000 in
set_option maxRecDepth 100000 in
theorem covered_any (w : World) : Calls Tryz.prog 5 #[] w fun e w' => e = .returned (.bool true) ∧ Below w.heap.size w w' := by
  have HP := hide (Parse_any ⟨#[97, 32, 38, 32, 98]⟩ w (by decide))
  change Hid (Calls _ _ _ _ (Parsed w (Ex.parse [97, 32, 38, 32, 98]))) at HP
  rw [exC_parse] at HP
  have q0 : ∀ w : World, (binOp .eql 62 (.agg #[.string ⟨#[97]⟩, .int .u64 2, .int .u64 3]) (.agg #[.string ⟨#[97]⟩, .int .u64 2, .int .u64 3])).run Tryz.prog w = .ok (.bool true) w := fun _ => by kernel_rfl
  have q1 : ∀ w : World, (binOp .eql 62 (.agg #[.string ⟨#[98]⟩, .int .u64 1, .int .u64 3]) (.agg #[.string ⟨#[98]⟩, .int .u64 1, .int .u64 3])).run Tryz.prog w = .ok (.bool true) w := fun _ => by kernel_rfl
  go_enter Tryz.func5, Tryz.ntmps5
  go_wp2_with fail
  refine HP.out.mono ?_
  rintro e w1 ⟨hb1, v, rfl, hx1⟩
  have HB1 := hide hb1
  have HPA := hide (Pairs_any _ exC v w1 hx1 exC_size)
  obtain ⟨tu, yu, hiu⟩ := IsEx.iface _ v hx1
  subst hiu
  clear hb1 hx1 HP
  go_wp2_with fail
  refine HPA.out.mono ?_
  rintro e w2 ⟨ha, hb2⟩
  have HB2 := hide (HB1.out.trans (hb2.mono HB1.out.size))
  unfold Answer at ha
  rw [exC_names, exC_edges] at ha
  rcases ha with ⟨_, _, _, h⟩ | ⟨sv, rfl, _, _, hp⟩
  · exfalso
    rcases h with h | h
    · exact h rfl
    · exact absurd h (by decide)
  change PairsAt w2 sv (pairsTo (sayV exC [[97], [98]]) [[97], [98]] 2) at hp
  rw [exC_pairs] at hp
  rcases hp with ⟨h0, _⟩ | ⟨g, c, rfl, hc, hcell⟩
  · cases h0
  obtain ⟨a0, a1, a2⟩ := hcell 0 _ rfl
  obtain ⟨b0, b1, b2⟩ := hcell 1 _ rfl
  change w2.cell? ⟨g, 0, none⟩ = some (.string ⟨#[97]⟩) at a0
  change w2.cell? ⟨g, 1, none⟩ = some (.int .u64 2) at a1
  change w2.cell? ⟨g, 2, none⟩ = some (.int .u64 3) at a2
  change w2.cell? ⟨g, 3, none⟩ = some (.string ⟨#[98]⟩) at b0
  change w2.cell? ⟨g, 4, none⟩ = some (.int .u64 1) at b1
  change w2.cell? ⟨g, 5, none⟩ = some (.int .u64 3) at b2
  have hc2 : 2 ≤ c := hc
  clear hb2 hcell hc HPA
  go_wp2_with fail
  go_ret
  exact ⟨rfl, HB2.out⟩
end Cv
end
section
open Go.RowKit
/-- the state that Do has made lies behind a pointer -/
def D7 (V : World) (n : Nat) (st : Sc.St) (t7 : Value) (W : World) : Prop := ∃ b7 gi gc, t7 = .pointer (some ⟨b7, 0, none⟩) ∧ W.heap[b7]? = some (.cells #[.slice (some ⟨gi, 0, none⟩) n n, .slice (some ⟨gc, 0, none⟩) n n] 142 (0, 0)) ∧ StAt W gi gc st ∧ (V.heap.size ≤ b7 ∧ V.heap.size ≤ gi ∧ V.heap.size ≤ gc) ∧ Below V.heap.size V W
theorem d7_a {V W : World} {n gi gc : Nat} {st : Sc.St} (hs : StAt W gi gc st) (hb : Below V.heap.size V W) (h1 : V.heap.size ≤ gi) (h2 : V.heap.size ≤ gc) : D7 V n st (.pointer (some ⟨W.heap.size, 0, none⟩)) (W.alloc (.cells #[.slice (some ⟨gi, 0, none⟩) n n, .slice (some ⟨gc, 0, none⟩) n n] 142)) :=
  ⟨_, gi, gc, rfl, heap_alloc_new _ _, hs.kept (Below.heap_alloc _ _ _ hs.lt.1) (Below.heap_alloc _ _ _ hs.lt.2), ⟨hb.size, h1, h2⟩, hb.alloc hb.size _⟩
theorem d7_b {V W : World} {n gi gc : Nat} {st : Sc.St} (ht : W.heap[V.heap.size]? = some (.cells #[.slice none 0 0, .slice none 0 0] 142 (0, 0))) (hs : StAt W gi gc st) (hb : Below V.heap.size V W) (h1 : V.heap.size < gi) (h2 : V.heap.size < gc) : D7 V n st (.pointer (some ⟨V.heap.size, 0, none⟩)) ((W.setCell ⟨V.heap.size, 0, none⟩ (.slice (some ⟨gi, 0, none⟩) n n)).setCell ⟨V.heap.size, 1, none⟩ (.slice (some ⟨gc, 0, none⟩) n n)) :=
  ⟨_, gi, gc, rfl, by simp [World.setCell, Array.getElem?_modify, ht], hs.kept (by rw [Below.heap_setCell _ _ _ _ (by dsimp only; omega), Below.heap_setCell _ _ _ _ (by dsimp only; omega)]) (by rw [Below.heap_setCell _ _ _ _ (by dsimp only; omega), Below.heap_setCell _ _ _ _ (by dsimp only; omega)]), ⟨Nat.le_refl _, by omega, by omega⟩, Below.setCell (Below.setCell hb (Nat.le_refl _) _) (Nat.le_refl _) _⟩
/-- a round is done -/
def D8 (V0 : World) (gN gS S I a b s : Nat) (cN cS rN rS : List Value) (V : World) (i : Nat) (W : World) : Prop := Fi V0 gN gS S I a b s cN cS rN rS W (i + 1) ∧ V.heap.size ≤ W.heap.size ∧ ∀ j, j < V.heap.size → j ≠ a → j ≠ b → W.heap[j]? = V.heap[j]?
theorem d8_ab {V0 V W : World} {gN gS S I a b s i : Nat} {cN cS rN rS : List Value} {x y : Value} (h : Fi V0 gN gS S I a b s cN cS rN rS V i) (hb : Below V.heap.size V W) (hi : i < I) (hNl : rN.length = I) (hSl : rS.length = I) (hx : rN[i]? = some x) (hy : rS[i]? = some y) (hgN : gN < V0.heap.size) (hgS : gS < V0.heap.size) :
    D8 V0 gN gS S I a b s cN cS rN rS V i ((W.setCell ⟨a, i, none⟩ x).setCell ⟨b, i, none⟩ y) := by
  refine ⟨(h.below hb).put hi hNl hSl hx hy hgN hgS (fun _ _ => rfl) (by simp [World.setCell]) ⟨rfl, rfl, rfl⟩, by have := hb.size; simpa [World.setCell] using this, fun j hj h1 h2 => ?_⟩
  rw [Below.heap_setCell _ _ _ _ (fun e => h2 e), Below.heap_setCell _ _ _ _ (fun e => h1 e)]
  exact hb.block j hj
theorem d8_ba {V0 V W : World} {gN gS S I a b s i : Nat} {cN cS rN rS : List Value} {x y : Value} (h : Fi V0 gN gS S I a b s cN cS rN rS V i) (hb : Below V.heap.size V W) (hi : i < I) (hNl : rN.length = I) (hSl : rS.length = I) (hx : rN[i]? = some x) (hy : rS[i]? = some y) (hgN : gN < V0.heap.size) (hgS : gS < V0.heap.size) :
    D8 V0 gN gS S I a b s cN cS rN rS V i ((W.setCell ⟨b, i, none⟩ y).setCell ⟨a, i, none⟩ x) := by
  have hab := h.ln.2.2
  refine ⟨(h.below hb).put hi hNl hSl hx hy hgN hgS (fun k _ => ?_) (by simp [World.setCell]) ⟨rfl, rfl, rfl⟩, by have := hb.size; simpa [World.setCell] using this, fun j hj h1 h2 => ?_⟩
  · by_cases ha : k = a
    · subst ha
      rw [Below.heap_setCell (W.setCell ⟨k, i, none⟩ x) _ _ _ (by dsimp only; exact hab)]
      exact setCell_congr _ _ (Below.heap_setCell _ _ _ _ (by dsimp only; exact hab))
    · rw [Below.heap_setCell (W.setCell ⟨b, i, none⟩ y) _ _ _ (fun e => ha e)]
      exact setCell_congr _ _ (Below.heap_setCell _ _ _ _ (fun e => ha e)).symm
  · rw [Below.heap_setCell _ _ _ _ (fun e => h1 e), Below.heap_setCell _ _ _ _ (fun e => h2 e)]
    exact hb.block j hj
theorem Fi.cells {V W : World} {gN gS S I a b s i : Nat} {cN cS rN rS : List Value} (h : Fi V gN gS S I a b s cN cS rN rS W i) (hs : s < cN.length) (hs2 : s < cS.length) (hi : i < I) (hNl : rN.length = I) (hSl : rS.length = I) :
    W.cell? ⟨gN, s, none⟩ = some (slV a I) ∧ W.cell? ⟨gS, s, none⟩ = some (slV b I) ∧ (W.cell? ⟨a, i, none⟩ = some (.int .i64 0) ∧ W.frozen? ⟨a, i, none⟩ = false) ∧ W.cell? ⟨b, i, none⟩ = some (.int .i64 0) ∧ W.frozen? ⟨b, i, none⟩ = false := by
  have hr : ∀ (r : List Value), r.length = I → (r.take i ++ List.replicate (I - i) (Value.int .i64 0))[i]? = some (.int .i64 0) := fun r hl => by
    have h1 : (r.take i).length = i := by rw [List.length_take]; omega
    rw [List.getElem?_append_right (by omega), h1, Nat.sub_self, List.getElem?_replicate, if_pos (by omega)]
  exact ⟨h.tN.cell s _ (List.getElem?_set_self hs), h.tS.cell s _ (List.getElem?_set_self hs2), ⟨h.lN.cell i _ (hr rN hNl), h.lN.frozen i⟩, h.lS.cell i _ (hr rS hSl), h.lS.frozen i⟩
theorem RowIs.len_of {W : World} {g i : Nat} {t : TypeId} {l : List Value} {v : Value} (h : RowIs W g t l) (hc : W.cell? ⟨g, i, none⟩ = some v) : i < l.length := by
  rw [Lib.cell_of_heap h] at hc
  exact (Array.getElem?_eq_some_iff.1 hc).1
/-- the cells that a round of the inner loop reads -/
def K7 (bm g n gN gS S s a b I b7 gi gc : Nat) (W : World) : Prop := W.cell? ⟨bm, 4, none⟩ = some (.slice (some ⟨gN, 0, none⟩) S S) ∧ W.cell? ⟨bm, 6, none⟩ = some (.slice (some ⟨gS, 0, none⟩) S S) ∧ W.cell? ⟨bm, 5, none⟩ = some (.slice (some ⟨g, 0, none⟩) n n) ∧ W.cell? ⟨gN, s, none⟩ = some (.slice (some ⟨a, 0, none⟩) I I) ∧ W.cell? ⟨gS, s, none⟩ = some (.slice (some ⟨b, 0, none⟩) I I) ∧ W.cell? ⟨b7, 0, none⟩ = some (.slice (some ⟨gi, 0, none⟩) n n) ∧ W.cell? ⟨b7, 1, none⟩ = some (.slice (some ⟨gc, 0, none⟩) n n)
theorem K7.below {bm g n gN gS S s a b I b7 gi gc : Nat} {V W : World} (h : K7 bm g n gN gS S s a b I b7 gi gc V) (hb : Below V.heap.size V W) : K7 bm g n gN gS S s a b I b7 gi gc W := by
  have key : ∀ (p : Addr) v, V.cell? p = some v → W.cell? p = some v := fun p v hv => (hb.cell (World.block_lt_of_cell? _ _ hv)).trans hv
  exact ⟨key _ _ h.1, key _ _ h.2.1, key _ _ h.2.2.1, key _ _ h.2.2.2.1, key _ _ h.2.2.2.2.1, key _ _ h.2.2.2.2.2.1, key _ _ h.2.2.2.2.2.2⟩
theorem K7.set {bm g n gN gS S s a b I b7 gi gc : Nat} {W : World} (c j : Nat) (x : Value) (e1 : bm ≠ c) (e2 : gN ≠ c) (e3 : gS ≠ c) (e4 : b7 ≠ c) (h : K7 bm g n gN gS S s a b I b7 gi gc W) : K7 bm g n gN gS S s a b I b7 gi gc (W.setCell ⟨c, j, none⟩ x) :=
  ⟨cell_set_blk _ _ _ _ _ _ _ e1 h.1, cell_set_blk _ _ _ _ _ _ _ e1 h.2.1, cell_set_blk _ _ _ _ _ _ _ e1 h.2.2.1, cell_set_blk _ _ _ _ _ _ _ e2 h.2.2.2.1, cell_set_blk _ _ _ _ _ _ _ e3 h.2.2.2.2.1, cell_set_blk _ _ _ _ _ _ _ e4 h.2.2.2.2.2.1, cell_set_blk _ _ _ _ _ _ _ e4 h.2.2.2.2.2.2⟩
/-- what fill has done -/
def Filled (w : World) (bm : Nat) (p : Ld.Prg) (nv rv : Value) (g S I q : Nat) (e : Ending) (w' : World) : Prop := e = .returned (.tuple #[]) ∧ ∃ gN gS lo uN uS, MachAt w' bm nv rv S I (slV gN S) (slV g p.names.length) (slV gS S) ∧ ((uN.length = S ∧ uS.length = S) ∧ LL w' gN 26 3 S I lo uN (Mc.nextRow p q I) ∧ LL w' gS 26 3 S I lo uS (Mc.seesRow p q I)) ∧ (IsPrg w' p (.agg #[nv, rv]) ∧ RowIs w' g 135 ((Mc.parts p).flatMap ptCells)) ∧ (∀ k, k < w.heap.size → k ≠ bm → w'.heap[k]? = w.heap[k]?) ∧ w.heap.size ≤ w'.heap.size ∧ w'.os = w.os ∧ w'.tape = w.tape ∧ w'.output = w.output
theorem filled_of {w wr wc W : World} {bm : Nat} {p : Ld.Prg} {nv rv : Value} {g gN gS gI S I q lo : Nat} {us : List Nat} (hB : Below w.heap.size w wr) (hm : Made2 wr bm nv rv (slV g p.names.length) S I gN gS wc) (hf : Fl wc gN gS S I p q W S) (hs : Std bm p nv rv g gN gS gI S I q lo us W) : Filled w bm p nv rv g S I q (.returned (.tuple #[])) W := by
  obtain ⟨uN, uS, h1, h2, h3⟩ := hf.tabs
  obtain ⟨n1, n2, _⟩ := hm.ln
  have hz := hB.size
  have hz2 := hm.size
  have hz3 := hf.size
  exact ⟨rfl, gN, gS, _, uN, uS, hs.mach, ⟨h1, h2, h3⟩, ⟨hs.prg, hs.row⟩, fun k hk hne => (hf.old k (by omega) (by omega) (by omega)).trans ((hm.old k (by omega) hne).trans (hB.block k hk)), by omega, hf.os.1.trans (hm.os.1.trans hB.os), hf.os.2.1.trans (hm.os.2.1.trans hB.tape), hf.os.2.2.trans (hm.os.2.2.trans hB.output)⟩
end
end Go.Proofs.YtglmpkpcbafgdaaGreatDoor
