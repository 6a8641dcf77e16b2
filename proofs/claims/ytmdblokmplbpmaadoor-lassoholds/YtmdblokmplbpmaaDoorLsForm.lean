/-
  The walk of package plain's Formula: formulas that are made of plain steps.
-/
import Derived.Test.YtmdblokmplbpmaaDoorLsHolds
namespace Go.Proofs.YtmdblokmplbpmaaDoor
namespace Ls
open Go.RowKit
/-- a place in a list of so many -/
def atN (x : Int) (m : Nat) : Nat := (x % 18446744073709551616 % (m : Int)).toNat
theorem atN_lt (x : Int) (m : Nat) (h : 0 < m) : atN x m < m := by
  have h4 : 0 ≤ x % 18446744073709551616 % (m : Int) := Int.emod_nonneg _ (by omega)
  have h5 : x % 18446744073709551616 % (m : Int) < (m : Int) := Int.emod_lt_of_pos _ (by omega)
  unfold atN
  omega
set_option maxHeartbeats 2000000 in
theorem At_any (x : Int) (m : Nat) (h0 : 0 < m) (hm : m ≤ 1000) (w : World) :
    Calls Tryd.prog 18 #[.int .i64 x, .int .i64 (m : Int)] w fun e w' => e = .returned (.int .i64 (atN x m : Int)) ∧ w' = w := by
  go_enter Tryd.func18, Tryd.ntmps18
  go_wp2_with fail
  refine bodyPost_ret (results_tmp rfl _ _ _) rfl ⟨?_, rfl⟩
  have e1 : IntKind.u64.wrap x = x % 18446744073709551616 := IntKind.wrap_u64 x
  have h3 : 0 ≤ x % 18446744073709551616 := Int.emod_nonneg _ (by decide)
  have h4 : 0 ≤ x % 18446744073709551616 % (m : Int) := Int.emod_nonneg _ (by omega)
  have h5 : x % 18446744073709551616 % (m : Int) < (m : Int) := Int.emod_lt_of_pos _ (by omega)
  have e2 : wrap64 (x % 18446744073709551616 % (m : Int)) = x % 18446744073709551616 % (m : Int) := by unfold wrap64; omega
  have e3 : ((atN x m : Nat) : Int) = x % 18446744073709551616 % (m : Int) := by unfold atN; omega
  rw [e3, e1, Int.tmod_eq_emod_of_nonneg h3, e2]
  rfl
/-- a plain step -/
structure St where
  kind : Int
  a : Int
  b : Int
  name : List UInt8
/-- steps, as a slice -/
def Steps (w : World) (sv : Value) (l : List St) : Prop := ∃ a c, sv = .slice a l.length c ∧ l.length ≤ maxLen ∧ ∀ (k : Nat) s, l[k]? = some s → ∃ g o, a = some ⟨g, o, none⟩ ∧ l.length ≤ c ∧ w.cell? ⟨g, o + k * 4, none⟩ = some (.int .i64 s.kind) ∧ w.cell? ⟨g, o + k * 4 + 1, none⟩ = some (.int .i64 s.a) ∧ w.cell? ⟨g, o + k * 4 + 2, none⟩ = some (.int .i64 s.b) ∧ w.cell? ⟨g, o + k * 4 + 3, none⟩ = some (.string ⟨s.name.toArray⟩) ∧ I64 s.kind ∧ s.name.length ≤ maxLen
theorem Steps.below {w w' : World} {sv : Value} {l : List St} (h : Steps w sv l) (hb : Below w.heap.size w w') : Steps w' sv l := by
  obtain ⟨a, c, h1, h2, h3⟩ := h
  refine ⟨a, c, h1, h2, fun k x hx => ?_⟩
  obtain ⟨g, o, e1, e2, e3, e4, e5, e6, e7⟩ := h3 k x hx
  exact ⟨g, o, e1, e2, kept hb e3, kept hb e4, kept hb e5, kept hb e6, e7⟩
theorem Steps.slice {w : World} {sv : Value} {l : List St} (h : Steps w sv l) : ∃ a c, sv = .slice a l.length c := by obtain ⟨a, c, h, _⟩ := h; exact ⟨a, c, h⟩
theorem Steps.cell {w : World} {a : Option Addr} {n c : Nat} {l : List St} (h : Steps w (.slice a n c) l) (k : Nat) (s : St) (hx : l[k]? = some s) : ∃ g o, a = some ⟨g, o, none⟩ ∧ w.cell? ⟨g, o + k * 4, none⟩ = some (.int .i64 s.kind) ∧ w.cell? ⟨g, o + k * 4 + 1, none⟩ = some (.int .i64 s.a) ∧ w.cell? ⟨g, o + k * 4 + 2, none⟩ = some (.int .i64 s.b) ∧ w.cell? ⟨g, o + k * 4 + 3, none⟩ = some (.string ⟨s.name.toArray⟩) ∧ I64 s.kind ∧ s.name.length ≤ maxLen := by
  obtain ⟨a', c', h1, h2, h3⟩ := h
  obtain ⟨g, o, e1, e2, e3⟩ := h3 k s hx
  simp only [Value.slice.injEq] at h1
  exact ⟨g, o, by rw [h1.1]; exact e1, e3⟩
def tru : Fm := ⟨false, 2, [], []⟩
/-- the formula that a step makes of those ahead -/
def stepF (xs : List Fm) (s : St) : Fm :=
  if s.kind = 2 then tru
  else if s.kind = 3 ∨ s.kind = 6 ∨ s.kind = 9 ∨ s.kind = 10 then ⟨false, s.kind, [], [xs.getD (atN s.a xs.length) tru]⟩
  else if s.kind = 4 ∨ s.kind = 5 ∨ s.kind = 7 ∨ s.kind = 8 then ⟨false, s.kind, [], [xs.getD (atN s.a xs.length) tru, xs.getD (atN s.b xs.length) tru]⟩
  else ⟨false, 1, s.name, []⟩
def formsTo (l : List St) : Nat → List Fm
  | 0 => [tru]
  | k + 1 => match l[k]? with
    | some s => formsTo l k ++ [stepF (formsTo l k) s]
    | none => formsTo l k
theorem formsTo_succ (l : List St) (k : Nat) (h : k < l.length) : formsTo l (k + 1) = formsTo l k ++ [stepF (formsTo l k) l[k]] := by rw [formsTo, List.getElem?_eq_getElem h]
theorem formsTo_len (l : List St) : ∀ k, k ≤ l.length → (formsTo l k).length = k + 1
  | 0, _ => rfl
  | k + 1, h => by rw [formsTo_succ l k (by omega), List.length_append, formsTo_len l k (by omega)]; rfl
/-- the last one that steps make -/
def formula (l : List St) : Fm := (formsTo l l.length).getD l.length tru
/-- formulas so far: an own row of them -/
def FAll (w wr : World) (v : Value) (us : List Value) (xs : List Fm) : Prop := wr.ownsRow w.heap.size 40 1 v us.length us ∧ us.length = xs.length ∧ Below w.heap.size w wr ∧ ∀ (i : Nat) u x, us[i]? = some u → xs[i]? = some x → IsF (fun b => b < wr.heap.size ∧ some b ≠ v.ownBlock) wr x u
theorem FAll.grow {w wr W wC : World} {v p : Value} {us : List Value} {xs : List Fm} {x : Fm} {g cap : Nat} (h : FAll w wr v us xs) (hb : Below wr.heap.size wr W) (hp : IsF (fun b => b < W.heap.size ∧ some b ≠ v.ownBlock) W x p) (ho : wC.ownsRow w.heap.size 40 1 (.slice (some ⟨g, 0, none⟩) (us.length + 1) cap) (us.length + 1) (us ++ [p])) (hg : (W.alloc (.cells #[p] 40)).grownBy wC v.ownBlock) (hat : v.ownBlock = some g ∨ g = W.heap.size + 1) :
    FAll w wC (.slice (some ⟨g, 0, none⟩) (us.length + 1) cap) (us ++ [p]) (xs ++ [x]) := by
  obtain ⟨h1, h2, h3, h4⟩ := h
  have hsz : (W.alloc (.cells #[p] 40)).heap.size = W.heap.size + 1 := by simp
  have hgs := hg.size
  rw [hsz] at hgs
  have hok : ∀ b, (b < W.heap.size ∧ some b ≠ v.ownBlock) → b < wC.heap.size ∧ some b ≠ (Value.slice (some ⟨g, 0, none⟩) (us.length + 1) cap).ownBlock := fun b hb' => by
    refine ⟨by omega, ?_⟩
    show some b ≠ some g
    intro e
    cases e
    rcases hat with h | h
    · exact hb'.2 h.symm
    · omega
  have hst : ∀ b i u, (b < W.heap.size ∧ some b ≠ v.ownBlock) → W.cell? ⟨b, i, none⟩ = some u → wC.cell? ⟨b, i, none⟩ = some u := fun b i u hb' hc => hg.cell (cell_alloc_keep _ _ _ _ hc) hb'.2
  refine ⟨by rw [List.length_append]; exact ho, by rw [List.length_append, List.length_append, h2]; rfl, ?_, fun i u y hu hy => ?_⟩
  · exact below_grown (h3.trans ((then_ hb (newB _ _)).mono h3.size)) hg (ownBlock_new h1)
  · by_cases hi : i < us.length
    · rw [List.getElem?_append_left hi] at hu
      rw [List.getElem?_append_left (by omega)] at hy
      have k1 := h4 i u y hu hy
      have k2 : IsF (fun b => b < W.heap.size ∧ some b ≠ v.ownBlock) W y u := IsF.stay (fun b i u _ hc => kept hb hc) (fun b hb' => ⟨Nat.lt_of_lt_of_le hb'.1 hb.size, hb'.2⟩) y u k1
      exact IsF.stay hst hok y u k2
    · rw [List.getElem?_append_right (by omega)] at hu hy
      have hz : i - us.length = 0 := by
        have := (List.getElem?_eq_some_iff.1 hu).1
        simp at this; omega
      rw [hz] at hu
      rw [← h2, hz] at hy
      cases hu; cases hy
      exact IsF.stay hst hok x p hp
theorem Tryd.infoPF : (Tryd.prog.info? 40).map (fun i => (i.zero, i.size, i.bytes)) = some (some (.pointer none), 1, 8) := by kernel_rfl
set_option maxHeartbeats 8000000 in
set_option maxRecDepth 100000 in
theorem Formula_any (l : List St) (sv : Value) (w : World) (hs : Steps w sv l) (hl : l.length ≤ 100) :
    Calls Tryd.prog 11 #[sv] w fun e w' => ∃ v, e = .returned v ∧ IsF (fun _ => True) w' (formula l) v ∧ Below w.heap.size w w' := by
  obtain ⟨i0, hi0, hz0, hz1, hz2⟩ := info_parts Tryd.infoPF
  have HS := hide hs
  obtain ⟨sa, sc, rfl⟩ := hs.slice
  obtain ⟨n, hn⟩ : ∃ n, n = l.length := ⟨_, rfl⟩
  have HN := hide hn
  rw [← hn] at hl HS ⊢
  clear hs hn
  obtain ⟨wA, hwA⟩ : ∃ wA, wA = (w.alloc (.cells #[.int .i64 2, .string ⟨#[]⟩, .slice none 0 0] 74)).alloc (.cells #[.pointer (some ⟨w.heap.size, 0, none⟩)] 40) := ⟨_, rfl⟩
  have HF0 : Hid (FAll w wA (.slice (some ⟨w.heap.size + 1, 0, none⟩) 1 1) [.pointer (some ⟨w.heap.size, 0, none⟩)] (formsTo l 0)) := by
    obtain ⟨w1, hw1⟩ : ∃ w1, w1 = w.alloc (.cells #[.int .i64 2, .string ⟨#[]⟩, .slice none 0 0] 74) := ⟨_, rfl⟩
    have hr1 : RowIs w1 w.heap.size 74 [.int .i64 2, .string ⟨#[]⟩, .slice none 0 0] := by rw [hw1]; exact RowIs.new _ _ _
    have hs1 : w1.heap.size = w.heap.size + 1 := by rw [hw1]; simp
    have hb1 : Below w.heap.size w w1 := by rw [hw1]; exact newB _ _
    rw [← hw1] at hwA
    have hb2 : Below w1.heap.size w1 wA := by rw [hwA]; exact newB _ _
    have hr2 := hr1.below hb2
    have hs2 : wA.heap.size = w.heap.size + 2 := by rw [hwA]; simp [hs1]
    refine ⟨?_, rfl, then_ hb1 hb2, fun i u x hu hx => ?_⟩
    · have := own_one w1 w.heap.size 40 (.pointer (some ⟨w.heap.size, 0, none⟩)) (by omega)
      rw [hs1] at this
      rw [hwA]
      exact this
    · match i, hu, hx with
      | 0, hu, hx =>
        cases hu
        have hx : x = tru := by simpa [formsTo] using hx.symm
        subst hx
        refine isF_node.2 ⟨by unfold I64; omega, by simp, by simp, w.heap.size, none, 0, ⟨by omega, ?_⟩, rfl, hr2.cell 0 _ rfl, hr2.cell 1 _ rfl, hr2.cell 2 _ rfl, fun i x hx => by simp at hx⟩
        show some w.heap.size ≠ some (w.heap.size + 1)
        intro e
        rw [Option.some.injEq] at e
        omega
      | i + 1, hu, _ => simp at hu
  have HWA := hide hwA
  clear hwA
  go_enter Tryd.func11, Tryd.ntmps11
  go_wp2_with fail
  rw [← HWA.out]
  clear HWA
  go_loopw [14, 3] (fun i s wr => ∃ (j m : Nat) (us : List Value) (va : Option Addr) (vc : Nat), j ≤ n ∧ i = .int .i64 (j : Int) ∧ s = .slice va m vc ∧ Hid (m = j + 1) ∧ Hid (us.length = m) ∧ Hid (FAll w wr (.slice va m vc) us (formsTo l j))) (fun i _ _ => n - (intOf i).toNat)
  case atStart => exact ⟨0, 1, [.pointer (some ⟨w.heap.size, 0, none⟩)], _, _, Nat.zero_le _, rfl, rfl, hide rfl, hide rfl, HF0.out⟩
  case round =>
    obtain ⟨j, m, us, va, vc, hj, rfl, rfl, HM, HUL, HA⟩ := hrel
    have HBW : Hid (Below w.heap.size w wr) := HA.out.2.2.1
    have hm0 : 0 < m := by rw [HM.out]; omega
    have hm1 : m ≤ 101 := by rw [HM.out]; omega
    obtain ⟨gv, cur, hva⟩ : ∃ gv cur, va = some ⟨gv, 0, none⟩ ∧ w.heap.size ≤ gv ∧ wr.heap[gv]? = some (.cells cur 40 (0, 0)) ∧ cur.toList.take us.length = us := by
      rcases HA.out.1.2 with ⟨_, h0⟩ | ⟨g, cap, cur, e1, e2, e3, _, _, _, e4⟩
      · exact absurd h0 (by rw [HUL.out]; omega)
      · simp only [Value.slice.injEq] at e1
        exact ⟨g, cur, e1.1, e2, e3, by simpa using e4⟩
    obtain ⟨rfl, hgv, hcur, htk⟩ := hva
    have HCU : Hid (∀ (i : Nat) u, us[i]? = some u → wr.cell? ⟨gv, i, none⟩ = some u) := fun i u hu => row_cell hcur htk hu
    have hgl : gv < wr.heap.size := (Array.getElem?_eq_some_iff.1 hcur).1
    clear hcur htk
    by_cases hlt : j < n
    · have hjl : j < l.length := by rw [← HN.out]; exact hlt
      have hji : (j : Int) < (n : Int) := by omega
      obtain ⟨g, o, rfl, c0, c1, c2, c3, hk64, hnm⟩ := (HS.out.below HBW.out).cell j _ (List.getElem?_eq_getElem hjl)
      have HSU := hide (formsTo_succ l j hjl)
      have HFL : Hid ((formsTo l j).length = m) := by rw [HM.out]; exact formsTo_len l j (by omega)
      generalize l[j] = s at *
      obtain ⟨sk, sA, sB, snm⟩ := s
      simp only at c0 c1 c2 c3 hk64 hnm
      have HK64 := hide hk64
      have HNM := hide hnm
      clear hjl hk64 hnm
      have hia := atN_lt sA m hm0
      have hib := atN_lt sB m hm0
      obtain ⟨ua, hua⟩ : ∃ u, us[atN sA m]? = some u := ⟨_, List.getElem?_eq_getElem (by rw [HUL.out]; exact hia)⟩
      obtain ⟨ub, hub⟩ : ∃ u, us[atN sB m]? = some u := ⟨_, List.getElem?_eq_getElem (by rw [HUL.out]; exact hib)⟩
      have hxa : (formsTo l j)[atN sA m]? = some ((formsTo l j).getD (atN sA m) tru) := by rw [List.getD_eq_getElem?_getD, List.getElem?_eq_getElem (by rw [HFL.out]; exact hia)]; rfl
      have hxb : (formsTo l j)[atN sB m]? = some ((formsTo l j).getD (atN sB m) tru) := by rw [List.getD_eq_getElem?_getD, List.getElem?_eq_getElem (by rw [HFL.out]; exact hib)]; rfl
      have HIA := hide (HA.out.2.2.2 _ _ _ hua hxa)
      have HIB := hide (HA.out.2.2.2 _ _ _ hub hxb)
      have hca := HCU.out _ _ hua
      have hcb := HCU.out _ _ hub
      obtain ⟨pa, hpa⟩ := HIA.out.ptr
      obtain ⟨pb, hpb⟩ := HIB.out.ptr
      subst hpa
      subst hpb
      have HSTEP : Hid (formsTo l (j + 1) = formsTo l j ++ [stepF (formsTo l j) ⟨sk, sA, sB, snm⟩]) := HSU.out
      have HSF : Hid (stepF (formsTo l j) ⟨sk, sA, sB, snm⟩ = if sk = 2 then tru else if sk = 3 ∨ sk = 6 ∨ sk = 9 ∨ sk = 10 then ⟨false, sk, [], [(formsTo l j).getD (atN sA m) tru]⟩ else if sk = 4 ∨ sk = 5 ∨ sk = 7 ∨ sk = 8 then ⟨false, sk, [], [(formsTo l j).getD (atN sA m) tru, (formsTo l j).getD (atN sB m) tru]⟩ else ⟨false, 1, snm, []⟩) := by
        show _ = _
        unfold stepF
        rw [HFL.out]
      generalize (formsTo l j).getD (atN sA m) tru = xa at *
      generalize (formsTo l j).getD (atN sB m) tru = xb at *
      have HATA := hide (fun W => At_any sA m hm0 (by omega) W)
      have HATB := hide (fun W => At_any sB m hm0 (by omega) W)
      clear hua hub hxa hxb HSU
      generalize atN sA m = ia at *
      generalize atN sB m = ib at *
      obtain ⟨wB, hwB⟩ : ∃ wB, wB = (wr.alloc (.cells #[.int .i64 sk, .int .i64 sA, .int .i64 sB, .string ⟨snm.toArray⟩] 56)).alloc (.cells #[.int .i64 sk, .string ⟨#[]⟩, .slice none 0 0] 74) := ⟨_, rfl⟩
      have HBB : Hid (Below wr.heap.size wr wB) := by rw [hwB]; exact then_ (newB _ _) (newB _ _)
      have HSR : Hid (RowIs wB wr.heap.size 56 [.int .i64 sk, .int .i64 sA, .int .i64 sB, .string ⟨snm.toArray⟩]) := by rw [hwB]; exact (RowIs.new _ _ _).alloc _
      have hsz : wB.heap.size = wr.heap.size + 2 := by rw [hwB]; simp
      have hfr : RowIs wB (wr.heap.size + 1) 74 [.int .i64 sk, .string ⟨#[]⟩, .slice none 0 0] := by rw [hwB]; have := RowIs.new (wr.alloc (.cells #[.int .i64 sk, .int .i64 sA, .int .i64 sB, .string ⟨snm.toArray⟩] 56)) 74 [.int .i64 sk, .string ⟨#[]⟩, .slice none 0 0]; simpa using this
      have HFR := hide hfr
      have HSZ := hide hsz
      clear hfr hsz
      have HWB := hide hwB
      have s1 := HSR.out.cell 1 _ rfl
      have s2 := HSR.out.cell 2 _ rfl
      have ha' := kept HBB.out hca
      have hb' := kept HBB.out hcb
      have hiai : (ia : Int) < (m : Int) := by omega
      have hibi : (ib : Int) < (m : Int) := by omega
      go_wp2_with fail
      rw [← hwB]
      clear hwB c0 c1 c2 c3 hca hcb
      go_quiet (first | (go_at_call 18; with_reducible refine Calls.quiet_of_same (HATA.out _)) | (go_at_call 18; with_reducible refine Calls.quiet_of_same (HATB.out _)))
      obtain ⟨wC, hwC⟩ : ∃ wC, wC = wB.drewN nq := ⟨_, rfl⟩
      have hBC : Below wB.heap.size wB wC := by rw [hwC]; exact ⟨rfl, rfl, rfl, Nat.le_refl _, fun _ _ => rfl⟩
      have hszC : wC.heap.size = wr.heap.size + 2 := by rw [hwC]; exact HSZ.out
      have HBC : Hid (Below wr.heap.size wr wC) := then_ HBB.out hBC
      have HSC := hide hszC
      have HSRC := hide (HSR.out.below hBC)
      have HFRC := hide (HFR.out.below hBC)
      rw [← hwC]
      have hnb : ∀ b, b = wr.heap.size + 1 → some b ≠ (Value.slice (some ⟨gv, 0, none⟩) m vc).ownBlock := fun b hb e => by
        have : b = gv := by simpa [Value.ownBlock] using e
        omega
      have HNB := hide hnb
      have HGL := hide hgl
      have HOWN : Hid (∀ W, Below wr.heap.size wr W → (W.alloc (.cells #[.pointer (some ⟨wr.heap.size + 1, 0, none⟩)] 40)).ownsRow w.heap.size 40 1 (.slice (some ⟨gv, 0, none⟩) m vc) m us) := fun W hW => by
        have h := own_below (own_below HA.out.1 hW) (newB W (.cells #[.pointer (some ⟨wr.heap.size + 1, 0, none⟩)] 40))
        rw [HUL.out] at h
        exact h
      have HONE : Hid (∀ u ∈ [Value.pointer (some ⟨wr.heap.size + 1, 0, none⟩)], u.oneCell' = true) := fun u hu => by
        obtain rfl := List.mem_singleton.1 hu
        rfl
      have HFIN : Hid (∀ (W : World) (x : Fm) (g cap : Nat) (wE : World), Below wr.heap.size wr W → (IsF (fun b => b < W.heap.size ∧ some b ≠ (Value.slice (some ⟨gv, 0, none⟩) m vc).ownBlock) W x (.pointer (some ⟨wr.heap.size + 1, 0, none⟩)) ∧ x = stepF (formsTo l j) ⟨sk, sA, sB, snm⟩) → wE.ownsRow w.heap.size 40 1 (.slice (some ⟨g, 0, none⟩) (m + 1) cap) (m + 1) (us ++ [.pointer (some ⟨wr.heap.size + 1, 0, none⟩)]) → (W.alloc (.cells #[.pointer (some ⟨wr.heap.size + 1, 0, none⟩)] 40)).grownBy wE (Value.slice (some ⟨gv, 0, none⟩) m vc).ownBlock → ((Value.slice (some ⟨gv, 0, none⟩) m vc).ownBlock = some g ∨ g = W.heap.size + 1) → FAll w wE (.slice (some ⟨g, 0, none⟩) (m + 1) cap) (us ++ [.pointer (some ⟨wr.heap.size + 1, 0, none⟩)]) (formsTo l (j + 1))) := fun W x g cap wE hW hx ho hg hat => by
        rw [HSTEP.out, ← hx.2]
        have hul := HUL.out
        have := FAll.grow (g := g) (cap := cap) HA.out hW hx.1 (by rw [hul]; exact ho) hg hat
        rw [hul] at this
        exact this
      have HOK1 : Hid (∀ (W : World) (b : Nat), Below wr.heap.size wr W → (b < wr.heap.size ∧ some b ≠ (Value.slice (some ⟨gv, 0, none⟩) m vc).ownBlock) → b < W.heap.size ∧ some b ≠ (Value.slice (some ⟨gv, 0, none⟩) m vc).ownBlock) := fun W b hW hb => ⟨Nat.lt_of_lt_of_le hb.1 hW.size, hb.2⟩
      clear hwC hBC hszC hnb s1 s2 ha' hb' hgl
      have sk0 := HSRC.out.cell 0 _ rfl
      by_cases hk2 : sk = 2
      · have HNEW : Hid (IsF (fun b => b < wC.heap.size ∧ some b ≠ (Value.slice (some ⟨gv, 0, none⟩) m vc).ownBlock) wC tru (.pointer (some ⟨wr.heap.size + 1, 0, none⟩)) ∧ tru = stepF (formsTo l j) ⟨sk, sA, sB, snm⟩) := by
          refine ⟨?_, by rw [HSF.out, if_pos hk2]⟩
          have hr := HFRC.out
          rw [hk2] at hr
          exact isF_node.2 ⟨by unfold I64; omega, by simp, by simp, _, none, 0, ⟨by rw [HSC.out]; omega, HNB.out _ rfl⟩, rfl, hr.cell 0 _ rfl, hr.cell 1 _ rfl, hr.cell 2 _ rfl, fun i x hx => by simp at hx⟩
        subst hk2
        go_wp2_with (at_builtin; refine wpList_append_lies _ rfl (.tmp 71) (.tmp 73) 72 rfl w.heap.size 40 i0 _ 1 8 Tryd.underlying72 hi0 hz0 hz1 hz2 rfl (by decide) (.slice (some ⟨gv, 0, none⟩) m vc) m us rfl (HOWN.out _ HBC.out) ⟨wC.heap.size, 0, none⟩ 1 1 [.pointer (some ⟨wr.heap.size + 1, 0, none⟩)] rfl rfl (World.news_of_block (heap_alloc_new wC _)) HONE.out (by decide) (by unfold maxLen; omega) (by omega) (by have h1 := HBW.out.size; have h2 := HBC.out.size; simp; omega) (wC.heap.size + 1) (by simp) ?_; intro g5 cap5 wE hown hgrow hat hltg; have HE := hide (HFIN.out _ _ g5 cap5 wE HBC.out HNEW.out hown hgrow hat); clear hown hgrow hat)
        go_roundw
        case rel => exact ⟨j + 1, m + 1, _, _, cap5, by omega, by go_num, rfl, hide (by have := HM.out; omega), hide (by rw [List.length_append, HUL.out]; rfl), HE.out⟩
        case measure => simp [intOf]; omega
      · by_cases hks : sk = 3 ∨ sk = 6 ∨ sk = 9 ∨ sk = 10
        · obtain ⟨wD, hwD⟩ : ∃ wD, wD = (wC.setCell ⟨wr.heap.size + 1, 2, none⟩ (.slice (some ⟨wC.heap.size, 0, none⟩) 1 1)).alloc (.cells #[.pointer pa] 40) := ⟨_, rfl⟩
          have HBD : Hid (Below wr.heap.size wr wD) := by rw [hwD]; exact (HBC.out.setCell (by show wr.heap.size ≤ wr.heap.size + 1; omega) _).alloc (by have := HBC.out.size; simpa using this) _
          have hszD : wD.heap.size = wr.heap.size + 3 := by rw [hwD]; simp [HSC.out]
          have hfD : RowIs wD (wr.heap.size + 1) 74 [.int .i64 sk, .string ⟨#[]⟩, .slice (some ⟨wC.heap.size, 0, none⟩) 1 1] := by rw [hwD]; exact (HFRC.out.set 2 _).alloc _
          have hrD : RowIs wD wC.heap.size 40 [.pointer pa] := by
            rw [hwD]
            have := RowIs.new (wC.setCell ⟨wr.heap.size + 1, 2, none⟩ (.slice (some ⟨wC.heap.size, 0, none⟩) 1 1)) 40 [.pointer pa]
            rw [World.size_setCell] at this
            exact this
          have HNEW : Hid (IsF (fun b => b < wD.heap.size ∧ some b ≠ (Value.slice (some ⟨gv, 0, none⟩) m vc).ownBlock) wD ⟨false, sk, [], [xa]⟩ (.pointer (some ⟨wr.heap.size + 1, 0, none⟩)) ∧ ⟨false, sk, [], [xa]⟩ = stepF (formsTo l j) ⟨sk, sA, sB, snm⟩) := by
            refine ⟨?_, by rw [HSF.out, if_neg hk2, if_pos hks]⟩
            have hgb : ∀ b, wr.heap.size ≤ b → some b ≠ (Value.slice (some ⟨gv, 0, none⟩) m vc).ownBlock := fun b hb e => by
              have h1 : b = gv := by simpa [Value.ownBlock] using e
              have h2 := HGL.out
              omega
            have hca := IsF.stay (fun b i u _ hc => kept HBD.out hc) (HOK1.out wD · HBD.out) xa _ HIA.out
            have hcb := IsF.stay (fun b i u _ hc => kept HBD.out hc) (HOK1.out wD · HBD.out) xb _ HIB.out
            refine isF_node.2 ⟨HK64.out, by simp, by unfold maxLen; simp, _, some ⟨wC.heap.size, 0, none⟩, 1, ⟨by omega, HNB.out _ rfl⟩, rfl, hfD.cell 0 _ rfl, hfD.cell 1 _ rfl, hfD.cell 2 _ rfl, fun i x hx => ?_⟩
            match i, hx with
            | 0, hx =>
              cases hx
              exact ⟨wC.heap.size, 0, _, ⟨by rw [hszD, HSC.out]; omega, hgb _ (by rw [HSC.out]; omega)⟩, rfl, by simp, hrD.cell 0 _ rfl, hca⟩
            | i + 1, hx => simp at hx
          have HWD := hide hwD
          have hszD2 : wC.heap.size + 1 = wD.heap.size := by rw [hszD, HSC.out]
          have HNWS : Hid ((wD.alloc (.cells #[.pointer (some ⟨wr.heap.size + 1, 0, none⟩)] 40)).heap[wC.heap.size + 1]? = some (.cells #[.pointer (some ⟨wr.heap.size + 1, 0, none⟩)] 40)) := by rw [hszD2]; exact heap_alloc_new wD _
          clear hszD2
          have fc0 := HFRC.out.cell 2 _ rfl
          have fz0 := HFRC.out.frozen 2
          have hlt2 : wr.heap.size + 1 < wC.heap.size := by rw [HSC.out]; omega
          clear hwD hszD hfD hrD
          rcases hks with rfl | rfl | rfl | rfl
          all_goals
            go_wp2_with (first | (rw [← HWD.out]; at_builtin; refine wpList_append_lies _ rfl (.tmp 71) (.tmp 73) 72 rfl w.heap.size 40 i0 _ 1 8 Tryd.underlying72 hi0 hz0 hz1 hz2 rfl (by decide) (.slice (some ⟨gv, 0, none⟩) m vc) m us rfl (HOWN.out _ HBD.out) ⟨wC.heap.size + 1, 0, none⟩ 1 1 [.pointer (some ⟨wr.heap.size + 1, 0, none⟩)] rfl rfl (World.news_of_block HNWS.out) HONE.out (by decide) (by unfold maxLen; omega) (by omega) (by have h1 := HBW.out.size; have h2 := HBD.out.size; simp; omega) (wD.heap.size + 1) (by simp) ?_; intro g5 cap5 wE hown hgrow hat hltg; have HE := hide (HFIN.out _ _ g5 cap5 wE HBD.out HNEW.out hown hgrow hat); clear hown hgrow hat) | (at_builtin; refine wpList_append_lies _ rfl (.tmp 71) (.tmp 73) 72 rfl w.heap.size 40 i0 _ 1 8 Tryd.underlying72 hi0 hz0 hz1 hz2 rfl (by decide) (.slice (some ⟨gv, 0, none⟩) m vc) m us rfl (HOWN.out _ HBD.out) ⟨wC.heap.size + 1, 0, none⟩ 1 1 [.pointer (some ⟨wr.heap.size + 1, 0, none⟩)] rfl rfl (World.news_of_block HNWS.out) HONE.out (by decide) (by unfold maxLen; omega) (by omega) (by have h1 := HBW.out.size; have h2 := HBD.out.size; simp; omega) (wD.heap.size + 1) (by simp) ?_; intro g5 cap5 wE hown hgrow hat hltg; have HE := hide (HFIN.out _ _ g5 cap5 wE HBD.out HNEW.out hown hgrow hat); clear hown hgrow hat))
            go_roundw
            case rel => exact ⟨j + 1, m + 1, _, _, cap5, by omega, by go_num, rfl, hide (by have := HM.out; omega), hide (by rw [List.length_append, HUL.out]; rfl), HE.out⟩
            case measure => simp [intOf]; omega
        · have hk1 := hks
          clear hks
          by_cases hks : sk = 4 ∨ sk = 5 ∨ sk = 7 ∨ sk = 8
          · obtain ⟨wD, hwD⟩ : ∃ wD, wD = (wC.setCell ⟨wr.heap.size + 1, 2, none⟩ (.slice (some ⟨wC.heap.size, 0, none⟩) 2 2)).alloc (.cells #[.pointer pa, .pointer pb] 40) := ⟨_, rfl⟩
            have HBD : Hid (Below wr.heap.size wr wD) := by rw [hwD]; exact (HBC.out.setCell (by show wr.heap.size ≤ wr.heap.size + 1; omega) _).alloc (by have := HBC.out.size; simpa using this) _
            have hszD : wD.heap.size = wr.heap.size + 3 := by rw [hwD]; simp [HSC.out]
            have hfD : RowIs wD (wr.heap.size + 1) 74 [.int .i64 sk, .string ⟨#[]⟩, .slice (some ⟨wC.heap.size, 0, none⟩) 2 2] := by rw [hwD]; exact (HFRC.out.set 2 _).alloc _
            have hrD : RowIs wD wC.heap.size 40 [.pointer pa, .pointer pb] := by
              rw [hwD]
              have := RowIs.new (wC.setCell ⟨wr.heap.size + 1, 2, none⟩ (.slice (some ⟨wC.heap.size, 0, none⟩) 2 2)) 40 [.pointer pa, .pointer pb]
              rw [World.size_setCell] at this
              exact this
            have HNEW : Hid (IsF (fun b => b < wD.heap.size ∧ some b ≠ (Value.slice (some ⟨gv, 0, none⟩) m vc).ownBlock) wD ⟨false, sk, [], [xa, xb]⟩ (.pointer (some ⟨wr.heap.size + 1, 0, none⟩)) ∧ ⟨false, sk, [], [xa, xb]⟩ = stepF (formsTo l j) ⟨sk, sA, sB, snm⟩) := by
              refine ⟨?_, by rw [HSF.out, if_neg hk2, if_neg hk1, if_pos hks]⟩
              have hgb : ∀ b, wr.heap.size ≤ b → some b ≠ (Value.slice (some ⟨gv, 0, none⟩) m vc).ownBlock := fun b hb e => by
                have h1 : b = gv := by simpa [Value.ownBlock] using e
                have h2 := HGL.out
                omega
              have hca := IsF.stay (fun b i u _ hc => kept HBD.out hc) (HOK1.out wD · HBD.out) xa _ HIA.out
              have hcb := IsF.stay (fun b i u _ hc => kept HBD.out hc) (HOK1.out wD · HBD.out) xb _ HIB.out
              refine isF_node.2 ⟨HK64.out, by simp, by unfold maxLen; simp, _, some ⟨wC.heap.size, 0, none⟩, 2, ⟨by omega, HNB.out _ rfl⟩, rfl, hfD.cell 0 _ rfl, hfD.cell 1 _ rfl, hfD.cell 2 _ rfl, fun i x hx => ?_⟩
              match i, hx with
              | 0, hx =>
                cases hx
                exact ⟨wC.heap.size, 0, _, ⟨by rw [hszD, HSC.out]; omega, hgb _ (by rw [HSC.out]; omega)⟩, rfl, by simp, hrD.cell 0 _ rfl, hca⟩
              | 1, hx =>
                cases hx
                exact ⟨wC.heap.size, 0, _, ⟨by rw [hszD, HSC.out]; omega, hgb _ (by rw [HSC.out]; omega)⟩, rfl, by simp, hrD.cell 1 _ rfl, hcb⟩
              | i + 2, hx => simp at hx
            have HWD := hide hwD
            have hszD2 : wC.heap.size + 1 = wD.heap.size := by rw [hszD, HSC.out]
            have HNWS : Hid ((wD.alloc (.cells #[.pointer (some ⟨wr.heap.size + 1, 0, none⟩)] 40)).heap[wC.heap.size + 1]? = some (.cells #[.pointer (some ⟨wr.heap.size + 1, 0, none⟩)] 40)) := by rw [hszD2]; exact heap_alloc_new wD _
            clear hszD2
            have fc0 := HFRC.out.cell 2 _ rfl
            have fz0 := HFRC.out.frozen 2
            have hlt2 : wr.heap.size + 1 < wC.heap.size := by rw [HSC.out]; omega
            clear hwD hszD hfD hrD
            rcases hks with rfl | rfl | rfl | rfl
            all_goals
              go_wp2_with (first | (rw [← HWD.out]; at_builtin; refine wpList_append_lies _ rfl (.tmp 71) (.tmp 73) 72 rfl w.heap.size 40 i0 _ 1 8 Tryd.underlying72 hi0 hz0 hz1 hz2 rfl (by decide) (.slice (some ⟨gv, 0, none⟩) m vc) m us rfl (HOWN.out _ HBD.out) ⟨wC.heap.size + 1, 0, none⟩ 1 1 [.pointer (some ⟨wr.heap.size + 1, 0, none⟩)] rfl rfl (World.news_of_block HNWS.out) HONE.out (by decide) (by unfold maxLen; omega) (by omega) (by have h1 := HBW.out.size; have h2 := HBD.out.size; simp; omega) (wD.heap.size + 1) (by simp) ?_; intro g5 cap5 wE hown hgrow hat hltg; have HE := hide (HFIN.out _ _ g5 cap5 wE HBD.out HNEW.out hown hgrow hat); clear hown hgrow hat) | (at_builtin; refine wpList_append_lies _ rfl (.tmp 71) (.tmp 73) 72 rfl w.heap.size 40 i0 _ 1 8 Tryd.underlying72 hi0 hz0 hz1 hz2 rfl (by decide) (.slice (some ⟨gv, 0, none⟩) m vc) m us rfl (HOWN.out _ HBD.out) ⟨wC.heap.size + 1, 0, none⟩ 1 1 [.pointer (some ⟨wr.heap.size + 1, 0, none⟩)] rfl rfl (World.news_of_block HNWS.out) HONE.out (by decide) (by unfold maxLen; omega) (by omega) (by have h1 := HBW.out.size; have h2 := HBD.out.size; simp; omega) (wD.heap.size + 1) (by simp) ?_; intro g5 cap5 wE hown hgrow hat hltg; have HE := hide (HFIN.out _ _ g5 cap5 wE HBD.out HNEW.out hown hgrow hat); clear hown hgrow hat))
              go_roundw
              case rel => exact ⟨j + 1, m + 1, _, _, cap5, by omega, by go_num, rfl, hide (by have := HM.out; omega), hide (by rw [List.length_append, HUL.out]; rfl), HE.out⟩
              case measure => simp [intOf]; omega
          · have hn3 : ¬ sk = 3 := fun h => hk1 (.inl h)
            have hn6 : ¬ sk = 6 := fun h => hk1 (.inr (.inl h))
            have hn9 : ¬ sk = 9 := fun h => hk1 (.inr (.inr (.inl h)))
            have hn10 : ¬ sk = 10 := fun h => hk1 (.inr (.inr (.inr h)))
            have hn4 : ¬ sk = 4 := fun h => hks (.inl h)
            have hn5 : ¬ sk = 5 := fun h => hks (.inr (.inl h))
            have hn7 : ¬ sk = 7 := fun h => hks (.inr (.inr (.inl h)))
            have hn8 : ¬ sk = 8 := fun h => hks (.inr (.inr (.inr h)))
            have HSX : Hid (stepF (formsTo l j) ⟨sk, sA, sB, snm⟩ = ⟨false, 1, snm, []⟩) := by rw [HSF.out, if_neg hk2, if_neg hk1, if_neg hks]; rfl
            obtain ⟨wD, hwD⟩ : ∃ wD, wD = ((wC.setCell ⟨wr.heap.size + 1, 0, none⟩ (.int .i64 1)).setCell ⟨wr.heap.size + 1, 1, none⟩ (.string ⟨snm.toArray⟩)).drew := ⟨_, rfl⟩
            have hw1 : wr.heap.size ≤ wr.heap.size + 1 := by omega
            have HBD : Hid (Below wr.heap.size wr wD) := by rw [hwD]; exact then_ ((HBC.out.setCell (by exact hw1) _).setCell (by exact hw1) _) (drewB _)
            have hszD : wD.heap.size = wC.heap.size := by rw [hwD]; simp
            have hfD : RowIs wD (wr.heap.size + 1) 74 [.int .i64 1, .string ⟨snm.toArray⟩, .slice none 0 0] := by rw [hwD]; exact RowIs.below ((HFRC.out.set 0 _).set 1 _) (drewB _)
            have HNEW : Hid (IsF (fun b => b < wD.heap.size ∧ some b ≠ (Value.slice (some ⟨gv, 0, none⟩) m vc).ownBlock) wD ⟨false, 1, snm, []⟩ (.pointer (some ⟨wr.heap.size + 1, 0, none⟩)) ∧ ⟨false, 1, snm, []⟩ = stepF (formsTo l j) ⟨sk, sA, sB, snm⟩) := by
              refine ⟨?_, HSX.out.symm⟩
              exact isF_node.2 ⟨by unfold I64; omega, HNM.out, by simp, _, none, 0, ⟨by rw [hszD, HSC.out]; omega, HNB.out _ rfl⟩, rfl, hfD.cell 0 _ rfl, hfD.cell 1 _ rfl, hfD.cell 2 _ rfl, fun i x hx => by simp at hx⟩
            have HWD := hide hwD
            have HNWS : Hid ((wD.alloc (.cells #[.pointer (some ⟨wr.heap.size + 1, 0, none⟩)] 40)).heap[wD.heap.size]? = some (.cells #[.pointer (some ⟨wr.heap.size + 1, 0, none⟩)] 40)) := heap_alloc_new wD _
            have fc0 := HFRC.out.cell 0 _ rfl
            have fc1 := HFRC.out.cell 1 _ rfl
            have fz0 := HFRC.out.frozen 0
            have fz1 := HFRC.out.frozen 1
            have sk3 := HSRC.out.cell 3 _ rfl
            have hne : wr.heap.size + 1 ≠ wr.heap.size := by omega
            clear hwD hszD hfD hk1 hks
            go_wp2_with fail
            go_region
            rw [← HWD.out]
            have HWS : Hid (wD.heap.size = wC.heap.size) := by rw [HWD.out]; show _ = _; simp
            clear HWD
            go_wp2_with (at_builtin; refine wpList_append_lies _ rfl (.tmp 71) (.tmp 73) 72 rfl w.heap.size 40 i0 _ 1 8 Tryd.underlying72 hi0 hz0 hz1 hz2 rfl (by decide) (.slice (some ⟨gv, 0, none⟩) m vc) m us rfl (HOWN.out _ HBD.out) ⟨wD.heap.size, 0, none⟩ 1 1 [.pointer (some ⟨wr.heap.size + 1, 0, none⟩)] rfl rfl (World.news_of_block HNWS.out) HONE.out (by decide) (by unfold maxLen; omega) (by omega) (by have h1 := HBW.out.size; have h2 := HBD.out.size; simp; omega) (wD.heap.size + 1) (by simp) ?_; intro g5 cap5 wE hown hgrow hat hltg; have HE := hide (HFIN.out _ _ g5 cap5 wE HBD.out HNEW.out hown hgrow hat); clear hown hgrow hat)
            go_roundw
            case rel => exact ⟨j + 1, m + 1, _, _, cap5, by omega, by go_num, rfl, hide (by have := HM.out; omega), hide (by rw [List.length_append, HUL.out]; rfl), HE.out⟩
            case measure => simp [intOf]; omega
    · have hjn : j = n := by omega
      have hlen : (formsTo l j).length = m := by rw [HM.out]; exact formsTo_len l j (by rw [← HN.out]; omega)
      obtain ⟨uz, huz⟩ : ∃ u, us[j]? = some u := ⟨_, List.getElem?_eq_getElem (by rw [HUL.out, HM.out]; omega)⟩
      have hxz : (formsTo l j)[j]? = some ((formsTo l j).getD j tru) := by rw [List.getD_eq_getElem?_getD, List.getElem?_eq_getElem (by rw [hlen, HM.out]; omega)]; rfl
      have hiz := HA.out.2.2.2 _ _ _ huz hxz
      have HIZ : Hid (IsF (fun _ => True) wr (formula l) uz) := by
        have : formula l = (formsTo l j).getD j tru := by unfold formula; rw [← HN.out, ← hjn]
        rw [this]
        exact hiz.weak fun _ _ => trivial
      obtain ⟨pz, hpz⟩ := hiz.ptr
      subst hpz
      have hcz := HCU.out _ _ huz
      have HMJ : Hid ((m : Int) - 1 = (j : Int)) := by have := HM.out; show _ = _; omega
      have hmj := HMJ.out
      have hjm : (j : Int) < (m : Int) := by omega
      clear huz hxz hiz hlen
      subst hjn
      go_wp2_with fail
      go_ret
      exact ⟨_, rfl, HIZ.out, HBW.out⟩
end Ls
end Go.Proofs.YtmdblokmplbpmaaDoor
