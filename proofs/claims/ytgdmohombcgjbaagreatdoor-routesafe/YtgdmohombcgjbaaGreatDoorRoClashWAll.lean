/-
  The walks of slices.IndexFunc and ContainsFunc over numbers and points, and of package route's Clash. The walk of package route's Clash.
-/
import Derived.Test.YtgdmohombcgjbaaGreatDoorRoAmongAll
import Derived.Deep.Cut
namespace Go.Proofs.YtgdmohombcgjbaaGreatDoor
section
namespace Ro
open Go.RowKit
set_option maxHeartbeats 2000000 in
set_option maxRecDepth 100000 in
theorem indexF_any (l : List Int) (sv f : Value) (D : Int → Prop) (p : Int → Bool) (w : World) (h : Ints w sv l) (hD : ∀ x, x ∈ l → D x) (hf : SPred w f D p) :
    Calls Tryz.prog 73 #[sv, f] w fun e w' => e = .returned (.int .i64 (idx p l)) ∧ Below w.heap.size w w' := by
  have hlen := h.len
  unfold maxLen at hlen
  have HR := hide h
  obtain ⟨a, cp, rfl⟩ := h.slice
  obtain ⟨n, hn⟩ : ∃ n, n = l.length := ⟨_, rfl⟩
  have HN := hide hn
  rw [← hn] at hlen HR ⊢
  obtain ⟨K, cs, rfl, hcs, hent, hcall⟩ := hf
  have hent' : ∀ (args : Array Value) (w : World), (callFunc K args).run Tryz.prog w = .ok (.enter K args) w := hent
  have HC := hide hcall
  have HDD := hide hD
  clear hcall hent h hn hD
  rcases hcs with ⟨c, rfl⟩ | ⟨c, d, rfl⟩
  all_goals
    go_enter Tryz.func73, Tryz.ntmps73
    go_wp2_with fail
    go_loopw [8] (fun i wr => ∃ k : Nat, k ≤ n ∧ i = .int .i64 (k : Int) ∧ Hid ((l.take k).any p = false) ∧ Hid (Below w.heap.size w wr)) (fun i _ => n - (intOf i).toNat)
    case atStart => exact ⟨0, Nat.zero_le _, rfl, rfl, Below.refl _ _⟩
    case round =>
      obtain ⟨k, hk, rfl, HT, HB⟩ := hrel
      by_cases hlt : k < n
      · have hkl : k < l.length := by rw [← HN.out]; exact hlt
        obtain ⟨g, o, rfl, c0, hi⟩ := (HR.out.below HB.out).cell k _ (List.getElem?_eq_getElem hkl)
        have HCL := hide (HC.out l[k] wr HB.out (HDD.out _ (List.getElem_mem hkl)))
        have HSU : Hid ((l.take (k + 1)).any p = p l[k]) := by show _ = _; rw [List.take_succ_eq_append_getElem hkl, List.any_append, HT.out]; simp
        have HHIT := hide (idx_hit p l k hkl HT.out)
        clear hi
        generalize l[k] = x at *
        go_wp2_with fail
        refine HCL.out.mono ?_
        rintro e w1 ⟨rfl, hb1⟩
        have HB1 := hide (HB.out.trans (hb1.mono HB.out.size))
        clear hb1 HCL
        cases hp : p x with
        | true =>
          have HA := hide (HHIT.out hp)
          clear hp
          go_wp2_with fail
          go_ret
          exact ⟨by rw [HA.out]; rfl, HB1.out⟩
        | false =>
          rw [hp] at HSU
          clear hp
          go_wp2_with fail
          go_roundw
          case rel => exact ⟨k + 1, by omega, by go_num, HSU.out, HB1.out⟩
          case measure => simp [intOf]; omega
      · have hkn : k = n := by omega
        have HA : Hid (idx p l = -1) := idx_none p l (by have := HT.out; rw [List.take_of_length_le (by rw [← HN.out]; omega)] at this; exact this)
        subst hkn
        go_wp2_with fail
        go_ret
        exact ⟨by rw [HA.out]; rfl, HB.out⟩
set_option maxHeartbeats 2000000 in
set_option maxRecDepth 100000 in
theorem containsF_any (l : List Int) (sv f : Value) (D : Int → Prop) (p : Int → Bool) (w : World) (h : Ints w sv l) (hD : ∀ x, x ∈ l → D x) (hf : SPred w f D p) :
    Calls Tryz.prog 44 #[sv, f] w fun e w' => e = .returned (.bool (l.any p)) ∧ Below w.heap.size w w' := by
  have HI := hide (indexF_any l sv f D p w h hD hf)
  have HA := hide (idx_any p l)
  obtain ⟨a, cp, rfl⟩ := h.slice
  obtain ⟨K, cs, rfl, hcs, _, _⟩ := hf
  generalize idx p l = r at *
  generalize l.any p = y at *
  generalize l.length = n at *
  clear h hD
  rcases hcs with ⟨c, rfl⟩ | ⟨c, d, rfl⟩
  all_goals
    go_enter Tryz.func44, Tryz.ntmps44
    go_wp2_with fail
    refine HI.out.mono ?_
    rintro e w1 ⟨rfl, hb1⟩
    have HB := hide hb1
    clear hb1 HI
    go_wp2_with fail
    go_ret
    exact ⟨by rw [← HA.out]; rfl, HB.out⟩
/-- where a list's first one is of which something holds: -1: nowhere -/
def idxP (p : Int × Bool → Bool) (l : List (Int × Bool)) : Int := (l.findIdx? p).elim (-1) fun j => (j : Int)
theorem idxP_hit (p : Int × Bool → Bool) (l : List (Int × Bool)) (k : Nat) (h : k < l.length) (h1 : (l.take k).any p = false) (h2 : p l[k] = true) : idxP p l = (k : Int) := by
  have : l.findIdx? p = some k := by
    rw [List.findIdx?_eq_some_iff_getElem]
    refine ⟨h, h2, fun j hj => ?_⟩
    rw [List.any_eq_false] at h1
    exact h1 _ (List.mem_take_iff_getElem.2 ⟨j, by omega, rfl⟩)
  rw [idxP, this]; rfl
theorem idxP_none (p : Int × Bool → Bool) (l : List (Int × Bool)) (h : l.any p = false) : idxP p l = -1 := by
  have : l.findIdx? p = none := by
    rw [List.findIdx?_eq_none_iff]
    rw [List.any_eq_false] at h
    intro x hx
    simpa using h x hx
  rw [idxP, this]; rfl
theorem idxP_any (p : Int × Bool → Bool) (l : List (Int × Bool)) : decide (0 ≤ idxP p l) = l.any p := by
  unfold idxP
  cases h : l.findIdx? p with
  | none =>
    rw [List.findIdx?_eq_none_iff] at h
    have : l.any p = false := by rw [List.any_eq_false]; intro x hx; simpa using h x hx
    rw [this]; rfl
  | some j =>
    have : l.any p = true := by
      obtain ⟨h1, h2, _⟩ := List.findIdx?_eq_some_iff_getElem.1 h
      exact List.any_eq_true.2 ⟨_, List.getElem_mem h1, h2⟩
    rw [this]
    simp
set_option maxHeartbeats 2000000 in
set_option maxRecDepth 100000 in
theorem indexP_any (l : List (Int × Bool)) (sv f : Value) (p : Int × Bool → Bool) (w : World) (h : Pts w sv l) (hf : QPred w f p) :
    Calls Tryz.prog 74 #[sv, f] w fun e w' => e = .returned (.int .i64 (idxP p l)) ∧ Below w.heap.size w w' := by
  have hlen := h.len
  unfold maxLen at hlen
  have HR := hide h
  obtain ⟨a, cp, rfl⟩ := h.slice
  obtain ⟨n, hn⟩ : ∃ n, n = l.length := ⟨_, rfl⟩
  have HN := hide hn
  rw [← hn] at hlen HR ⊢
  obtain ⟨K, c, rfl, hent, hcall⟩ := hf
  have hent' : ∀ (args : Array Value) (w : World), (callFunc K args).run Tryz.prog w = .ok (.enter K args) w := hent
  have HC := hide hcall
  have HDD := hide (fun x hx => h.i64 x hx)
  clear hcall hent h hn
  all_goals
    go_enter Tryz.func74, Tryz.ntmps74
    go_wp2_with fail
    go_loopw [8] (fun i wr => ∃ k : Nat, k ≤ n ∧ i = .int .i64 (k : Int) ∧ Hid ((l.take k).any p = false) ∧ Hid (Below w.heap.size w wr)) (fun i _ => n - (intOf i).toNat)
    case atStart => exact ⟨0, Nat.zero_le _, rfl, rfl, Below.refl _ _⟩
    case round =>
      obtain ⟨k, hk, rfl, HT, HB⟩ := hrel
      by_cases hlt : k < n
      · have hkl : k < l.length := by rw [← HN.out]; exact hlt
        obtain ⟨g, o, rfl, c0, c1, hi⟩ := (HR.out.below HB.out).cell k _ (List.getElem?_eq_getElem hkl)
        have HCL := hide (HC.out l[k] wr HB.out (HDD.out _ (List.getElem_mem hkl)))
        have HSU : Hid ((l.take (k + 1)).any p = p l[k]) := by show _ = _; rw [List.take_succ_eq_append_getElem hkl, List.any_append, HT.out]; simp
        have HHIT := hide (idxP_hit p l k hkl HT.out)
        clear hi
        unfold ptV at HCL
        generalize l[k] = x at *
        go_wp2_with fail
        refine HCL.out.mono ?_
        rintro e w1 ⟨rfl, hb1⟩
        have HB1 := hide (HB.out.trans (hb1.mono HB.out.size))
        clear hb1 HCL
        cases hp : p x with
        | true =>
          have HA := hide (HHIT.out hp)
          clear hp
          go_wp2_with fail
          go_ret
          exact ⟨by rw [HA.out]; rfl, HB1.out⟩
        | false =>
          rw [hp] at HSU
          clear hp
          go_wp2_with fail
          go_roundw
          case rel => exact ⟨k + 1, by omega, by go_num, HSU.out, HB1.out⟩
          case measure => simp [intOf]; omega
      · have hkn : k = n := by omega
        have HA : Hid (idxP p l = -1) := idxP_none p l (by have := HT.out; rw [List.take_of_length_le (by rw [← HN.out]; omega)] at this; exact this)
        subst hkn
        go_wp2_with fail
        go_ret
        exact ⟨by rw [HA.out]; rfl, HB.out⟩
set_option maxHeartbeats 2000000 in
set_option maxRecDepth 100000 in
theorem containsP_any (l : List (Int × Bool)) (sv f : Value) (p : Int × Bool → Bool) (w : World) (h : Pts w sv l) (hf : QPred w f p) :
    Calls Tryz.prog 45 #[sv, f] w fun e w' => e = .returned (.bool (l.any p)) ∧ Below w.heap.size w w' := by
  have HI := hide (indexP_any l sv f p w h hf)
  have HA := hide (idxP_any p l)
  obtain ⟨a, cp, rfl⟩ := h.slice
  obtain ⟨K, c, rfl, _, _⟩ := hf
  generalize idxP p l = r at *
  generalize l.any p = y at *
  generalize l.length = n at *
  clear h
  all_goals
    go_enter Tryz.func45, Tryz.ntmps45
    go_wp2_with fail
    refine HI.out.mono ?_
    rintro e w1 ⟨rfl, hb1⟩
    have HB := hide hb1
    clear hb1 HI
    go_wp2_with fail
    go_ret
    exact ⟨by rw [← HA.out]; rfl, HB.out⟩
set_option maxHeartbeats 2000000 in
set_option maxRecDepth 100000 in
theorem clash1_any (c : Nat) (f : Value) (p : Int × Bool → Bool) (x : Int × Bool) (hx : I64 x.1) (w : World) (c0 : w.cell? ⟨c, 0, none⟩ = some f) (hf : QPred w f p) :
    Calls Tryz.prog 43 #[ptV x, .pointer (some ⟨c, 0, none⟩)] w fun e w' => e = .returned (.bool (p (x.1, !x.2))) ∧ Below w.heap.size w w' := by
  obtain ⟨w1, hw1⟩ : ∃ w1, w1 = w.alloc (.cells #[.int .i64 x.1, .bool x.2] 61) := ⟨_, rfl⟩
  have HB : Hid (Below w.heap.size w w1) := by rw [hw1]; exact newB _ _
  have c1 := kept HB.out c0
  have hbl := World.block_lt_of_cell? _ _ c0
  obtain ⟨K, d, rfl, hent, hcall⟩ := hf
  have HC := hide (hcall (x.1, !x.2) w1 HB.out hx)
  unfold ptV at HC ⊢
  generalize p (x.1, !x.2) = y at *
  have HW := hide hw1
  clear hcall hw1
  obtain ⟨x1, x2⟩ := x
  simp only at HC HW hx
  have HWI : Hid (w1.cell? ⟨w.heap.size, 0, none⟩ = some (.int .i64 x1) ∧ w1.cell? ⟨w.heap.size, 1, none⟩ = some (.bool x2)) := by
    rw [HW.out]
    exact ⟨(RowIs.new w 61 [.int .i64 x1, .bool x2]).cell 0 _ rfl, (RowIs.new w 61 [.int .i64 x1, .bool x2]).cell 1 _ rfl⟩
  go_enter Tryz.func43, Tryz.ntmps43
  go_wp2_with fail
  rw [← HW.out]
  refine HC.out.mono ?_
  rintro e w2 ⟨rfl, hb2⟩
  have HB2 := hide (then_ HB.out hb2)
  clear hb2 HC
  go_wp2_with fail
  go_ret
  exact ⟨rfl, HB2.out⟩
end Ro
end
section
namespace Ro
open Go.RowKit
theorem drew_below {w W : World} (h : Below w.heap.size w W) : Below w.heap.size w W.drew := ⟨h.os, h.tape, h.output, h.size, h.block⟩
/-- what stands behind Clash's first row -/
def Cl (w : World) (a : Rt) (f p : Value) (W : World) : Prop := Below w.heap.size w W ∧ AmI w.heap.size W f (fun x => a.secs.contains x) ∧ ∃ c g, p = .pointer (some ⟨c, 0, none⟩) ∧ W.cell? ⟨c, 0, none⟩ = some g ∧ AmP w.heap.size W g (fun x => a.pts.contains x)
theorem cl_last {w w3 : World} {a : Rt} {f g : Value} {t : TypeId} (hb : Below w.heap.size w w3) (hf : AmI w.heap.size w3 f (fun x => a.secs.contains x)) (hg : AmP w.heap.size w3 g (fun x => a.pts.contains x)) : Cl w a f (.pointer (some ⟨w3.heap.size, 0, none⟩)) (w3.alloc (.cells #[g] t)) :=
  ⟨then_ hb (newB _ _), hf.below (newB _ _), _, g, rfl, (RowIs.new w3 t [g]).cell 0 _ rfl, hg.below (newB _ _)⟩
theorem cl_set {w w3 : World} {a : Rt} {f g : Value} {b q1 q2 : Nat} {v : Value} (hb : Below w.heap.size w w3) (hwb : w.heap.size ≤ b) (hf : AmI q1 w3 f (fun x => a.secs.contains x)) (hq : (b < q1 ∨ AmI w.heap.size (w3.setCell ⟨b, 0, none⟩ g) f (fun x => a.secs.contains x))) (hq1 : w.heap.size ≤ q1) (hg : AmP q2 w3 g (fun x => a.pts.contains x)) (hq2 : b < q2) (hc : w3.cell? ⟨b, 0, none⟩ = some v) : Cl w a f (.pointer (some ⟨b, 0, none⟩)) (w3.setCell ⟨b, 0, none⟩ g) :=
  ⟨hb.setCell hwb _, hq.elim (fun h => (hf.set b 0 g h).mono hq1) id, b, g, rfl, World.cell?_setCell_same w3 _ _ hc, (hg.set b 0 g hq2).mono (by omega)⟩
set_option maxHeartbeats 4000000 in
set_option maxRecDepth 100000 in
theorem Clash_any (a b : Rt) (sa pa sb pb : Value) (w : World) (hsa : Ints w sa a.secs) (hpa : Pts w pa a.pts) (hsb : Ints w sb b.secs) (hpb : Pts w pb b.pts) (la : a.secs.length ≤ 1000) (lp : a.pts.length ≤ 1000) :
    Calls Tryz.prog 20 #[.agg #[sa, pa], .agg #[sb, pb]] w fun e w' => e = .returned (.bool (clash a b)) ∧ Below w.heap.size w w' := by
  obtain ⟨wA, hwA⟩ : ∃ wA, wA = (w.alloc (.cells #[sa, pa] 54)).alloc (.cells #[sb, pb] 54) := ⟨_, rfl⟩
  have HBA : Hid (Below w.heap.size w wA) := by rw [hwA]; exact then_ (newB _ _) (newB _ _)
  have ra : RowIs wA w.heap.size 54 [sa, pa] := by rw [hwA]; exact (RowIs.new _ _ _).alloc _
  have rb : RowIs wA (w.heap.size + 1) 54 [sb, pb] := by
    rw [hwA]
    have := RowIs.new (w.alloc (.cells #[sa, pa] 54)) 54 [sb, pb]
    rw [World.size_alloc] at this
    exact this
  have HK : Hid (∀ W, Below wA.heap.size wA W → W.cell? ⟨w.heap.size, 0, none⟩ = some sa ∧ W.cell? ⟨w.heap.size, 1, none⟩ = some pa) := fun W hW => ⟨kept hW (ra.cell 0 _ rfl), kept hW (ra.cell 1 _ rfl)⟩
  have HKB : Hid (∀ W, Below wA.heap.size wA W → W.cell? ⟨w.heap.size + 1, 0, none⟩ = some sb ∧ W.cell? ⟨w.heap.size + 1, 1, none⟩ = some pb) := fun W hW => ⟨kept hW (rb.cell 0 _ rfl), kept hW (rb.cell 1 _ rfl)⟩
  have HI := hide (fun W (hW : Below wA.heap.size wA W) => amongI_any a.secs sa W ((hsa.below HBA.out).below hW) la)
  have HP := hide (fun W (hW : Below wA.heap.size wA W) => amongP_any a.pts pa W ((hpa.below HBA.out).below hW) lp)
  have HSB := hide (hsb.below HBA.out)
  have HPB := hide (hpb.below HBA.out)
  obtain ⟨sa1, sa2, rfl⟩ := hsa.slice
  obtain ⟨pa1, pa2, rfl⟩ := hpa.slice
  obtain ⟨sb1, sb2, rfl⟩ := hsb.slice
  obtain ⟨pb1, pb2, rfl⟩ := hpb.slice
  have HWA := hide hwA
  clear hwA ra rb hsa hpa hsb hpb
  go_enter Tryz.func20, Tryz.ntmps20
  go_upto_region 1 with fail
  rw [← HWA.out]
  obtain ⟨x0, x1⟩ := HK.out wA (Below.refl _ _)
  have hax : w.heap.size < wA.heap.size := World.block_lt_of_cell? _ _ x0
  go_cut [5, 6] from 8 (fun f p wx => Cl wA a f p wx)
  case first =>
    have HD : Hid (Below wA.heap.size wA wA.drew) := drewB wA
    have yA : ¬ w.heap.size = wA.heap.size := Nat.ne_of_lt hax
    have HDB : Hid (∀ o, Below wA.heap.size wA (wA.drew.alloc o)) := fun o => HD.out.alloc (Nat.le_refl _) _
    have HDC : Hid (∀ o, Below wA.heap.size wA (wA.alloc o).drew) := fun o => HDB.out o
    have HND : Hid (∀ (W W' : World), Below (W.alloc (.cells #[.nilFunc] 107)).heap.size (W.alloc (.cells #[.nilFunc] 107)) W' → W'.cell? ⟨W.heap.size, 0, none⟩ = some .nilFunc ∧ W'.frozen? ⟨W.heap.size, 0, none⟩ = false ∧ W.heap.size < W'.heap.size) := fun W W' h => by
      have hr := (RowIs.new W 107 [.nilFunc]).below h
      exact ⟨hr.cell 0 _ rfl, hr.frozen 0, hr.lt⟩
    have HNK : Hid (∀ (b : Nat) (W W' : World), (W.cell? ⟨b, 0, none⟩ = some .nilFunc ∧ W.frozen? ⟨b, 0, none⟩ = false ∧ b < W.heap.size) → Below W.heap.size W W' → W'.cell? ⟨b, 0, none⟩ = some .nilFunc ∧ W'.frozen? ⟨b, 0, none⟩ = false ∧ b < W'.heap.size) := fun b W W' h hb => ⟨kept hb h.1, (hb.frozen h.2.2).trans h.2.1, Nat.lt_of_lt_of_le h.2.2 hb.size⟩
    go_region_held3 (fun W => W.cell? ⟨w.heap.size, 0, none⟩ = some (.slice sa1 a.secs.length sa2) ∧ W.cell? ⟨w.heap.size, 1, none⟩ = some (.slice pa1 a.pts.length pa2)) ((refine HK.out _ ?_; repeat (first | exact HD.out | exact HB3.out | exact HB2.out | exact Below.refl _ _ | refine drew_below ?_ | refine Below.setCell ?_ (by first | exact HB3.out.size | exact HB2.out.size | exact Nat.le_refl _) _ | refine Below.alloc ?_ (by first | exact Nat.le_refl _ | exact HB3.out.size | exact HB2.out.size | exact HD.out.size) _))) ((first
      | (go_at_call 41; (with_reducible refine (HI.out _ HD.out).mono ?_); rintro e w2 ⟨f2, rfl, ⟨c2, b2, n2, rfl, e21, e22, e23, e24⟩, hb2⟩; have hs2 : AmI _ w2 _ (fun x => a.secs.contains x) := ⟨c2, b2, n2, rfl, e21, e22, e23, e24⟩; clear e21 e22 e23 e24; have HB2 : Hid (Below wA.heap.size wA w2) := HD.out.trans hb2; have HS2 := hide hs2; have z2 : w.heap.size < w2.heap.size := Nat.lt_of_lt_of_le hax HB2.out.size; have y2 : ¬ w.heap.size = w2.heap.size := Nat.ne_of_lt z2; clear hs2 hb2)
      | (go_at_call 41; (with_reducible refine (HI.out _ (HDB.out _)).mono ?_); rintro e w2 ⟨f2, rfl, ⟨c2, b2, n2, rfl, e21, e22, e23, e24⟩, hb2⟩; have hs2 : AmI _ w2 _ (fun x => a.secs.contains x) := ⟨c2, b2, n2, rfl, e21, e22, e23, e24⟩; clear e21 e22 e23 e24; have HB2 : Hid (Below wA.heap.size wA w2) := (HDB.out _).trans (hb2.mono (by simp)); have HS2 := hide hs2; have z2 : w.heap.size < w2.heap.size := Nat.lt_of_lt_of_le hax HB2.out.size; have y2 : ¬ w.heap.size = w2.heap.size := Nat.ne_of_lt z2; have HN2 : Hid (w2.cell? ⟨wA.heap.size, 0, none⟩ = some .nilFunc ∧ w2.frozen? ⟨wA.heap.size, 0, none⟩ = false ∧ wA.heap.size < w2.heap.size) := HND.out wA.drew w2 hb2; obtain ⟨s0, s1, s2⟩ := HN2.out; clear hs2 hb2)
      | (go_at_call 41; (with_reducible refine (HI.out _ (HDC.out _)).mono ?_); rintro e w2 ⟨f2, rfl, ⟨c2, b2, n2, rfl, e21, e22, e23, e24⟩, hb2⟩; have hs2 : AmI _ w2 _ (fun x => a.secs.contains x) := ⟨c2, b2, n2, rfl, e21, e22, e23, e24⟩; clear e21 e22 e23 e24; have HB2 : Hid (Below wA.heap.size wA w2) := (HDC.out _).trans (hb2.mono (by simp)); have HS2 := hide hs2; have z2 : w.heap.size < w2.heap.size := Nat.lt_of_lt_of_le hax HB2.out.size; have y2 : ¬ w.heap.size = w2.heap.size := Nat.ne_of_lt z2; have HN2 : Hid (w2.cell? ⟨wA.heap.size, 0, none⟩ = some .nilFunc ∧ w2.frozen? ⟨wA.heap.size, 0, none⟩ = false ∧ wA.heap.size < w2.heap.size) := HND.out wA.drew w2 hb2; obtain ⟨s0, s1, s2⟩ := HN2.out; clear hs2 hb2)
      | (go_at_call 42; (with_reducible refine (HP.out _ HB2.out).mono ?_); rintro e w3 ⟨f3, rfl, ⟨c3, b3, n3, rfl, e31, e32, e33, e34⟩, hb3⟩; have hs3 : AmP _ w3 _ (fun x => a.pts.contains x) := ⟨c3, b3, n3, rfl, e31, e32, e33, e34⟩; clear e31 e32 e33 e34; have HB3 : Hid (Below wA.heap.size wA w3) := then_ HB2.out hb3; have z3 : w.heap.size < w3.heap.size := Nat.lt_of_lt_of_le hax HB3.out.size; have y3 : ¬ w.heap.size = w3.heap.size := Nat.ne_of_lt z3; have HQ3 := hide hs3; have HS3 := hide (HS2.out.below hb3); first | (have HN3 := hide (HNK.out _ _ _ HN2.out hb3); obtain ⟨t0, t1, t2⟩ := HN3.out) | skip; clear hs3 hb3)
      | (go_at_call 42; (with_reducible refine (HP.out _ (HB2.out.alloc HB2.out.size _)).mono ?_); rintro e w3 ⟨f3, rfl, ⟨c3, b3, n3, rfl, e31, e32, e33, e34⟩, hb3⟩; have hs3 : AmP _ w3 _ (fun x => a.pts.contains x) := ⟨c3, b3, n3, rfl, e31, e32, e33, e34⟩; clear e31 e32 e33 e34; have HB3 : Hid (Below wA.heap.size wA w3) := then_ (then_ HB2.out (newB _ _)) hb3; have z3 : w.heap.size < w3.heap.size := Nat.lt_of_lt_of_le hax HB3.out.size; have y3 : ¬ w.heap.size = w3.heap.size := Nat.ne_of_lt z3; have HQ3 := hide hs3; have HS3 := hide (HS2.out.below (then_ (newB _ _) hb3)); have HX23 : Hid (Below w2.heap.size w2 w3) := then_ (newB _ _) hb3; have HN3 := hide (HND.out w2 w3 hb3); obtain ⟨t0, t1, t2⟩ := HN3.out; clear hs3 hb3)))
    all_goals go_wp2_with fail
    all_goals go_meet
    · exact cl_last HB3.out HS3.out (HQ3.out.mono HB2.out.size)
    · exact cl_set HB3.out HB2.out.size HS3.out (.inr (HS2.out.below (HX23.out.setCell (Nat.le_refl _) _))) (Nat.le_refl _) HQ3.out (by simp) t0
    · exact cl_set HB3.out (Nat.le_refl _) HS3.out (.inl (by show _ < ((wA.alloc _).drew).heap.size; simp)) (by show _ ≤ ((wA.alloc _).drew).heap.size; simp) HQ3.out s2 t0
  case rest =>
    obtain ⟨hb, hI, c, g, rfl, c0, hQ⟩ := hcut
    have HB := hide hb
    have HCS := hide (containsF_any b.secs _ _ I64 (fun x => a.secs.contains x) wc (HSB.out.below hb) (fun x hx => (HSB.out.below hb).i64 x hx) hI.spred)
    have HQP : Hid (QPred wc (.func (.func 43) #[] #[.pointer (some ⟨c, 0, none⟩)]) (fun x => a.pts.contains (x.1, !x.2))) :=
      ⟨_, _, rfl, fun args w => by kernel_rfl, fun x W hW hx => clash1_any c g (fun x => a.pts.contains x) x hx W (kept hW c0) (hQ.below hW).qpred⟩
    have HCP := hide (fun W (hW : Below wc.heap.size wc W) => containsP_any b.pts _ _ (fun x => a.pts.contains (x.1, !x.2)) W ((HPB.out.below hb).below hW) (HQP.out.below hW))
    obtain ⟨y0, y1⟩ := HKB.out wc hb
    have HKC : Hid (∀ W, Below wc.heap.size wc W → W.cell? ⟨w.heap.size + 1, 1, none⟩ = some (.slice pb1 b.pts.length pb2)) := fun W hW => kept hW y1
    obtain ⟨c2, b2, n2, rfl, -⟩ := hI
    have HCL : Hid (clash a b = ((b.secs.any fun x => a.secs.contains x) || (b.pts.any fun x => a.pts.contains (x.1, !x.2)))) := rfl
    generalize (b.secs.any fun x => a.secs.contains x) = r1 at *
    generalize (b.pts.any fun x => a.pts.contains (x.1, !x.2)) = r2 at *
    have HB0 : Hid (Below w.heap.size w wc) := then_ HBA.out hb
    clear hb hQ HI HP HK HSB HPB HKB HQP c0 x0 x1 hax HWA HB HBA
    go_wp2_with fail
    refine HCS.out.mono ?_
    rintro e w4 ⟨rfl, hb4⟩
    have HB4 := hide (then_ HB0.out hb4)
    have z1 := HKC.out w4 hb4
    have HC4 := hide (HCP.out w4 hb4)
    clear hb4 HCS
    cases r1 with
    | true =>
      go_wp2_with fail
      go_ret
      exact ⟨by rw [HCL.out]; rfl, HB4.out⟩
    | false =>
      go_wp2_with fail
      refine HC4.out.mono ?_
      rintro e w5 ⟨rfl, hb5⟩
      have HB5 := hide (then_ HB4.out hb5)
      clear hb5
      go_wp2_with fail
      go_ret
      exact ⟨by rw [HCL.out, Bool.false_or]; rfl, HB5.out⟩
end Ro
end
end Go.Proofs.YtgdmohombcgjbaaGreatDoor
