/-
  The walks of package prop's Check and of its closure. The walk of the statement RouteSafe: the interlocking is safe. What the walks are told of routes that came in. What the walk is told of a table that came in.
-/
import Derived.Test.YtgdmohombcgjbaaGreatDoorPrGoodAll
import Derived.Test.YtgdmohombcgjbaaGreatDoorRoSfW
import Derived.Test.YtgdmohombcgjbaaGreatDoorRoSafeSAll
import Derived.Test.YtgdmohombcgjbaaGreatDoorNaEachAll
import Derived.Test.YtgdmohombcgjbaaGreatDoorRcNextAll
import Derived.Test.YtgdmohombcgjbaaGreatDoorRoCheckWAll
import Derived.Deep.Strs
import Derived.ChangeSlices
import Derived.ChangeSame
import Derived.ProofKit
import Derived.SizedLaws
namespace Go.Proofs.YtgdmohombcgjbaaGreatDoor
section
open Go.RowKit
namespace Pr
/-- how long one waits where nothing is asked for but always -/
def wtC (row : Nat → List Bool) (p : Nat × Nat) (i : Nat) : Nat := waits 0 true ((row p.1).getD i false)
end Pr
set_option maxHeartbeats 2000000 in
set_option maxRecDepth 100000 in
theorem check1_any (w0 : World) (bg g S I : Nat) (us : List Nat) (row : Nat → List Bool) (p : Nat × Nat) (i : Nat) (w : World) (hc : w.cell? ⟨bg, 0, none⟩ = some (.slice (some ⟨g, 0, none⟩) S S)) (h : GT w0 g S I us row w) (hus : us.length = S) (hp : p.1 < S) (hi : i < I) :
    Calls Tryz.prog 29 #[.agg #[.int .i64 (p.1 : Int), .int .i64 (p.2 : Int)], .int .i64 (i : Int), .pointer (some ⟨bg, 0, none⟩)] w fun e w' => e = .returned (.int .i64 (Pr.wtC row p i : Int)) ∧ Below w.heap.size w w' := by
  obtain ⟨b, hb⟩ : ∃ b, us[p.1]? = some b := ⟨_, List.getElem?_eq_getElem (by omega)⟩
  obtain ⟨hr, _⟩ := h.rows _ b hb
  have hl := h.len p.1 (by omega)
  have r0 := h.top.cell p.1 (.slice (some ⟨b, 0, none⟩) I I) (by rw [List.getElem?_append_left (by simp; omega), List.getElem?_map, hb]; rfl)
  have r1 := hr.cell i _ (show (row p.1)[i]? = some ((row p.1).getD i false) by rw [List.getD_eq_getElem?_getD, List.getElem?_eq_getElem (by omega)]; rfl)
  obtain ⟨x, hx⟩ : ∃ x, x = (row p.1).getD i false := ⟨_, rfl⟩
  rw [← hx] at r1
  have HWT : Hid (Pr.wtC row p i = Pr.waits 0 true x) := by show _ = _; rw [hx]; rfl
  have hbl : bg < w.heap.size := World.block_lt_of_cell? _ _ hc
  have hgl : g < w.heap.size := World.block_lt_of_cell? _ _ r0
  have hbl2 : b < w.heap.size := World.block_lt_of_cell? _ _ r1
  have hpi : (p.1 : Int) < (S : Int) := by omega
  have hii : (i : Int) < (I : Int) := by omega
  have HW := hide (fun W => waits_any 0 true x W (by omega))
  have HB : Hid (∀ o, Below w.heap.size w (w.alloc o)) := fun o => (Below.refl _ _).alloc (Nat.le_refl _) _
  clear hb hr hl hx h
  go_enter Tryz.func29, Tryz.ntmps29
  go_wp2_with fail
  refine (HW.out _).mono ?_
  rintro e w' ⟨rfl, rfl⟩
  go_wp2_with fail
  go_ret
  exact ⟨by rw [HWT.out]; rfl, HB.out _⟩
/-- what Check and Answers come to, where there is no error -/
def SaidT (w : World) (next : Nat → List Nat) (wt : Nat × Nat → Nat → Nat) (most : Nat) (e : Ending) (w' : World) : Prop := (e = .returned (.tuple #[.bool true, .slice none 0 0, .nilIface]) ∧ Pr.Held next wt most) ∨ ∃ l g c, e = .returned (.tuple #[.bool false, .slice (some ⟨g, 0, none⟩) l.length c, .nilIface]) ∧ Pr.Broke next wt most l ∧ Pr.Least next wt most l ∧ w'.ownsRow w.heap.size 3 1 (.slice (some ⟨g, 0, none⟩) l.length c) l.length (l.map natV) ∧ l.length ≤ 100001
/-- what Check comes to -/
def PChecked (w : World) (p : Ld.Prg) (x : Ex) (e : Ending) (w' : World) : Prop := Below w.heap.size w w' ∧ (if Pr.has p.names x then SaidT w (Mc.nexts p) (Pr.wtC (Pr.goodRow p x (2 ^ (Ld.kindL p.names 1).length))) 0 e w' else e = .returned (.tuple #[.bool false, .slice none 0 0, .iface 66 (.int .i64 7)]))
theorem SaidT.of {w w2 w3 : World} {next : Nat → List Nat} {wt : Nat × Nat → Nat → Nat} {most : Nat} {e : Ending} (hz : w.heap.size ≤ w2.heap.size) (h : Searched w2 next wt most e w3) : (e = .returned (.tuple #[.bool true, .slice none 0 0]) ∧ SaidT w next wt most (.returned (.tuple #[.bool true, .slice none 0 0, .nilIface])) w3) ∨ ∃ g n c, e = .returned (.tuple #[.bool false, .slice (some ⟨g, 0, none⟩) n c]) ∧ SaidT w next wt most (.returned (.tuple #[.bool false, .slice (some ⟨g, 0, none⟩) n c, .nilIface])) w3 := by
  obtain ⟨_, ⟨h1, h2⟩ | ⟨l, g, c, h1, h2, h5, h3, h4⟩⟩ := h
  · exact .inl ⟨h1, .inl ⟨rfl, h2⟩⟩
  · exact .inr ⟨g, l.length, c, h1, .inr ⟨l, g, c, rfl, h2, h5, own_mono h3 hz, h4⟩⟩
set_option maxHeartbeats 4000000 in
set_option maxRecDepth 100000 in
theorem PCheck_any (ok : Nat → Prop) (bm : Nat) (p : Ld.Prg) (x : Ex) (v : Value) (w : World) (hm : IsMach w bm p) (hck : Ld.check p = none) (hS : Mc.total (Mc.parts p) ≤ 4096) (hq : (Ld.kindL p.names 1).length ≤ 6) (h : IsEx ok w x v) (hlen : x.size ≤ 1000000) :
    Calls Tryz.prog 8 #[.pointer (some ⟨bm, 0, none⟩), v] w (PChecked w p x) := by
  have hmf : ∀ (fn : Fn) (first cap : Array Value) (w : World), (Instr.makeFunc fn first cap).run Tryz.prog w = .ok (.func fn first cap) w := fun _ _ _ _ => rfl
  have HG := hide (Good_any ok bm p x v w hm hck hS hq h hlen)
  obtain ⟨gN, uN, hna⟩ := hm.next
  have HNA := hide hna
  have hS1 := Mc.total_pos (Mc.parts p) (Mc.parts_ok p)
  have hI6 : 2 ^ (Ld.kindL p.names 1).length ≤ 64 := Nat.pow_le_pow_right (n := 2) (by decide) hq
  have HNL := hide (fun s => Mc.nexts_len p s)
  have HNX : Hid (∀ f s, f < Mc.total (Mc.parts p) → s ∈ Mc.nexts p f → s < Mc.total (Mc.parts p)) := fun f s _ hs => Mc.nexts_lt p hck f s hs
  have HPC : Hid (∀ e w', PChecked w p x e w' ↔ (Below w.heap.size w w' ∧ (if Pr.has p.names x then SaidT w (Mc.nexts p) (Pr.wtC (Pr.goodRow p x (2 ^ (Ld.kindL p.names 1).length))) 0 e w' else e = .returned (.tuple #[.bool false, .slice none 0 0, .iface 66 (.int .i64 7)])))) := fun _ _ => Iff.rfl
  have HGD : Hid (∀ e w', Gooded w p x e w' → (Below w.heap.size w w' ∧ (if Pr.has p.names x then ∃ g us, e = .returned (.tuple #[.slice (some ⟨g, 0, none⟩) (Mc.total (Mc.parts p)) (Mc.total (Mc.parts p)), .nilIface]) ∧ us.length = Mc.total (Mc.parts p) ∧ GT w g (Mc.total (Mc.parts p)) (2 ^ (Ld.kindL p.names 1).length) us (Pr.goodRow p x (2 ^ (Ld.kindL p.names 1).length)) w' else e = .returned (.tuple #[.slice none 0 0, .iface 66 (.int .i64 7)])))) := fun _ _ h => h
  obtain ⟨tu, yu, rfl⟩ := IsEx.iface x v h
  clear hna h hm hq hck
  generalize hrw : Pr.goodRow p x (2 ^ (Ld.kindL p.names 1).length) = row at *
  generalize Mc.total (Mc.parts p) = S at *
  generalize 2 ^ (Ld.kindL p.names 1).length = I at *
  clear hrw
  go_enter Tryz.func8, Tryz.ntmps8
  go_wp2_with fail
  refine HG.out.mono ?_
  intro e w1 hg
  obtain ⟨hb1, hres⟩ := HGD.out e w1 hg
  clear hg HG HGD
  cases hhas : Pr.has p.names x with
  | false =>
    rw [hhas, if_neg Bool.false_ne_true] at hres
    obtain rfl := hres
    have HFN : Hid (∀ o, PChecked w p x (.returned (.tuple #[.bool false, .slice none 0 0, .iface 66 (.int .i64 7)])) (w1.alloc o)) := fun o => by
      refine (HPC.out _ _).2 ⟨hb1.alloc hb1.size _, ?_⟩
      rw [hhas, if_neg Bool.false_ne_true]
    clear hb1
    go_wp2_with fail
    refine bodyPost_ret (results_tmp3 rfl _ _ _) rfl ?_
    exact HFN.out _
  | true =>
    rw [hhas, if_pos rfl] at hres
    obtain ⟨g, us, rfl, hul, hgt⟩ := hres
    obtain ⟨w2, hw2⟩ : ∃ w2, w2 = w1.alloc (.cells #[.slice (some ⟨g, 0, none⟩) S S] 76) := ⟨_, rfl⟩
    have hb12 : Below w1.heap.size w1 w2 := by rw [hw2]; exact (Below.refl _ _).alloc (Nat.le_refl _) _
    have hb2 : Below w.heap.size w w2 := by rw [hw2]; exact hb1.alloc hb1.size _
    have hc2 : w2.cell? ⟨w1.heap.size, 0, none⟩ = some (.slice (some ⟨g, 0, none⟩) S S) := by rw [hw2]; exact Lib.cell_of_heap (heap_alloc_new w1 _) 0
    have hl2 : w1.heap.size < w2.heap.size := by rw [hw2]; simp
    have hgt2 := hgt.below hb12
    have HWA : Hid (Waiting w2 S 0 I (.func (.func 29) #[] #[.pointer (some ⟨w1.heap.size, 0, none⟩)]) (Pr.wtC row)) :=
      ⟨29, _, rfl, fun _ _ => by kernel_rfl, fun q i W hW hq1 _ hi => check1_any w w1.heap.size g S I us row q i W ((hW.cell (p := ⟨w1.heap.size, 0, none⟩) hl2).trans hc2) (hgt2.below hW) hul hq1 hi⟩
    have HSR : Hid (Calls Tryz.prog 28 #[.pointer (some ⟨bm, 0, none⟩), .int .i64 0, .func (.func 29) #[] #[.pointer (some ⟨w1.heap.size, 0, none⟩)]] w2 (Searched w2 (Mc.nexts p) (Pr.wtC row) 0)) :=
      search_any bm S I gN 0 (Mc.nexts p) uN _ _ w2 (HNA.out.below hb2) hS1 hS hI6 (by decide) HNL.out HNX.out HWA.out (fun q i _ => by unfold Pr.wtC Pr.waits; split <;> omega)
    have HFN : Hid (∀ e w3, Searched w2 (Mc.nexts p) (Pr.wtC row) 0 e w3 → (e = .returned (.tuple #[.bool true, .slice none 0 0]) ∧ PChecked w p x (.returned (.tuple #[.bool true, .slice none 0 0, .nilIface])) w3) ∨ ∃ g n c, e = .returned (.tuple #[.bool false, .slice (some ⟨g, 0, none⟩) n c]) ∧ PChecked w p x (.returned (.tuple #[.bool false, .slice (some ⟨g, 0, none⟩) n c, .nilIface])) w3) := fun e w3 hs => by
      have hb3 : Below w.heap.size w w3 := hb2.trans (hs.1.mono hb2.size)
      rcases SaidT.of hb2.size hs with ⟨h1, h2⟩ | ⟨g, n, c, h1, h2⟩
      · refine .inl ⟨h1, (HPC.out _ _).2 ⟨hb3, ?_⟩⟩
        rw [hhas, if_pos rfl]; exact h2
      · refine .inr ⟨g, n, c, h1, (HPC.out _ _).2 ⟨hb3, ?_⟩⟩
        rw [hhas, if_pos rfl]; exact h2
    rw [hw2] at HSR
    have HW2 := hide hw2
    clear hw2 hb12 hb2 hc2 hl2 hgt2 HWA hgt hul hb1 HPC
    go_wp2_with fail
    refine HSR.out.mono ?_
    rw [← HW2.out]
    intro e w3 hs
    rcases HFN.out e w3 hs with ⟨rfl, h1⟩ | ⟨g3, n3, c3, rfl, h1⟩
    · have H1 := hide h1
      clear h1 hs HSR HFN
      go_wp2_with fail
      refine bodyPost_ret (results_tmp3 rfl _ _ _) rfl ?_
      exact H1.out
    · have H1 := hide h1
      clear h1 hs HSR HFN
      go_wp2_with fail
      refine bodyPost_ret (results_tmp3 rfl _ _ _) rfl ?_
      exact H1.out
end
section
namespace Ro
open Go.RowKit
theorem nodup_of (t : Tbl) (h : check t = none) : ∀ r, r ∈ t.rts → (nums r).Nodup := fun r hr => (wrong_nodup _ _ r ((ok_of t h).2 r hr)).2.2
theorem never {t : Tbl} {S P : Nat} (f : Fits t S P) (hnd : ∀ r, r ∈ t.rts → (nums r).Nodup) (l : List Nat) : ¬ Pr.Broke (Mc.nexts (ladderE t S P)) (Pr.wtC (Pr.goodRow (ladderE t S P) (safeE t) (2 ^ (Ld.kindL (ladderE t S P).names 1).length))) 0 l := by
  refine never_broke f hnd _ (2 ^ (Ld.kindL (ladderE t S P).names 1).length) (fun i => bitsTo i (Ld.kindL (ladderE t S P).names 1).length) (fun i => by rw [bitsTo_len, mach_ins f]) (fun s i hi => ?_) (fun s => Mc.nexts_len _ s) _ (fun s k i hi h => ?_) l
  · unfold Mc.nexts
    rw [List.getD_eq_getElem?_getD, List.getElem?_map, List.getElem?_range hi]
    rfl
  · have h1 : (Pr.goodRow (ladderE t S P) (safeE t) (2 ^ (Ld.kindL (ladderE t S P).names 1).length) s).getD i false = true := by
      rw [List.getD_eq_getElem?_getD, Pr.goodRow_at _ _ _ _ _ hi]
      exact h
    unfold Pr.wtC
    simp only
    rw [h1]
    rfl
theorem has_safe {t : Tbl} {S P : Nat} (f : Fits t S P) : Pr.has (ladderE t S P).names (safeE t) = true := by
  unfold Pr.has
  rw [List.all_eq_true]
  intro s hs
  exact decide_eq_true (safe_named f s ((mem_ordered _ _).1 hs))
theorem SafeBad_any (t : Tbl) (rv : Value) (w : World) (hr : Rts w rv t.rts) (hck : check t ≠ none) :
    Calls Tryz.prog 5 #[.agg #[.int .i64 t.secs, .int .i64 t.pts, rv]] w fun e w' => ∃ ty y, e = .returned (.tuple #[.nilIface, .iface ty y]) ∧ Below w.heap.size w w' := by
  obtain ⟨ra, rc, rfl⟩ := hr.slice
  obtain ⟨wA, hwA⟩ : ∃ wA, wA = w.alloc (.cells #[.int .i64 t.secs, .int .i64 t.pts, .slice ra t.rts.length rc] 24) := ⟨_, rfl⟩
  have hbA : Below w.heap.size w wA := by rw [hwA]; exact newB _ _
  have rT : RowIs wA w.heap.size 24 [.int .i64 t.secs, .int .i64 t.pts, .slice ra t.rts.length rc] := by rw [hwA]; exact RowIs.new _ _ _
  have ta0 := rT.cell 0 _ rfl
  have ta1 := rT.cell 1 _ rfl
  have ta2 := rT.cell 2 _ rfl
  have HCK := hide (Check_any t (.slice ra t.rts.length rc) wA (hr.below hbA))
  have HB0 := hide hbA
  have HW := hide hwA
  have HNE := hide hck
  rw [hwA] at HCK ta0 ta1 ta2
  generalize t.rts.length = n at *
  clear hwA hbA rT hck hr
  go_enter Tryz.func5, Tryz.ntmps5
  go_wp2_with fail
  refine HCK.out.mono ?_
  rintro e w1 ⟨ev, rfl, her, hb1⟩
  rw [← HW.out] at hb1
  have HB1 := hide (then_ HB0.out hb1)
  obtain ⟨ty, y, rfl⟩ : ∃ ty y, ev = .iface ty y := by
    cases hc : check t with
    | none => exact absurd hc HNE.out
    | some r =>
      rw [hc] at her
      obtain ⟨e, p⟩ := r
      cases p with
      | none => exact ⟨_, _, her⟩
      | some p => obtain ⟨a, h, _⟩ := her; exact ⟨_, _, h⟩
  clear hb1 her HCK ta0 ta1 ta2
  go_wp2_with fail
  go_ret2
  exact ⟨ty, y, rfl, HB1.out⟩
set_option maxHeartbeats 8000000 in
set_option maxRecDepth 100000 in
theorem routeSafe_any (t : Tbl) (rv : Value) (w : World) (hr : Rts w rv t.rts) :
    Calls Tryz.prog 3 #[.agg #[.int .i64 t.secs, .int .i64 t.pts, rv]] w fun e w' => e = .returned (.bool true) ∧ Below w.heap.size w w' := by
  have HR := hide hr
  obtain ⟨ra, rc, rfl⟩ := hr.slice
  obtain ⟨wA, hwA⟩ : ∃ wA, wA = w.alloc (.cells #[.int .i64 t.secs, .int .i64 t.pts, .slice ra t.rts.length rc] 24) := ⟨_, rfl⟩
  have hbA : Below w.heap.size w wA := by rw [hwA]; exact newB _ _
  have HTA : Hid (∀ W, Below wA.heap.size wA W → W.cell? ⟨w.heap.size, 0, none⟩ = some (.int .i64 t.secs) ∧ W.cell? ⟨w.heap.size, 1, none⟩ = some (.int .i64 t.pts) ∧ W.cell? ⟨w.heap.size, 2, none⟩ = some (.slice ra t.rts.length rc)) := fun W hW => by
    have rT : RowIs wA w.heap.size 24 [.int .i64 t.secs, .int .i64 t.pts, .slice ra t.rts.length rc] := by rw [hwA]; exact RowIs.new _ _ _
    exact ⟨kept hW (rT.cell 0 _ rfl), kept hW (rT.cell 1 _ rfl), kept hW (rT.cell 2 _ rfl)⟩
  obtain ⟨ta0, ta1, ta2⟩ := HTA.out wA (Below.refl _ _)
  have HLA := hide (ladder_all t (.slice ra t.rts.length rc) wA (hr.below hbA))
  have HB0 := hide hbA
  have HW := hide hwA
  rw [hwA] at HLA ta0 ta1 ta2
  clear hwA hbA hr
  go_enter Tryz.func3, Tryz.ntmps3
  go_wp2_with fail
  refine HLA.out.mono ?_
  rw [← HW.out]
  rintro e w1 ⟨hb1, hq⟩
  have HB1 := hide hb1
  clear hb1 HLA ta0 ta1 ta2
  rcases hq with ⟨hck, ty, y, rfl⟩ | ⟨hck, S, P, nv, pv, f, rfl, hprg⟩
  · obtain ⟨w2, hw2⟩ : ∃ w2, w2 = w1.alloc (.cells #[.slice none 0 0, .slice none 0 0] 28) := ⟨_, rfl⟩
    have hb2 : Below w1.heap.size w1 w2 := by rw [hw2]; exact newB _ _
    have HB2 := hide (then_ HB1.out hb2)
    obtain ⟨tb0, tb1, tb2⟩ := HTA.out w2 HB2.out
    have HSB := hide (SafeBad_any t _ w2 (HR.out.below (then_ HB0.out HB2.out)) hck)
    have HW2 := hide hw2
    rw [hw2] at HSB tb0 tb1 tb2
    clear hw2 hb2
    go_wp2_with fail
    refine HSB.out.mono ?_
    rw [← HW2.out]
    rintro e w3 ⟨ty2, y2, rfl, hb3⟩
    have HB3 := hide (then_ HB2.out hb3)
    clear hb3 HSB tb0 tb1 tb2
    go_wp2_with fail
    refine (routed_any w3).mono ?_
    rintro e w4 ⟨rfl, hb4⟩
    have HB4 := hide (then_ HB3.out hb4)
    clear hb4
    go_wp2_with fail
    refine (routed_any w4).mono ?_
    rintro e w5 ⟨rfl, hb5⟩
    have HB5 := hide (then_ HB0.out (then_ HB4.out hb5))
    clear hb5
    go_wp2_with fail
    go_ret
    exact ⟨rfl, HB5.out⟩
  · obtain ⟨nv', pv', he, hnm, hrg⟩ := hprg
    simp only [Value.agg.injEq] at he
    obtain ⟨rfl, rfl⟩ : nv = nv' ∧ pv = pv' := by simpa using he
    have hpv : ∃ a n c, pv = .slice a n c := by
      rcases hrg with ⟨_, a, cap, h⟩ | ⟨g, cap, h, _⟩
      · exact ⟨_, _, _, h⟩
      · exact ⟨_, _, _, h⟩
    have hnv : ∃ a n c, nv = .slice a n c := by
      rcases hnm with ⟨_, a, cap, h⟩ | ⟨g, cap, h, _⟩
      · exact ⟨_, _, _, h⟩
      · exact ⟨_, _, _, h⟩
    obtain ⟨na, nn, nc, rfl⟩ := hnv
    obtain ⟨pa, pn, pc, rfl⟩ := hpv
    obtain ⟨wB, hwB⟩ : ∃ wB, wB = w1.alloc (.cells #[.slice na nn nc, .slice pa pn pc] 28) := ⟨_, rfl⟩
    have hbB : Below w1.heap.size w1 wB := by rw [hwB]; exact newB _ _
    have rB : RowIs wB w1.heap.size 28 [.slice na nn nc, .slice pa pn pc] := by rw [hwB]; exact RowIs.new _ _ _
    have HKP : Hid (∀ W, Below wB.heap.size wB W → W.cell? ⟨w1.heap.size, 0, none⟩ = some (.slice na nn nc) ∧ W.cell? ⟨w1.heap.size, 1, none⟩ = some (.slice pa pn pc)) := fun W hW => ⟨kept hW (rB.cell 0 _ rfl), kept hW (rB.cell 1 _ rfl)⟩
    have HPR : Hid (∀ W, Below wB.heap.size wB W → IsPrg W (ladderE t S P) (.agg #[.slice na nn nc, .slice pa pn pc])) := fun W hW => ⟨_, _, rfl, (hnm.below hbB).below hW, (hrg.below hbB).below hW⟩
    have HBB := hide (then_ HB1.out hbB)
    obtain ⟨tb0, tb1, tb2⟩ := HTA.out wB HBB.out
    have HFT := hide f
    have HCK := hide hck
    have HSF := hide (Safe_any t _ S P wB (HR.out.below (then_ HB0.out HBB.out)) f hck)
    have HWB := hide hwB
    rw [hwB] at HSF tb0 tb1 tb2
    clear he hnm hrg hwB hbB rB f hck HW
    go_wp2_with fail
    refine HSF.out.mono ?_
    rw [← HWB.out]
    rintro e w2 ⟨v, rfl, hv, hb2⟩
    have HV := hide hv
    have HB2 := hide hb2
    obtain ⟨tu, yu, rfl⟩ := IsEx.iface _ v hv
    clear hv hb2 HSF tb0 tb1 tb2 HWB
    go_wp2_with fail
    refine (routed_any w2).mono ?_
    rintro e w3 ⟨rfl, hb3⟩
    have HB3 := hide hb3
    have HB23 := hide (then_ HB2.out hb3)
    clear hb3
    obtain ⟨x0, x1⟩ := HKP.out w3 HB23.out
    have HOF := hide (Of_any (ladderE t S P) _ w3 (HPR.out w3 HB23.out) (ladder_ok HFT.out))
    go_wp2_with fail
    refine HOF.out.mono ?_
    rintro e w4 ⟨hb4, hof⟩
    have hR3 := HFT.out.R3
    have hS3 := HFT.out.S3
    rw [if_pos ⟨by rw [mach_ins HFT.out]; omega, by have := mach_few HFT.out; omega⟩] at hof
    obtain ⟨bm, rfl, _, hm⟩ := hof
    have HB4 := hide hb4
    have HPC := hide (PCheck_any (fun _ => True) bm (ladderE t S P) (safeE t) (.iface tu yu) w4 hm (ladder_ok HFT.out) (by have := mach_few HFT.out; omega) (by rw [mach_ins HFT.out]; omega) (IsEx.stay (Stay.below HB4.out) (fun _ _ => trivial) _ _ (IsEx.stay (ok' := fun _ => True) (Stay.below HB3.out) (fun _ _ => trivial) _ _ HV.out)) (safe_size HFT.out))
    clear hb4 hm HOF x0 x1
    go_wp2_with fail
    refine HPC.out.mono ?_
    rintro e w5 ⟨hb5, hs⟩
    rw [if_pos (has_safe HFT.out)] at hs
    have HB5 := hide (then_ HB0.out (then_ HBB.out (then_ HB23.out (then_ HB4.out hb5))))
    have hs' : e = .returned (.tuple #[.bool true, .slice none 0 0, .nilIface]) := by
      rcases hs with ⟨rfl, _⟩ | ⟨l, _, _, _, hbr, _⟩
      · rfl
      · exact absurd hbr (never HFT.out (nodup_of t HCK.out) l)
    subst hs'
    clear hs hb5 HPC
    go_wp2_with fail
    go_ret
    exact ⟨rfl, HB5.out⟩
end Ro
end
section
namespace Ro
open Go.ChangeShapes Go.WideShapes Go.ChangeAt Go.RowKit
theorem add_flat (g o j : Nat) : (⟨g, o, none⟩ : Addr).add j = ⟨g, o + j, none⟩ := by unfold Addr.add; split <;> simp_all
theorem i64_of {k : Int} (hw : (Lit.int .i64 k).wf = true) : I64 k := (by simpa [Lit.wf, IntKind.min, IntKind.max, IntKind.signed, IntKind.bits] using hw : -9223372036854775808 ≤ k ∧ k ≤ 9223372036854775807)
theorem one {W : World} {base : Nat} {a : Addr} {cs : List Value} (h : W.cells? base a 1 = some cs) : ∃ x, cs = [x] ∧ W.cell? a = some x := by
  obtain ⟨_, hl, hc⟩ := World.cells?_some h
  match cs, hl with
  | [x], _ => exact ⟨x, rfl, by have := hc 0 (by omega); simpa [Addr.add] using this⟩
theorem two {W : World} {base : Nat} {a : Addr} {cs : List Value} (h : W.cells? base a 2 = some cs) : ∃ x y, cs = [x, y] ∧ W.cell? a = some x ∧ W.cell? (a.add 1) = some y := by
  obtain ⟨_, hl, hc⟩ := World.cells?_some h
  match cs, hl with
  | [x, y], _ => exact ⟨x, y, rfl, by have := hc 0 (by omega); simpa [Addr.add] using this, by simpa using hc 1 (by omega)⟩
/-- how long what was read is -/
def Long {H : Type} (d : DataW H) (n : Nat) : Prop := n = 0 ∨ ∃ es sp, d = .slice es sp ∧ es.length = n
theorem in_ints0 {H : Type} {enc : TypeId × Value → H} {W : World} {fuel : Nat} {sv : Value} {x : DataW H × List MemPlace} (h : DataW.trod enc Tryz.prog W 0 (fun _ => true) true fuel 41 [sv] = some x) : ∃ l, Ints W sv l ∧ Long x.1 l.length := by
  have hce : Tryz.prog.cellsOf 3 = 1 := by kernel_rfl
  rcases Go.Deep.open_slice Tryz.underlying41 h with ⟨hcs, _⟩ | ⟨a, len, cap, m, n, D, Pl, hcs, _, hlc, hcm, hm, hxx, hx⟩
  · simp at hcs
    subst hcs
    exact ⟨[], Ints.nil _ _ _, .inl rfl⟩
  · simp only [List.cons.injEq, and_true] at hcs
    subst hcs
    rw [hce] at hx
    have hlm : len ≤ m := by rw [hm]; simp; omega
    have each : ∀ i, i < len → ∃ k : Int, W.cell? (a.add (i * 1)) = some (.int .i64 k) ∧ I64 k := fun i hi => by
      obtain ⟨cs', h1, h2⟩ := hx i (by omega)
      obtain ⟨u, rfl, c⟩ := one h1
      obtain ⟨k1, e4, _, e5⟩ := DataW.trod_int Tryz.underlying3 h2
      simp at e4
      subst e4
      exact ⟨k1, c, i64_of e5⟩
    obtain ⟨Nf, hN⟩ := Go.Deep.choose_lt each
    refine ⟨(List.range len).map Nf, ⟨some a, cap, by simp, by simp; omega, fun i n hi => ?_⟩, .inr ⟨_, _, by rw [hxx], by simp⟩⟩
    have hil : i < len := by have := (List.getElem?_eq_some_iff.1 hi).1; simpa using this
    have hn : Nf i = n := by simpa [hil] using hi
    subst hn
    obtain ⟨c0, e1⟩ := hN i hil
    obtain ⟨g, o, spot⟩ := a
    have hspot : spot = none := by
      have h5 := World.cell?_spot (hN 0 (by omega)).1
      simpa [Addr.add] using h5
    subst hspot
    rw [add_flat] at c0
    exact ⟨g, o, rfl, by simp; omega, by simpa using c0, e1⟩
theorem in_pts0 {H : Type} {enc : TypeId × Value → H} {W : World} {fuel : Nat} {sv : Value} {x : DataW H × List MemPlace} (h : DataW.trod enc Tryz.prog W 0 (fun _ => true) true fuel 52 [sv] = some x) : ∃ l, Pts W sv l ∧ Long x.1 l.length := by
  have hce : Tryz.prog.cellsOf 61 = 2 := by kernel_rfl
  have hci : Tryz.prog.cellsOf 3 = 1 := by kernel_rfl
  have hcb : Tryz.prog.cellsOf 4 = 1 := by kernel_rfl
  rcases Go.Deep.open_slice Tryz.underlying52 h with ⟨hcs, _⟩ | ⟨a, len, cap, m, n, D, Pl, hcs, _, hlc, hcm, hm, hxx, hx⟩
  · simp at hcs
    subst hcs
    exact ⟨[], ⟨none, 0, rfl, by simp, fun i n hi => by simp at hi⟩, .inl rfl⟩
  · simp only [List.cons.injEq, and_true] at hcs
    subst hcs
    rw [hce] at hx
    have hlm : len ≤ m := by rw [hm]; simp; omega
    have each : ∀ i, i < len → ∃ p : Int × Bool, W.cell? (a.add (i * 2)) = some (.int .i64 p.1) ∧ W.cell? ((a.add (i * 2)).add 1) = some (.bool p.2) ∧ I64 p.1 := fun i hi => by
      obtain ⟨cs', h1, h2⟩ := hx i (by omega)
      obtain ⟨u, v, rfl, c0, c1⟩ := two h1
      obtain ⟨y0, y1, k, _, _, f0, f1⟩ := trod_struct2 Tryz.underlying61 h2
      rw [hci] at f0
      obtain ⟨k0, e0, _, w0⟩ := DataW.trod_int Tryz.underlying3 f0
      have f1' : DataW.trod enc Tryz.prog W 0 (fun _ => true) true k 4 [v] = some y1 := by
        rw [hcb] at f1
        simpa using f1
      obtain ⟨b1, e1, _⟩ := DataW.trod_bool Tryz.underlying4 f1'
      simp only [List.cons.injEq, and_true] at e1
      simp at e0
      subst e0 e1
      exact ⟨(k0, b1), c0, c1, i64_of w0⟩
    obtain ⟨Nf, hN⟩ := Go.Deep.choose_lt each
    refine ⟨(List.range len).map Nf, ⟨some a, cap, by simp, by simp; omega, fun i n hi => ?_⟩, .inr ⟨_, _, by rw [hxx], by simp⟩⟩
    have hil : i < len := by have := (List.getElem?_eq_some_iff.1 hi).1; simpa using this
    have hn : Nf i = n := by simpa [hil] using hi
    subst hn
    obtain ⟨c0, c1, e1⟩ := hN i hil
    obtain ⟨g, o, spot⟩ := a
    have hspot : spot = none := by
      have h5 := World.cell?_spot (hN 0 (by omega)).1
      simpa [Addr.add] using h5
    subst hspot
    rw [add_flat] at c0 c1
    rw [add_flat] at c1
    exact ⟨g, o, rfl, by simp; omega, c0, c1, e1⟩
theorem long_ints {H : Type} {d : DataW H} {n : Nat} (h : Long d n) (hw : (d.weights Tryz.prog 41).all (· ≤ reachBytes) = true) : n ≤ mxP := by
  rcases h with rfl | ⟨es, sp, rfl, rfl⟩
  · exact Nat.zero_le _
  · have hb : Tryz.prog.bytesOf 3 = 8 := by kernel_rfl
    have := List.all_eq_true.1 hw ((es.length + sp.length) * 8) (by simp [DataW.weights, Tryz.underlying41, hb])
    have h2 : (es.length + sp.length) * 8 ≤ reachBytes := by simpa using this
    have h3 : reachBytes < 140737488355328 := by decide
    unfold mxP
    omega
theorem long_pts {H : Type} {d : DataW H} {n : Nat} (h : Long d n) (hw : (d.weights Tryz.prog 52).all (· ≤ reachBytes) = true) : n ≤ mxP := by
  rcases h with rfl | ⟨es, sp, rfl, rfl⟩
  · exact Nat.zero_le _
  · have hb : Tryz.prog.bytesOf 61 = 16 := by kernel_rfl
    have := List.all_eq_true.1 hw ((es.length + sp.length) * 16) (by simp [DataW.weights, Tryz.underlying52, hb])
    have h2 : (es.length + sp.length) * 16 ≤ reachBytes := by simpa using this
    have h3 : reachBytes < 140737488355328 := by decide
    unfold mxP
    omega
/-- a route's two cells -/
theorem in_route0 {H : Type} {enc : TypeId × Value → H} {W : World} {fuel : Nat} {u v : Value} {x : DataW H × List MemPlace} (h : DataW.trod enc Tryz.prog W 0 (fun _ => true) true fuel 54 [u, v] = some x) (hw : (x.1.weights Tryz.prog 54).all (· ≤ reachBytes) = true) : ∃ r : Rt, Ints W u r.secs ∧ Pts W v r.pts ∧ r.secs.length ≤ mxP ∧ r.pts.length ≤ mxP := by
  obtain ⟨y0, y1, n, hxx, hl, t0, t1⟩ := trod_struct2 Tryz.underlying54 h
  have hc1 : Tryz.prog.cellsOf 41 = 1 := by kernel_rfl
  have hc2 : Tryz.prog.cellsOf 52 = 1 := by kernel_rfl
  have hd : x.1 = .agg [y0.1, y1.1] := congrArg Prod.fst hxx
  rw [hd] at hw
  have hws : (DataW.agg [y0.1, y1.1]).weights Tryz.prog 54 = y0.1.weights Tryz.prog 41 ++ (y1.1.weights Tryz.prog 52 ++ []) := by
    simp [DataW.weights, Tryz.underlying54, DataW.weightsEach]
  rw [hws, List.all_append, List.append_nil, Bool.and_eq_true] at hw
  rw [hc1] at t0
  rw [hc2] at t1
  obtain ⟨s, h1, k1⟩ := in_ints0 (by simpa using t0)
  obtain ⟨p, h2, k2⟩ := in_pts0 (by simpa using t1)
  exact ⟨⟨s, p⟩, h1, h2, long_ints k1 hw.1, long_pts k2 hw.2⟩
set_option maxRecDepth 100000 in
theorem in_route {H : Type} {enc : TypeId × Value → H} {W : World} {r : _} {base : Nat} {v : Value} {d : DataW H} {p : List MemPlace} (hok : Value.okWide Tryz.prog W r base 54 v) (h : DataW.Trod enc Tryz.prog W 0 (fun _ => true) true 54 v d p) (hw : (d.weights Tryz.prog 54).all (· ≤ reachBytes) = true) : ∃ (sv pv : Value) (r : Rt), v = .agg #[sv, pv] ∧ Ints W sv r.secs ∧ Pts W pv r.pts ∧ r.secs.length ≤ mxP ∧ r.pts.length ≤ mxP := by
  obtain ⟨fuel, hf⟩ := h
  obtain ⟨cs, rfl, hsz⟩ := okWide_struct Tryz.underlying54 hok
  have hc : Tryz.prog.cellsOf 54 = 2 := by kernel_rfl
  rw [hc] at hsz
  obtain ⟨l⟩ := cs
  match l, hsz with
  | [av, rv], _ =>
    obtain ⟨r, h1⟩ := in_route0 (u := av) (v := rv) hf hw
    exact ⟨av, rv, r, rfl, h1⟩
end Ro
end
section
namespace Ro
open Go.ChangeShapes Go.WideShapes Go.ChangeAt Go.RowKit
theorem weights_in {H : Type} (P : Program) (e : TypeId) : ∀ (es : List (DataW H)) (d : DataW H), d ∈ es → ∀ k, k ∈ d.weights P e → k ∈ DataW.weightsAll P e es
  | [], d, h => by cases h
  | x :: es, d, h => fun k hk => by
    rw [DataW.weightsAll]
    rcases List.mem_cons.1 h with rfl | h
    · exact List.mem_append_left _ hk
    · exact List.mem_append_right _ (weights_in P e es d h k hk)
theorem in_rts {H : Type} {enc : TypeId × Value → H} {W : World} {fuel : Nat} {sv : Value} {x : DataW H × List MemPlace} (h : DataW.trod enc Tryz.prog W 0 (fun _ => true) true fuel 22 [sv] = some x) (hw : (x.1.weights Tryz.prog 22).all (· ≤ reachBytes) = true) : ∃ l, Rts W sv l := by
  have hce : Tryz.prog.cellsOf 54 = 2 := by kernel_rfl
  rcases Go.Deep.open_slice Tryz.underlying22 h with ⟨hcs, _⟩ | ⟨a, len, cap, m, n, D, Pl, hcs, _, hlc, hcm, hm, hxx, hx⟩
  · simp at hcs
    subst hcs
    exact ⟨[], none, 0, rfl, by simp, fun i n hi => by simp at hi⟩
  · simp only [List.cons.injEq, and_true] at hcs
    subst hcs
    rw [hce] at hx
    have hlm : len ≤ m := by rw [hm]; simp; omega
    have hd : x.1 = .slice ((List.range len).map D) ((List.range (m - len)).map fun j => D (len + j)) := congrArg Prod.fst hxx
    rw [hd] at hw
    have hwe : ∀ i, i < len → ((D i).weights Tryz.prog 54).all (· ≤ reachBytes) = true := fun i hi => List.all_eq_true.2 fun k hk => by
      refine List.all_eq_true.1 hw k ?_
      rw [DataW.weights, Tryz.underlying22]
      exact List.mem_cons_of_mem _ (List.mem_append_left _ (weights_in _ _ _ (D i) (List.mem_map.2 ⟨i, List.mem_range.2 hi, rfl⟩) k hk))
    have each : ∀ i, i < len → ∃ r : Rt, ∃ u v, W.cell? (a.add (i * 2)) = some u ∧ W.cell? ((a.add (i * 2)).add 1) = some v ∧ Ints W u r.secs ∧ Pts W v r.pts ∧ r.pts.length ≤ mxP := fun i hi => by
      obtain ⟨cs', h1, h2⟩ := hx i (by omega)
      obtain ⟨u, v, rfl, c0, c1⟩ := two h1
      obtain ⟨r, e1, e2, e3, e4⟩ := in_route0 h2 (hwe i hi)
      exact ⟨r, u, v, c0, c1, e1, e2, e4⟩
    haveI : Inhabited Rt := ⟨⟨[], []⟩⟩
    obtain ⟨Nf, hN⟩ := Go.Deep.choose_lt each
    refine ⟨(List.range len).map Nf, some a, cap, by simp, by simp; omega, fun i n hi => ?_⟩
    have hil : i < len := by have := (List.getElem?_eq_some_iff.1 hi).1; simpa using this
    have hn : Nf i = n := by simpa [hil] using hi
    subst hn
    obtain ⟨u, v, c0, c1, e1⟩ := hN i hil
    obtain ⟨g, o, spot⟩ := a
    have hspot : spot = none := by
      obtain ⟨u0, v0, c00, _⟩ := hN 0 (by omega)
      have h5 := World.cell?_spot c00
      simpa [Addr.add] using h5
    subst hspot
    rw [add_flat] at c0 c1
    rw [add_flat] at c1
    exact ⟨g, o, u, v, rfl, by simp; omega, c0, c1, e1⟩
set_option maxRecDepth 100000 in
theorem in_table {H : Type} {enc : TypeId × Value → H} {W : World} {r : _} {base : Nat} {v : Value} {d : DataW H} {p : List MemPlace} (hok : Value.okWide Tryz.prog W r base 24 v) (h : DataW.Trod enc Tryz.prog W 0 (fun _ => true) true 24 v d p) (hw : (d.weights Tryz.prog 24).all (· ≤ reachBytes) = true) : ∃ (rv : Value) (t : Tbl), v = .agg #[.int .i64 t.secs, .int .i64 t.pts, rv] ∧ Rts W rv t.rts := by
  obtain ⟨fuel, hf⟩ := h
  obtain ⟨cs, rfl, hsz⟩ := okWide_struct Tryz.underlying24 hok
  have hc : Tryz.prog.cellsOf 24 = 3 := by kernel_rfl
  have hc0 : Tryz.prog.cellsOf 3 = 1 := by kernel_rfl
  have hc1 : Tryz.prog.cellsOf 22 = 1 := by kernel_rfl
  rw [hc] at hsz
  obtain ⟨y0, y1, y2, n, hxx, hl, t0, t1, t2⟩ := Go.Deep.trod_struct3 Tryz.underlying24 hf
  have hd : d = .agg [y0.1, y1.1, y2.1] := congrArg Prod.fst hxx
  subst hd
  have hws : (DataW.agg [y0.1, y1.1, y2.1]).weights Tryz.prog 24 = y0.1.weights Tryz.prog 3 ++ (y1.1.weights Tryz.prog 3 ++ (y2.1.weights Tryz.prog 22 ++ [])) := by
    simp [DataW.weights, Tryz.underlying24, DataW.weightsEach]
  rw [hws, List.all_append, List.all_append, List.append_nil, Bool.and_eq_true, Bool.and_eq_true] at hw
  obtain ⟨l⟩ := cs
  match l, hsz with
  | [u0, u1, u2], _ =>
    have e : (Value.agg #[u0, u1, u2]).cells.toList = [u0, u1, u2] := rfl
    rw [e, hc0] at t0
    rw [e, hc0] at t1
    rw [e, hc1] at t2
    obtain ⟨k0, e0, _, _⟩ := DataW.trod_int Tryz.underlying3 t0
    obtain ⟨k1, e1, _, _⟩ := DataW.trod_int Tryz.underlying3 t1
    simp at e0 e1
    subst e0 e1
    obtain ⟨L, h1⟩ := in_rts (by simpa using t2) hw.2.2
    exact ⟨u2, ⟨k0, k1, L⟩, rfl, h1⟩
end Ro
end
end Go.Proofs.YtgdmohombcgjbaaGreatDoor
