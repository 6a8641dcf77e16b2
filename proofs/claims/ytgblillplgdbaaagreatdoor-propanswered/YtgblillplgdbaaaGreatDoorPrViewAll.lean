/-
  The walk of package prop's search. The first of a list of bools, the others false. What stands in memory while package prop's Good is filled: a table of rows of bools. A machine's table, state by state. The table and the sizes of a machine of few states. What package prop asks of a machine: its program, its states, what it sees, and whether an expression is good at a state and an input.
-/
import Derived.Test.YtgblillplgdbaaaGreatDoorPrStAll
import Derived.Test.YtgblillplgdbaaaGreatDoorPrLeast
import Derived.Test.YtgblillplgdbaaaGreatDoorRcNextAll
import Derived.Test.YtgblillplgdbaaaGreatDoorPrNamesAll
import Derived.Test.YtgblillplgdbaaaGreatDoorMcD7All
import Derived.Test.YtgblillplgdbaaaGreatDoorKeMadeAll
namespace Go.Proofs.YtgblillplgdbaaaGreatDoor
section
open Go.RowKit Go.Maps
/-- a function that tells how long one waits -/
def Waiting (w : World) (S most I : Nat) (f : Value) (wt : Nat × Nat → Nat → Nat) : Prop := ∃ K cap, f = .func (.func K) #[] cap ∧ (∀ args w, (callFunc K args).run Tryz.prog w = .ok (.enter K args) w) ∧ ∀ (p : Nat × Nat) (i : Nat) (W : World), Below w.heap.size w W → p.1 < S → p.2 ≤ most → i < I → Calls Tryz.prog K (#[.agg #[.int .i64 (p.1 : Int), .int .i64 (p.2 : Int)], .int .i64 (i : Int)] ++ cap) W fun e w' => e = .returned (.int .i64 (wt p i : Int)) ∧ Below W.heap.size W w'
/-- what search comes to -/
def Searched (w : World) (next : Nat → List Nat) (wt : Nat × Nat → Nat → Nat) (most : Nat) (e : Ending) (w' : World) : Prop := Below w.heap.size w w' ∧ ((e = .returned (.tuple #[.bool true, .slice none 0 0]) ∧ Pr.Held next wt most) ∨ ∃ l g c, e = .returned (.tuple #[.bool false, .slice (some ⟨g, 0, none⟩) l.length c]) ∧ Pr.Broke next wt most l ∧ Pr.Least next wt most l ∧ w'.ownsRow w.heap.size 3 1 (.slice (some ⟨g, 0, none⟩) l.length c) l.length (l.map natV) ∧ l.length ≤ 100001)
set_option maxHeartbeats 8000000 in
set_option maxRecDepth 100000 in
theorem search_any (bm S I gN most : Nat) (next : Nat → List Nat) (uN : List Nat) (f : Value) (wt : Nat × Nat → Nat → Nat) (w : World) (h : NextAt w bm S I next gN uN) (hS1 : 1 ≤ S) (hS : S ≤ 4096) (hI : I ≤ 64) (hmo : most ≤ 20) (hnl : ∀ s, (next s).length = I) (hnx : ∀ f s, f < S → s ∈ next f → s < S) (hwt : Waiting w S most I f wt) (hwl : ∀ p i, p.2 ≤ most → wt p i ≤ most + 1) :
    Calls Tryz.prog 25 #[.pointer (some ⟨bm, 0, none⟩), .int .i64 (most : Int), f] w (Searched w next wt most) := by
  obtain ⟨i0, hi0, hz0, hz1, hz2⟩ := info_parts Tryz.infoInt
  obtain ⟨i1, hi1, hy0, hy1, hy2⟩ := info_parts Tryz.infoPlace
  have hmf : ∀ (fn : Fn) (first cap : Array Value) (w : World), (Instr.makeFunc fn first cap).run Tryz.prog w = .ok (.func fn first cap) w := fun _ _ _ _ => rfl
  obtain ⟨KF, cap, rfl, hcall, hwt⟩ := hwt
  have hmm := @run_makeMap Tryz.prog
  have HWT := hide hwt
  have HWL := hide hwl
  have HNA := hide h
  have HNL := hide hnl
  have HNX := hide hnx
  obtain ⟨w1, hw1⟩ : ∃ w1, w1 = w.alloc (.cells #[.int .i64 0, .int .i64 0] 86) := ⟨_, rfl⟩
  have hz1' : w1.heap.size = w.heap.size + 1 := by rw [hw1]; simp
  obtain ⟨w3, hrun3, hc3, hg3⟩ := (CMap.made w1).put (by omega) (0, 0) ((0, 0), 0) ⟨Nat.zero_le _, Nat.zero_le _⟩
  have hins : (Instr.mapUpdate 115 (.map (some w1.heap.size)) (.agg #[.int .i64 0, .int .i64 0]) (.agg #[.int .i64 0, .int .i64 0, .int .i64 0])).run Tryz.prog (w1.alloc (.map #[] 0)) = .ok () w3 := hrun3
  have hb1 : Below w.heap.size w w1 := by rw [hw1]; exact (Below.refl _ _).alloc (Nat.le_refl _) _
  have hb2 : Below w.heap.size w (w1.alloc (.map #[] 0)) := hb1.alloc hb1.size _
  have hb3 : Below w.heap.size w w3 := hb2.grown hg3 (by simp; omega) (fun k e => by cases e; omega)
  have hsz3 := hg3.size
  rw [World.size_alloc, hz1'] at hsz3
  have hbeg : w3.heap[w.heap.size]? = some (.cells #[.int .i64 0, .int .i64 0] 86 (0, 0)) := by
    rw [hg3.block _ (by simp; omega) (fun e => by have := Option.some.inj e; omega), Below.heap_alloc _ _ _ (by omega), hw1]
    exact heap_alloc_new _ _
  rw [hz1'] at hc3 hins
  have HS0 := hide (SSt.start w next wt S most hS1 w3 _ hbeg hc3 (fun p => rfl) hb3 hsz3)
  obtain ⟨b0, b1, _, _⟩ := two_cells hbeg
  rw [hw1] at hins
  clear hrun3 hc3 hg3 hb1 hb2 hb3 hbeg hw1 hz1' h hnl hnx hwt hwl
  go_enter Tryz.func25, Tryz.ntmps25
  go_wp2_with fail
  go_loopw [10, 11] (fun v i wr => ∃ k met src a c, i = .int .i64 ((k : Nat) : Int) ∧ v = .slice a met.length c ∧ k ≤ met.length ∧ Hid (SSt w next wt S most met src (.slice a met.length c) wr) ∧ Hid (Pr.Shut next wt most met k ∧ ∃ ks, Pr.Ord next wt most met src ks k 0)) (fun _ i _ => S * (most + 1) - (intOf i).toNat)
  case atStart => exact ⟨0, [(0, 0)], [((0, 0), 0)], some ⟨w3.heap.size, 0, none⟩, 1, rfl, rfl, Nat.zero_le _, HS0.out, fun j p hj => absurd hj (Nat.not_lt_zero _), _, Pr.Ord.start next wt most _⟩
  case round =>
    obtain ⟨k, met, src, a, c, rfl, rfl, hk, HST, HSH⟩ := hrel
    have hfew := HST.out.few hS hmo
    by_cases hlt : k < met.length
    · obtain ⟨p, hp⟩ : ∃ p, met[k]? = some p := ⟨_, List.getElem?_eq_getElem hlt⟩
      obtain ⟨g, rfl, hcap, m0, m1⟩ := HST.out.row hp
      obtain ⟨hpS, hpm⟩ := HST.out.ok.low p (List.mem_of_getElem? hp)
      have hki : (k : Int) < (met.length : Int) := by omega
      obtain ⟨wA, hwA⟩ : ∃ wA, wA = wr.alloc (.cells #[.int .i64 (p.1 : Int), .int .i64 (p.2 : Int)] 86) := ⟨_, rfl⟩
      have hbA : Below wr.heap.size wr wA := by rw [hwA]; exact (Below.refl _ _).alloc (Nat.le_refl _) _
      have HSA := hide (HST.out.below hbA)
      have HNO := hide (nextOf_any bm S I gN p.1 next uN wA (HNA.out.below HSA.out.bel) hpS hS)
      have HP := hide hp
      have HAT : Hid (wA.heap[wr.heap.size]? = some (.cells #[.int .i64 (p.1 : Int), .int .i64 (p.2 : Int)] 86 (0, 0))) := by show wA.heap[_]? = _; rw [hwA]; exact heap_alloc_new _ _
      have HNB : Hid (∀ b, (Value.slice (some ⟨g, 0, none⟩) met.length c).ownBlock = some b → b ≠ wr.heap.size) := fun b e => by have := (HST.out.own.lt b e).2; omega
      obtain ⟨a0, a1, _, _⟩ := two_cells HAT.out
      have hszA : wA.heap.size = wr.heap.size + 1 := by rw [hwA]; simp
      rw [hwA] at HNO a0 a1
      have HWA := hide hwA
      clear hp hbA hwA
      go_wp2_with fail
      refine HNO.out.mono ?_
      rintro e wB ⟨⟨bN, hbN, rfl⟩, hwB⟩
      rw [hwB, ← HWA.out]
      rw [← HWA.out] at a0 a1
      have HBN := hide hbN
      clear hbN hwB HNO m0 m1
      go_wp2_with fail
      obtain ⟨wo, rfl⟩ : ∃ wo, wo = wr := ⟨_, rfl⟩
      have hzo := HST.out.bel.size
      have hmo1 := HST.out.map
      have hlM : w.heap.size + 1 < wo.heap.size := by obtain ⟨_, h1, _⟩ := hmo1; exact h1.lt
      clear hmo1 a0 a1 b0 b1
      go_loopw [10, 39] (fun v x wr => ∃ (i : Nat) (met : List (Nat × Nat)) (src : List ((Nat × Nat) × Nat)) (a : Option Addr) (c : Nat), x = .int .i64 (i : Int) ∧ v = .slice a met.length c ∧ i ≤ I ∧ Hid (SSt w next wt S most met src (.slice a met.length c) wr) ∧ Hid (Pr.Shut next wt most met k ∧ Pr.ShutIn next wt most met p i ∧ met[k]? = some p ∧ ∃ ks, Pr.Ord next wt most met src ks k i) ∧ Hid (wr.heap[wo.heap.size]? = some (.cells #[.int .i64 (p.1 : Int), .int .i64 (p.2 : Int)] 86 (0, 0))) ∧ Hid (∀ b, (Value.slice a met.length c).ownBlock = some b → b ≠ wo.heap.size)) (fun _ x _ => I - (intOf x).toNat)
      case atStart => exact ⟨0, met, src, some ⟨g, 0, none⟩, c, rfl, rfl, Nat.zero_le _, HSA.out, ⟨HSH.out.1, fun j hj => absurd hj (Nat.not_lt_zero _), HP.out, HSH.out.2⟩, HAT.out, HNB.out⟩
      case round =>
        clear HST HSH HP HAT HNB HSA hk hfew hlt hcap hki
        obtain ⟨i, met, src, a, c, rfl, rfl, hi, HST, HSH, HAT, HNB⟩ := hrel
        have hfew := HST.out.few hS hmo
        have hkl : k < met.length := (List.getElem?_eq_some_iff.1 HSH.out.2.2.1).1
        by_cases hiI : i < I
        · have hil : i < (next p.1).length := by rw [HNL.out]; exact hiI
          have hx2 := List.getElem?_eq_getElem hil
          have hxS := HNX.out p.1 _ hpS (List.getElem_mem hil)
          have hstep : Pr.step next wt p i = ((next p.1)[i], wt p i) := by
            unfold Pr.step
            rw [List.getD_eq_getElem?_getD, hx2]
            rfl
          have x0 := (((HNA.out.below HST.out.bel).2.2 p.1 bN HBN.out).2) i _ hx2
          have HXN : Hid (∀ s, s ∈ next p.1 → s < S) := fun s hs => HNX.out p.1 s hpS hs
          have HIL := hide hil
          generalize (next p.1)[i] = x at *
          have HSP := hide hstep
          obtain ⟨a0, a1, _, _⟩ := two_cells HAT.out
          have HCW := hide (HWT.out p i wr HST.out.bel hpS hpm hiI)
          have hii : (i : Int) < (I : Int) := by omega
          have hwle := HWL.out p i hpm
          have haW : wo.heap.size < wr.heap.size := (Array.getElem?_eq_some_iff.1 HAT.out).1
          clear hx2 hstep hil
          go_wp2_with fail
          refine HCW.out.mono ?_
          rintro e wE ⟨rfl, hbE⟩
          obtain ⟨y, hy⟩ : ∃ y, y = wt p i := ⟨_, rfl⟩
          rw [← hy] at hwle HSP ⊢
          have HY := hide hy
          obtain ⟨wT, hwT⟩ : ∃ wT, wT = wE.alloc (.cells #[.int .i64 (x : Int), .int .i64 (y : Int)] 86) := ⟨_, rfl⟩
          have hbT : Below wr.heap.size wr wT := by rw [hwT]; exact hbE.alloc hbE.size _
          have HSW := hide (HST.out.below hbT)
          have HAW := hide ((hbT.block _ haW).trans HAT.out)
          have hTO : wT.heap[wE.heap.size]? = some (.cells #[.int .i64 (x : Int), .int .i64 (y : Int)] 86 (0, 0)) := by rw [hwT]; exact heap_alloc_new _ _
          have HTO := hide hTO
          obtain ⟨d0, d1, _, _⟩ := two_cells hTO
          obtain ⟨a0, a1, _, _⟩ := two_cells HAW.out
          have hzE := hbE.size
          have hzT : wT.heap.size = wE.heap.size + 1 := by rw [hwT]; simp
          obtain ⟨s0, s1, _, _⟩ := two_cells HSW.out.beg
          have HWT2 := hide hwT
          have HBT := hide hbT
          by_cases hym : y ≤ most
          · have hyi : ¬ (most : Int) < (y : Int) := by omega
            have hwm : wt p i ≤ most := by rw [← hy]; exact hym
            obtain ⟨z, hlk⟩ := HSW.out.look _ (step_small hS hmo HIL.out hwm HXN.out)
            rw [HSP.out] at hlk
            obtain ⟨wK, hwK⟩ : ∃ wK, wK = wT.alloc (.cells #[.int .i64 (z.1.1 : Int), .int .i64 (z.1.2 : Int), .int .i64 (z.2 : Int)] 114) := ⟨_, rfl⟩
            have hbK : Below wT.heap.size wT wK := by rw [hwK]; exact (Below.refl _ _).alloc (Nat.le_refl _) _
            have HSK := hide (HSW.out.below hbK)
            have HAK := hide ((hbK.block _ (by omega)).trans HAW.out)
            have HTK := hide ((hbK.block _ (by omega)).trans HTO.out)
            have hzK : wK.heap.size = wT.heap.size + 1 := by rw [hwK]; simp
            have HWK := hide hwK
            unfold plV stpV at hlk
            have HWM := hide hwm
            by_cases hmem : Pr.step next wt p i ∈ met
            · have HMEM := hide hmem
              rw [HSP.out] at hmem
              rw [decide_eq_true hmem] at hlk
              rw [hwT] at hlk d0 d1 a0 a1
              clear hmem hwT hbE hbT hTO hwK hbK hy HCW hwm s0 s1
              go_wp2_with fail
              rw [← HWT2.out]
              rw [← HWK.out]
              exact ⟨⟨i + 1, met, src, a, c, by go_num, rfl, by omega, HSK.out, ⟨HSH.out.1, HSH.out.2.1.pass HWM.out HMEM.out, HSH.out.2.2.1, by obtain ⟨ks, ho⟩ := HSH.out.2.2.2; exact ⟨ks, ho.pass HSH.out.2.2.1 HWM.out HMEM.out⟩⟩, HAK.out, HNB.out⟩, by simp [intOf]; omega⟩
            · obtain ⟨W4, hrun, ho4, hg4, hfin⟩ := HSK.out.store hS hmo HSH.out.2.2.1 HIL.out hwm HXN.out hmem
              rw [HSP.out] at hmem hrun
              rw [decide_eq_false hmem] at hlk
              unfold plV stpV at hrun
              have hz4 := hg4.size
              have hT4 : W4.heap[wE.heap.size]? = some (.cells #[.int .i64 (x : Int), .int .i64 (y : Int)] 86 (0, 0)) := (hg4.block _ (by omega) (fun e => by have := Option.some.inj e; omega)).trans HTK.out
              obtain ⟨e0, e1, _, _⟩ := two_cells hT4
              obtain ⟨q0, q1, _, _⟩ := two_cells HTK.out
              obtain ⟨r0, r1, _, _⟩ := two_cells HAK.out
              have HOWN : Hid (∀ o, (W4.alloc o).ownsRow (w.heap.size + 2) 86 2 (.slice a met.length c) met.length (met.flatMap plCells)) := fun o => ho4.alloc o
              have HONE : Hid (∀ u ∈ [Value.int .i64 (x : Int), Value.int .i64 (y : Int)], u.oneCell' = true) := by
                intro u hu
                simp only [List.mem_cons, List.not_mem_nil, or_false] at hu
                rcases hu with rfl | rfl <;> rfl
              have HFIN : Hid (∀ (o : Obj) (g cap : Nat) (wC : World), wC.ownsRow (w.heap.size + 2) 86 2 (.slice (some ⟨g, 0, none⟩) (met.length + 1) cap) (met.length + 1) (met.flatMap plCells ++ [.int .i64 (x : Int), .int .i64 (y : Int)]) → (W4.alloc o).grownBy wC (Value.slice a met.length c).ownBlock → ((Value.slice a met.length c).ownBlock = some g ∨ g = W4.heap.size + 1) →
                  SSt w next wt S most (met ++ [Pr.step next wt p i]) (src ++ [(p, i)]) (.slice (some ⟨g, 0, none⟩) (met.length + 1) cap) wC ∧ wC.heap[wo.heap.size]? = some (.cells #[.int .i64 (p.1 : Int), .int .i64 (p.2 : Int)] 86 (0, 0)) ∧ g ≠ wo.heap.size) := fun o g cap wC hown hgrow hat => by
                obtain ⟨u1, u2⟩ := hfin o g cap wC (by rw [HSP.out]; exact hown) hgrow
                refine ⟨u1, (u2 _ (by omega) (by omega) (fun e => HNB.out _ e.symm rfl)).trans HAK.out, ?_⟩
                rcases hat with h | h
                · exact HNB.out g h
                · omega
              have HNW : Hid (∀ j u, [Value.int .i64 (x : Int), Value.int .i64 (y : Int)][j]? = some u → (W4.alloc (.cells #[.int .i64 (x : Int), .int .i64 (y : Int)] 86)).cell? ((⟨W4.heap.size, 0, none⟩ : Addr).add j) = some u) := World.news_of_block (heap_alloc_new W4 _)
              rw [HWK.out, HWT2.out] at hrun q0 q1 r0 r1
              rw [hwT] at hlk d0 d1 a0 a1
              have hz4' : w.heap.size + 2 ≤ W4.heap.size := by omega
              clear hmem hwT hbE hbT hTO hwK hbK hy HCW hwm s0 s1 hg4 hfin ho4 hT4 hzK
              go_wp2_with (at_builtin; refine wpList_append_lies _ rfl (.tmp 74) (.tmp 76) 116 rfl (w.heap.size + 2) 86 i1 _ 2 16 Tryz.underlying116 hi1 hy0 hy1 hy2 rfl (by decide) (.slice a met.length c) met.length (met.flatMap plCells) rfl (HOWN.out _) ⟨W4.heap.size, 0, none⟩ 1 1 [.int .i64 (x : Int), .int .i64 (y : Int)] rfl rfl HNW.out HONE.out (by decide) (by unfold maxLen; omega) (by omega) (by simp; omega) (W4.heap.size + 1) (by simp) ?_; intro g2 cap2 wC hown hgrow hat hltg; obtain ⟨hsC, haC, hgC⟩ := HFIN.out _ g2 cap2 wC hown hgrow hat; have HSC := hide hsC; have HAC := hide haC; clear hsC haC hown hgrow hat)
              refine ⟨⟨i + 1, met ++ [Pr.step next wt p i], src ++ [(p, i)], some ⟨g2, 0, none⟩, cap2, by go_num, by simp, by omega, ?_, ⟨HSH.out.1.put (by omega) _, HSH.out.2.1.put HWM.out, ?_, by obtain ⟨ks, ho⟩ := HSH.out.2.2.2; exact ⟨_, ho.put HST.out.ok.len HSH.out.2.2.1 HWM.out⟩⟩, HAC.out, ?_⟩, by simp [intOf]; omega⟩
              · show SSt _ _ _ _ _ _ _ (.slice _ (met ++ [Pr.step next wt p i]).length _) _
                rw [List.length_append]; exact HSC.out
              · rw [List.getElem?_append_left hkl]; exact HSH.out.2.2.1
              · intro b e
                have : g2 = b := Option.some.inj e
                omega
          · have hyi : (most : Int) < (y : Int) := by omega
            obtain ⟨fm, hcm, hfm, _⟩ := HSW.out.map
            have HPA := hide (path_any (w.heap.size + 1) _ S most k next wt met src fm p wT HSW.out.ok hcm (fun j q _ hq => hfm j q hq) HSH.out.2.2.1 hS hmo)
            unfold plV at HPA
            obtain ⟨v0, v1, _, _⟩ := two_cells (HST.out.below hbE).beg
            obtain ⟨n0, n1, _, _⟩ := two_cells ((hbE.block _ haW).trans HAT.out)
            have hlw : w.heap.size < wE.heap.size := by omega
            have hlw2 : wo.heap.size < wE.heap.size := by omega
            rw [hwT] at HPA d0 d1 a0 a1 s0 s1
            clear hwT hbE hbT hTO hcm hfm HCW hy
            go_wp2_with fail
            refine HPA.out.mono ?_
            rw [← HWT2.out]
            rintro e wP ⟨l, la, lc, rfl, hol, hfin, hgo, hll, htr, hbP⟩
            have HOWN : Hid (∀ o, (wP.alloc o).ownsRow wT.heap.size 3 1 (.slice la l.length lc) l.length (l.map natV)) := fun o => hol.alloc o
            have HONE : Hid (∀ u ∈ [Value.int .i64 (i : Int)], u.oneCell' = true) := by
              intro u hu
              simp only [List.mem_cons, List.not_mem_nil, or_false] at hu
              subst hu; rfl
            have HFIN : Hid (∀ (o : Obj) (g cap : Nat) (wC : World), wC.ownsRow wT.heap.size 3 1 (.slice (some ⟨g, 0, none⟩) (l.length + 1) cap) (l.length + 1) (l.map natV ++ [.int .i64 (i : Int)]) → (wP.alloc o).grownBy wC (Value.slice la l.length lc).ownBlock → Searched w next wt most (.returned (.tuple #[.bool false, .slice (some ⟨g, 0, none⟩) (l.length + 1) cap])) wC) := fun o g cap wC hown hgrow => by
              have hb1 : Below w.heap.size w wP := HSW.out.bel.trans (hbP.mono HSW.out.bel.size)
              have hzP := hbP.size
              refine ⟨(hb1.alloc hb1.size o).grown hgrow (by simp; have := hb1.size; omega) (fun b e => by have := (hol.lt b e).1; omega), .inr ⟨l ++ [i], g, cap, by simp, ⟨l, i, rfl, hfin, ?_, ?_⟩, by obtain ⟨ks, ho⟩ := HSH.out.2.2.2; exact ho.least HST.out.ok hkl htr, ?_, by simp; omega⟩⟩
              · rw [hgo]; exact HIL.out
              · rw [hgo, ← HY.out]; omega
              · rw [List.map_append, List.length_append]
                exact own_mono hown (by omega)
            have hzP := hbP.size
            have hlb : l.length ≤ 100000 := by omega
            clear hol hfin hgo hbP htr HPA
            go_wp2_with (at_builtin; refine wpList_append_lies _ rfl (.tmp 57) (.tmp 59) 22 rfl wT.heap.size 3 i0 _ 1 8 Tryz.underlying22 hi0 hz0 hz1 hz2 rfl (by decide) (.slice la l.length lc) l.length (l.map natV) rfl (HOWN.out _) ⟨wP.heap.size, 0, none⟩ 1 1 [.int .i64 (i : Int)] rfl rfl (World.news_of_block (heap_alloc_new wP _)) HONE.out (by decide) (by unfold maxLen; omega) (by omega) (by simp; omega) (wP.heap.size + 1) (by simp) ?_; intro g2 cap2 wC hown hgrow hat hltg; have HSE := hide (HFIN.out _ g2 cap2 wC hown hgrow); clear hown hgrow hat)
            refine bodyPost_ret (results_tmp2 rfl _ _ _) rfl ?_
            exact HSE.out
        · have hiI' : i = I := by omega
          have HSH2 : Hid (Pr.Shut next wt most met (k + 1) ∧ ∃ ks, Pr.Ord next wt most met src ks (k + 1) 0) := by
            refine ⟨HSH.out.1.next HSH.out.2.2.1 (by rw [HNL.out, ← hiI']; exact HSH.out.2.1), ?_⟩
            obtain ⟨ks, ho⟩ := HSH.out.2.2.2
            rw [hiI', ← HNL.out p.1] at ho
            exact ⟨ks, ho.next HSH.out.2.2.1⟩
          have hdn : k < S * (most + 1) := by have := HST.out.ok.few; omega
          go_wp2_with fail
          exact ⟨⟨k + 1, met, src, a, c, by go_num, rfl, by omega, HST.out, HSH2.out⟩, by simp [intOf]; omega⟩
    · have hkl : k = met.length := by omega
      subst hkl
      have HFN : Hid (Searched w next wt most (.returned (.tuple #[.bool true, .slice none 0 0])) wr) := ⟨HST.out.bel, .inl ⟨rfl, Pr.Held.of HST.out.ok HSH.out.1⟩⟩
      go_wp2_with fail
      refine bodyPost_ret (results_tmp2 rfl _ _ _) rfl ?_
      exact HFN.out
end
section
open Go.RowKit
namespace Rc
/-- the first k of a list, the others false -/
def inTo (l : List Bool) (k : Nat) : List Bool := l.take k ++ List.replicate (l.length - k) false
theorem inTo_len (l : List Bool) (k : Nat) (hk : k ≤ l.length) : (inTo l k).length = l.length := by simp [inTo]; omega
theorem inTo_zero (l : List Bool) : inTo l 0 = List.replicate l.length false := by simp [inTo]
theorem inTo_all (l : List Bool) : inTo l l.length = l := by simp [inTo]
theorem inTo_set (l : List Bool) (k : Nat) (hk : k < l.length) (x : Bool) (hx : l[k]? = some x) : (inTo l k).set k x = inTo l (k + 1) := by
  have h := fill_set (l.take k) false x l.length (by rw [List.length_take]; omega)
  have e : (l.take k).length = k := by rw [List.length_take]; omega
  rw [e] at h
  unfold inTo
  rw [h]
  obtain ⟨_, e2⟩ := List.getElem?_eq_some_iff.1 hx
  rw [List.take_succ_eq_append_getElem hk, e2]
  congr 2
  simp
  omega
theorem inTo_at (l : List Bool) (k : Nat) (hk : k < l.length) : (inTo l k)[k]? = some false := by
  unfold inTo
  rw [List.getElem?_append_right (by rw [List.length_take]; omega), List.getElem?_replicate, if_pos (by rw [List.length_take]; omega)]
end Rc
end
section
open Go.RowKit
/-- a table of rows of bools that a call has made: those that are there, the others nil -/
structure GT (w : World) (g S I : Nat) (us : List Nat) (row : Nat → List Bool) (W : World) : Prop where
  few : us.length ≤ S
  top : RowIs W g 35 (us.map (fun b => slV b I) ++ List.replicate (S - us.length) (.slice none 0 0))
  rows : ∀ (s b : Nat), us[s]? = some b → BRow W b (row s) [] ∧ g < b
  len : ∀ s, s < us.length → (row s).length = I
  lo : w.heap.size ≤ g
  bel : Below w.heap.size w W
theorem GT.below {w W W' : World} {g S I : Nat} {us : List Nat} {row : Nat → List Bool} (h : GT w g S I us row W) (hb : Below W.heap.size W W') : GT w g S I us row W' :=
  ⟨h.few, RowIs.below h.top hb, fun s b hs => ⟨(h.rows s b hs).1.below hb, (h.rows s b hs).2⟩, h.len, h.lo, h.bel.trans (hb.mono h.bel.size)⟩
/-- one row more, all false -/
theorem GT.new {w W : World} {g S I : Nat} {us : List Nat} {row : Nat → List Bool} (h : GT w g S I us row W) (hk : us.length < S) (l : List Bool) (hl : l.length = I) (cS : List Value) (hc : cS = List.replicate I (.bool false)) : GT w g S I (us ++ [W.heap.size]) (fun s => if s = us.length then Rc.inTo l 0 else row s) ((W.setCell ⟨g, us.length, none⟩ (.slice (some ⟨W.heap.size, 0, none⟩) I I)).alloc (.cells ⟨cS⟩ 4)) := by
  have hg : g < W.heap.size := h.top.lt
  have hz : (W.setCell ⟨g, us.length, none⟩ (.slice (some ⟨W.heap.size, 0, none⟩) I I)).heap.size = W.heap.size := by simp [World.setCell]
  refine ⟨by simp; omega, ?_, ?_, ?_, h.lo, ?_⟩
  · have h1 := (h.top.set us.length (.slice (some ⟨W.heap.size, 0, none⟩) I I)).alloc (.cells ⟨cS⟩ 4)
    have h2 := fill_set (us.map (fun b => slV b I)) (.slice none 0 0) (slV W.heap.size I) S (by simpa using hk)
    rw [List.length_map] at h2
    unfold slV at h1 h2 ⊢
    rw [h2] at h1
    rw [List.map_append, List.length_append]
    simpa using h1
  · intro s b hs
    by_cases hsl : s < us.length
    · rw [List.getElem?_append_left hsl] at hs
      obtain ⟨h1, h2⟩ := h.rows s b hs
      rw [if_neg (by omega)]
      exact ⟨RowIs.alloc (RowIs.other h1 g us.length _ (by omega)) _, h2⟩
    · have hse : s = us.length := by
        have := (List.getElem?_eq_some_iff.1 hs).1
        simp at this
        omega
      subst hse
      rw [List.getElem?_append_right (Nat.le_refl _)] at hs
      simp at hs
      subst hs
      rw [if_pos rfl]
      refine ⟨?_, hg⟩
      have h1 := RowIs.new (W.setCell ⟨g, us.length, none⟩ (.slice (some ⟨W.heap.size, 0, none⟩) I I)) 4 cS
      rw [hz] at h1
      unfold BRow
      rw [Rc.inTo_zero, hl, List.append_nil, List.map_replicate]
      rw [hc] at h1 ⊢
      exact h1
  · intro s hs
    split
    · rw [Rc.inTo_len _ _ (Nat.zero_le _)]; exact hl
    · refine h.len s ?_
      simp at hs
      omega
  · have h1 : Below w.heap.size w (W.setCell ⟨g, us.length, none⟩ (.slice (some ⟨W.heap.size, 0, none⟩) I I)) := h.bel.setCell (p := ⟨g, us.length, none⟩) h.lo _
    exact h1.alloc h1.size _
/-- one more of the last row -/
theorem GT.set {w W : World} {g S I b i : Nat} {us : List Nat} {row : Nat → List Bool} {l : List Bool} {x : Bool} (h : GT w g S I (us ++ [b]) (fun s => if s = us.length then Rc.inTo l i else row s) W) (hd : ∀ s : Nat, us[s]? ≠ some b) (hl : l.length = I) (hi : i < I) (hx : l[i]? = some x) : GT w g S I (us ++ [b]) (fun s => if s = us.length then Rc.inTo l (i + 1) else row s) (W.setCell ⟨b, i, none⟩ (.bool x)) := by
  obtain ⟨h1, h2⟩ := h.rows us.length b (by rw [List.getElem?_append_right (Nat.le_refl _)]; simp)
  rw [if_pos rfl] at h1
  refine ⟨h.few, RowIs.other h.top b i _ (by omega), ?_, ?_, h.lo, h.bel.setCell (p := ⟨b, i, none⟩) (by show w.heap.size ≤ b; have := h.lo; omega) _⟩
  · intro s c hs
    by_cases hsl : s < us.length
    · obtain ⟨h3, h4⟩ := h.rows s c hs
      rw [List.getElem?_append_left hsl] at hs
      rw [if_neg (by omega)] at h3 ⊢
      exact ⟨RowIs.other h3 b i _ (fun e => hd s (e ▸ hs)), h4⟩
    · have hse : s = us.length := by
        have := (List.getElem?_eq_some_iff.1 hs).1
        simp at this
        omega
      subst hse
      rw [List.getElem?_append_right (Nat.le_refl _)] at hs
      simp at hs
      subst hs
      rw [if_pos rfl]
      have h5 := h1.set i x (by rw [Rc.inTo_len _ _ (by omega)]; omega)
      rw [Rc.inTo_set l i (by omega) x hx] at h5
      exact ⟨h5, h2⟩
  · intro s hs
    split
    · rw [Rc.inTo_len _ _ (by omega)]; exact hl
    · have := h.len s hs
      rw [if_neg (by assumption)] at this
      exact this
end
section
open Go.RowKit
theorem IsMach.next {W : World} {bm : Nat} {p : Ld.Prg} (h : IsMach W bm p) : ∃ gN uN, NextAt W bm (Mc.total (Mc.parts p)) (2 ^ (Ld.kindL p.names 1).length) (Mc.nexts p) gN uN := by
  obtain ⟨nv, rv, g, gN, gS, lo, uN, uS, h1, ⟨⟨h2, _⟩, h3, _⟩, _⟩ := h
  refine ⟨gN, uN, h1.cells.2.2.1, h2, fun s b hs => ⟨h3.cell s b hs, fun i x hx => ?_⟩⟩
  have hr := (h3.row s b hs).1
  rw [Mc.nexts_row] at hr
  exact hr.cell i _ (by rw [List.getElem?_map, hx]; rfl)
end
section
open Go.RowKit
/-- the table and the sizes of a machine, as one reads them -/
theorem IsMach.sizes {W : World} {bm : Nat} {p : Ld.Prg} (h : IsMach W bm p) : W.cell? ⟨bm, 2, none⟩ = some (.int .i64 (Mc.total (Mc.parts p) : Int)) ∧ W.cell? ⟨bm, 3, none⟩ = some (.int .i64 ((2 ^ (Ld.kindL p.names 1).length : Nat) : Int)) := by
  obtain ⟨nv, rv, g, gN, gS, lo, uN, uS, h1, _⟩ := h
  exact ⟨h1.cells.2.1.1, h1.cells.2.1.2⟩
theorem made_few {s : ByteArray} {most : Nat} {p : Ld.Prg} (h : some p = madeP s most) : (Ld.kindL p.names 1).length ≤ 4 ∧ Mc.total (Mc.parts p) ≤ most := by
  unfold madeP at h
  cases hr : readP s with
  | none => rw [hr] at h; simp [fewP] at h
  | some p' =>
    rw [hr] at h
    simp only [fewP] at h
    split at h
    · rename_i hx; cases h; exact hx
    · cases h
end
section
open Go.RowKit
namespace Pr
/-- an expression behind the scan at a state and an input -/
def good (p : Ld.Prg) (x : Ex) (s i : Nat) : Bool := x.eval (Sc.told p.names (Mc.after1 p (Ld.kindL p.names 1).length s i).is) (Sc.told p.names (Mc.state (Mc.parts p) s).is)
def goodRow (p : Ld.Prg) (x : Ex) (I s : Nat) : List Bool := (List.range I).map (good p x s)
theorem goodRow_len (p : Ld.Prg) (x : Ex) (I s : Nat) : (goodRow p x I s).length = I := by simp [goodRow]
theorem goodRow_at (p : Ld.Prg) (x : Ex) (I s i : Nat) (h : i < I) : (goodRow p x I s)[i]? = some (good p x s i) := by simp [goodRow, h]
end Pr
/-- what a machine answers, in each world behind -/
structure MView (w : World) (bm : Nat) (p : Ld.Prg) (na : Option Addr) (nk nc : Nat) (ra : Option Addr) (rk rc : Nat) : Prop where
  prog : ∀ W, Below w.heap.size w W → W.cell? ⟨bm, 0, none⟩ = some (.slice na nk nc) ∧ W.cell? ⟨bm, 1, none⟩ = some (.slice ra rk rc) ∧ NamesAt W (.slice na nk nc) p.names
  state : ∀ W (s : Nat), Below w.heap.size w W → s < Mc.total (Mc.parts p) → Calls Tryz.prog 14 #[.pointer (some ⟨bm, 0, none⟩), .int .i64 (s : Int)] W (NewSt W (Mc.state (Mc.parts p) s))
  sees : ∀ W (s i : Nat), Below w.heap.size w W → s < Mc.total (Mc.parts p) → i < 2 ^ (Ld.kindL p.names 1).length → Calls Tryz.prog 11 #[.pointer (some ⟨bm, 0, none⟩), .int .i64 (s : Int), .int .i64 (i : Int)] W fun e w' => ∃ gb, e = .returned (.tuple #[slV gb p.names.length, .nilIface]) ∧ RowIs w' gb 4 ((Mc.after1 p (Ld.kindL p.names 1).length s i).is.map boolV) ∧ W.heap.size ≤ gb ∧ Below W.heap.size W w'
  lens : ∀ s i, (Mc.state (Mc.parts p) s).is.length = p.names.length ∧ (i < 2 ^ (Ld.kindL p.names 1).length → (Mc.after1 p (Ld.kindL p.names 1).length s i).is.length = p.names.length)
theorem IsMach.view {w : World} {bm : Nat} {p : Ld.Prg} (h : IsMach w bm p) (hck : Ld.check p = none) (hS : Mc.total (Mc.parts p) ≤ 4096) : ∃ na nk nc ra rk rc, MView w bm p na nk nc ra rk rc := by
  obtain ⟨nv, rv, g, gN, gS, lo, uN, uS, h1, ⟨⟨hN1, hN2⟩, h3, h4⟩, h5, h6⟩ := h
  obtain ⟨⟨c0, c1⟩, _⟩ := h1.cells
  have hbl : bm < w.heap.size := World.block_lt_of_cell? _ _ c0
  obtain ⟨nv', rv', he, hn, hr⟩ := h5
  simp only [Value.agg.injEq, List.toArray_eq_iff, List.cons.injEq, and_true] at he
  obtain ⟨rfl, rfl⟩ := he
  obtain ⟨na, nk, nc, rfl⟩ := slice_of hn
  obtain ⟨ra, rk, rc, rfl⟩ := slice_ofR hr
  have hls : ∀ s, (Mc.state (Mc.parts p) s).is.length = p.names.length := fun s => (Mc.stateI_len _ _).trans (Mc.parts_len p)
  have hla : ∀ s i, (Mc.after1 p (Ld.kindL p.names 1).length s i).is.length = p.names.length := fun s i => (Sc.step_bd p hck _ (bitsTo i (Ld.kindL p.names 1).length) (Mc.state_bd p hck s) (by rw [bitsTo_len])).1.li
  refine ⟨na, nk, nc, ra, rk, rc, fun W hW => ⟨(hW.cell (p := ⟨bm, 0, none⟩) hbl).trans c0, (hW.cell (p := ⟨bm, 1, none⟩) hbl).trans c1, hn.below hW⟩, fun W s hW hs => ?_, fun W s i hW hs hi => ?_, fun s i => ⟨hls s, fun _ => hla s i⟩⟩
  · exact MState_any bm p _ _ _ _ _ _ s g W (h1.below hW) (h6.below hW) hs hS hck
  · have h7 := Sees_any bm p.names.length _ _ _ _ _ g gS lo s i (Mc.val (Mc.after1 p (Ld.kindL p.names 1).length s i).is) uS _ W (h1.below hW) (h4.below hW) hN2 hs hi (Ld.check_names p hck).1 (Mc.seesRow_at _ _ _ _ _ hi)
    have e := Mc.val_back (Mc.after1 p (Ld.kindL p.names 1).length s i).is
    rw [hla s i] at e
    rw [e] at h7
    exact h7
end
end Go.Proofs.YtgblillplgdbaaaGreatDoor
