/-
  The walk of package reach's ahead: of each state those that lead to it. Plain mathematics of chapter 5: the least sets that are shut (TARSKI), and what the two have to do with each other. How a set of states grows, in memory. The walks of the statements' own pick, sameBools and sameInts.
-/
import Derived.Test.YtdmnikbhkpcdpaaGreatDoorRcRowAll
import Derived.Test.YtdmnikbhkpcdpaaGreatDoorMcPlaysAll
namespace Go.Proofs.YtdmnikbhkpcdpaaGreatDoor
section
open Go.RowKit
namespace Rc
/-- those that lead to a state, of the first f, and of the next one by its first b inputs -/
def preTo (next : Nat → List Nat) (f b t : Nat) : List Nat := (List.range f).filter (fun s => (next s).contains t) ++ (if ((next f).take b).contains t then [f] else [])
theorem preTo_zero (next : Nat → List Nat) (t : Nat) : preTo next 0 0 t = [] := by simp [preTo]
theorem preTo_next (next : Nat → List Nat) (f t : Nat) : preTo next f (next f).length t = preTo next (f + 1) 0 t := by
  unfold preTo
  rw [List.take_length, List.range_succ, List.filter_append, List.take_zero]
  have e : (List.filter (fun s => (next s).contains t) [f]) = if (next f).contains t then [f] else [] := by
    rw [List.filter_cons, List.filter_nil]
  rw [e]; simp
theorem preTo_len (next : Nat → List Nat) (f b t : Nat) : (preTo next f b t).length ≤ f + 1 := by
  unfold preTo
  rw [List.length_append]
  have h1 := List.length_filter_le (fun s => (next s).contains t) (List.range f)
  rw [List.length_range] at h1
  have h2 : (if ((next f).take b).contains t then [f] else []).length ≤ 1 := by split <;> simp
  omega
theorem preTo_lt (next : Nat → List Nat) (f b t x : Nat) (h : x ∈ preTo next f b t) : x ≤ f := by
  unfold preTo at h
  rcases List.mem_append.1 h with h | h
  · have := List.mem_range.1 (List.mem_filter.1 h).1; omega
  · split at h <;> simp at h; omega
theorem preTo_put (next : Nat → List Nat) (f b u : Nat) (hb : (next f)[b]? = some u) (hn : u ∉ (next f).take b) : ∀ t, preTo next f (b + 1) t = if t = u then preTo next f b u ++ [f] else preTo next f b t := by
  intro t
  obtain ⟨hbl, e⟩ := List.getElem?_eq_some_iff.1 hb
  unfold preTo
  rw [List.take_succ_eq_append_getElem hbl, e]
  by_cases h : t = u
  · subst h
    have h1 : ((next f).take b).contains t = false := by simpa using hn
    rw [if_pos rfl, h1]; simp
  · rw [if_neg h]
    have h1 : ((next f).take b ++ [u]).contains t = ((next f).take b).contains t := by simp [h]
    rw [h1]
theorem preTo_pass (next : Nat → List Nat) (f b u : Nat) (hb : (next f)[b]? = some u) (hn : u ∈ (next f).take b) : ∀ t, preTo next f (b + 1) t = preTo next f b t := by
  intro t
  obtain ⟨hbl, e⟩ := List.getElem?_eq_some_iff.1 hb
  unfold preTo
  rw [List.take_succ_eq_append_getElem hbl, e]
  by_cases h : t = u
  · subst h
    have h1 : ((next f).take b).contains t = true := by simpa using hn
    have h2 : ((next f).take b ++ [t]).contains t = true := by simp
    rw [h1, h2]
  · have h1 : ((next f).take b ++ [u]).contains t = ((next f).take b).contains t := by simp [h]
    rw [h1]
theorem preTo_last (next : Nat → List Nat) (f b u : Nat) (hn : u ∈ (next f).take b) : ∃ l, preTo next f b u = l ++ [f] := by
  have h1 : ((next f).take b).contains u = true := by simpa using hn
  exact ⟨_, by unfold preTo; rw [h1]; rfl⟩
theorem preTo_other (next : Nat → List Nat) (f b u x : Nat) (hn : u ∉ (next f).take b) (hx : x ∈ preTo next f b u) : x < f := by
  have h1 : ((next f).take b).contains u = false := by simpa using hn
  unfold preTo at hx
  rw [h1] at hx
  simp only [Bool.false_eq_true, if_false, List.append_nil] at hx
  exact List.mem_range.1 (List.mem_filter.1 hx).1
theorem preTo_all (next : Nat → List Nat) (S t s : Nat) : s ∈ preTo next S 0 t ↔ s < S ∧ t ∈ next s := by
  unfold preTo
  simp [List.mem_filter]
end Rc
/-- a table of rows that grow, each its own -/
structure AhAt (W : World) (gA S q : Nat) (vs : List Value) (P : Nat → List Nat) : Prop where
  top : RowIs W gA 22 vs
  len : vs.length = S
  own : ∀ (t : Nat) v, vs[t]? = some v → W.ownsRow q 3 1 v (P t).length ((P t).map intV)
  apart : ∀ (t t' : Nat) v v' b, vs[t]? = some v → vs[t']? = some v' → v.ownBlock = some b → v'.ownBlock = some b → t = t'
theorem AhAt.below {W W' : World} {gA S q : Nat} {vs : List Value} {P : Nat → List Nat} (h : AhAt W gA S q vs P) (hb : Below W.heap.size W W') : AhAt W' gA S q vs P :=
  ⟨h.top.below hb, h.len, fun t v hv => own_below (h.own t v hv) hb, h.apart⟩
theorem AhAt.congr {W : World} {gA S q : Nat} {vs : List Value} {P P' : Nat → List Nat} (h : AhAt W gA S q vs P) (e : ∀ t, P' t = P t) : AhAt W gA S q vs P' := by
  have : P' = P := funext e
  rw [this]; exact h
theorem AhAt.start (W : World) (S q : Nat) (next : Nat → List Nat) : AhAt (W.alloc (.cells ⟨List.replicate S (.slice none 0 0)⟩ 22)) W.heap.size S q (List.replicate S (.slice none 0 0)) (Rc.preTo next 0 0) := by
  have hv : ∀ (t : Nat) v, (List.replicate S (Value.slice none 0 0))[t]? = some v → v = .slice none 0 0 := fun t v h => (List.mem_replicate.1 (List.mem_of_getElem? h)).2
  refine ⟨RowIs.new _ _ _, by simp, fun t v h => ?_, fun t t' v v' b h _ hb => ?_⟩
  · rw [hv t v h, Rc.preTo_zero]; exact World.ownsRow_nil _ _ _ _
  · rw [hv t v h] at hb; cases hb
theorem AhAt.put {W wC : World} {gA S q u f g2 cap2 : Nat} {vs : List Value} {P : Nat → List Nat} {v : Value} {o : Obj} (h : AhAt W gA S q vs P) (hgA : gA < q) (hu : vs[u]? = some v)
    (hown : wC.ownsRow q 3 1 (.slice (some ⟨g2, 0, none⟩) ((P u).length + 1) cap2) ((P u).length + 1) ((P u).map intV ++ [intV f])) (hgrow : (W.alloc o).grownBy wC v.ownBlock) (hloc : v.ownBlock = some g2 ∨ g2 = W.heap.size + 1) :
    AhAt (wC.setCell ⟨gA, u, none⟩ (.slice (some ⟨g2, 0, none⟩) ((P u).length + 1) cap2)) gA S q (vs.set u (.slice (some ⟨g2, 0, none⟩) ((P u).length + 1) cap2)) (fun t => if t = u then P u ++ [f] else P t) := by
  have hul : u < vs.length := (List.getElem?_eq_some_iff.1 hu).1
  have hov := h.own u v hu
  have hgr : wC.grownBy (wC.setCell ⟨gA, u, none⟩ (.slice (some ⟨g2, 0, none⟩) ((P u).length + 1) cap2)) (some gA) := ⟨rfl, rfl, rfl, by simp [World.setCell], fun b _ hb => Below.heap_setCell _ _ _ _ (fun e => hb (congrArg some e))⟩
  have hne : ∀ {x : Value} {n : Nat} {l : List Value} {Z : World}, Z.ownsRow q 3 1 x n l → x.ownBlock = none ∨ x.ownBlock ≠ some gA := fun {x n l Z} hx => by
    cases hb : x.ownBlock with
    | none => exact .inl rfl
    | some b => exact .inr (fun e => by cases e; have := (hx.lt _ hb).1; omega)
  have hcase : ∀ (t : Nat) x, (vs.set u (.slice (some ⟨g2, 0, none⟩) ((P u).length + 1) cap2))[t]? = some x → (t = u ∧ x = .slice (some ⟨g2, 0, none⟩) ((P u).length + 1) cap2) ∨ (t ≠ u ∧ vs[t]? = some x) := fun t x hx => by
    by_cases e : t = u
    · subst e
      rw [List.getElem?_set_self hul] at hx
      exact .inl ⟨rfl, (Option.some.inj hx).symm⟩
    · rw [List.getElem?_set_ne (fun e2 => e e2.symm)] at hx
      exact .inr ⟨e, hx⟩
  have htop : RowIs wC gA 22 vs := by
    have h1 := h.top.alloc o
    refine (hgrow.block _ h1.lt (fun e => ?_)).trans h1
    have := (hov.lt _ e.symm).1
    omega
  refine ⟨htop.set u _, by simp [h.len], fun t x hx => ?_, fun t t' x x' b hx hx' hb hb' => ?_⟩
  · rcases hcase t x hx with ⟨rfl, rfl⟩ | ⟨hne2, hx⟩
    · have h1 := hown.kept hgr (hne hown)
      simp only [if_true]
      rw [List.length_append, List.map_append]
      exact h1
    · have h1 := h.own t x hx
      rw [if_neg hne2]
      refine ((h1.alloc o).kept hgrow ?_).kept hgr (hne h1)
      cases hb : x.ownBlock with
      | none => exact .inl rfl
      | some b => exact .inr (fun e => hne2 (h.apart t u x v b hx hu hb e.symm))
  · rcases hcase t x hx with ⟨e1, e2⟩ | ⟨hne2, hy⟩
    · rcases hcase t' x' hx' with ⟨e3, e4⟩ | ⟨hne3, hy'⟩
      · rw [e1, e3]
      · exfalso
        rw [e2] at hb
        cases hb
        have h1 := (h.own t' x' hy').lt _ hb'
        rcases hloc with hl | hl
        · exact hne3 (h.apart t' u x' v _ hy' hu hb' hl)
        · simp only at h1; omega
    · rcases hcase t' x' hx' with ⟨e3, e4⟩ | ⟨hne3, hy'⟩
      · exfalso
        rw [e4] at hb'
        cases hb'
        have h1 := (h.own t x hy).lt _ hb
        rcases hloc with hl | hl
        · exact hne2 (h.apart t u x v _ hy hu hb hl)
        · simp only at h1; omega
      · exact h.apart t t' x x' b hy hy' hb hb'
/-- what ahead comes to -/
def Aheaded (w : World) (S : Nat) (next : Nat → List Nat) (e : Ending) (w' : World) : Prop := ∃ g vs, e = .returned (slV g S) ∧ AhAt w' g S (g + 1) vs (Rc.preTo next S 0) ∧ w.heap.size ≤ g ∧ Below w.heap.size w w'
set_option maxHeartbeats 8000000 in
set_option maxRecDepth 100000 in
theorem ahead_any (bm S I gN : Nat) (next : Nat → List Nat) (uN : List Nat) (w : World) (h : NextAt w bm S I next gN uN) (hS : S ≤ 4096) (hI : I ≤ 64) (hnl : ∀ s, (next s).length = I) (hnx : ∀ f s, f < S → s ∈ next f → s < S) :
    Calls Tryz.prog 89 #[.pointer (some ⟨bm, 0, none⟩)] w (Aheaded w S next) := by
  obtain ⟨i0, hi0, hz0, hz1, hz2⟩ := info_parts Tryz.infoInt
  have HNA := hide h
  have HNL := hide hnl
  have HNX := hide hnx
  have mk := fun w => makeIss S (by omega) w
  obtain ⟨c4, hul, _⟩ := h
  have hbm : bm < w.heap.size := World.block_lt_of_cell? _ _ c4
  obtain ⟨cS, hcS⟩ : ∃ c, c = List.replicate S (Value.slice none 0 0) := ⟨_, rfl⟩
  rw [← hcS] at mk
  obtain ⟨w1, hw1⟩ : ∃ w1, w1 = w.alloc (.cells ⟨cS⟩ 22) := ⟨_, rfl⟩
  have HA1 : Hid (AhAt w1 w.heap.size S (w.heap.size + 1) cS (Rc.preTo next 0 0)) := by rw [hw1, hcS]; exact AhAt.start w S _ next
  have HB1 : Hid (Below w.heap.size w w1) := by rw [hw1]; exact (Below.refl _ _).alloc (Nat.le_refl _) _
  clear hcS hul hnl hnx
  go_enter Tryz.func89, Tryz.ntmps89
  go_wp2_with fail
  rw [← hw1]
  clear hw1
  go_loopw [20] (fun i wr => ∃ f : Nat, f ≤ S ∧ i = .int .i64 (f : Int) ∧ Hid (∃ vs, AhAt wr w.heap.size S (w.heap.size + 1) vs (Rc.preTo next f 0)) ∧ Hid (Below w.heap.size w wr)) (fun i _ => S - (intOf i).toNat)
  case atStart => exact ⟨0, Nat.zero_le _, rfl, ⟨_, HA1.out⟩, HB1.out⟩
  case round =>
    obtain ⟨f, hf, rfl, HA, HB⟩ := hrel
    by_cases hlt : f < S
    · have hna := HNA.out.below HB.out
      obtain ⟨bN, hbN⟩ : ∃ b, uN[f]? = some b := ⟨_, List.getElem?_eq_getElem (by rw [hna.2.1]; exact hlt)⟩
      have n1 := (hna.2.2 f bN hbN).1
      have HBN := hide hbN
      clear hna hbN
      go_wp2_with fail
      go_loopw [27] (fun i wr => ∃ b : Nat, b ≤ I ∧ i = .int .i64 (b : Int) ∧ Hid (∃ vs, AhAt wr w.heap.size S (w.heap.size + 1) vs (Rc.preTo next f b)) ∧ Hid (Below w.heap.size w wr)) (fun i _ => I - (intOf i).toNat)
      case atStart => exact ⟨0, Nat.zero_le _, rfl, HA.out, HB.out⟩
      case round =>
        obtain ⟨b, hb, rfl, HA, HB⟩ := hrel
        by_cases hbI : b < I
        · have hbl : b < (next f).length := by rw [HNL.out]; exact hbI
          have hx := List.getElem?_eq_getElem hbl
          have hxk : (next f)[b] < S := HNX.out f _ hlt (List.getElem_mem hbl)
          have hna := HNA.out.below HB.out
          have n2 := (hna.2.2 f bN HBN.out).2 b _ hx
          have HX := hide hx
          generalize (next f)[b] = u at *
          obtain ⟨vs, hah⟩ := HA.out
          obtain ⟨v, hv⟩ : ∃ v, vs[u]? = some v := ⟨_, List.getElem?_eq_getElem (by rw [hah.len]; exact hxk)⟩
          have hov := hah.own u v hv
          have t0 := hah.top.cell u v hv
          have tf := hah.top.frozen u
          obtain ⟨va, vc, rfl⟩ := own_slice hov
          have hpl := Rc.preTo_len next f b u
          have hwl : w.heap.size < wr.heap.size := World.block_lt_of_cell? _ _ t0
          have HAH := hide hah
          have HV := hide hv
          have HOV := hide hov
          have HPX := hide (fun hn => Rc.preTo_put next f b u HX.out hn)
          have HPS := hide (fun hn => Rc.preTo_pass next f b u HX.out hn)
          have HLA := hide (fun hn => Rc.preTo_last next f b u hn)
          have HOT := hide (fun x hn => Rc.preTo_other next f b u x hn)
          obtain ⟨pl, hplE⟩ : ∃ pl, pl = Rc.preTo next f b u := ⟨_, rfl⟩
          have HPE := hide hplE
          rw [← hplE] at hpl HOV HLA HOT t0 HV
          rw [← hplE] at HPX
          clear hna hx hah hv hov hplE
          have HONE : Hid (∀ u ∈ [Value.int .i64 (f : Int)], u.oneCell' = true) := by
            intro u hu
            simp only [List.mem_cons, List.not_mem_nil, or_false] at hu
            subst hu; rfl
          have hul : u < vs.length := (List.getElem?_eq_some_iff.1 HV.out).1
          have HFIN0 : Hid (u ∉ (next f).take b → ∀ (o : Obj) (g cap : Nat) (wC : World), wC.ownsRow (w.heap.size + 1) 3 1 (.slice (some ⟨g, 0, none⟩) (pl.length + 1) cap) (pl.length + 1) (pl.map intV ++ [intV f]) → (wr.alloc o).grownBy wC (Value.slice va pl.length vc).ownBlock → ((Value.slice va pl.length vc).ownBlock = some g ∨ g = wr.heap.size + 1) →
              (∃ vs, AhAt (wC.setCell ⟨w.heap.size, u, none⟩ (.slice (some ⟨g, 0, none⟩) (pl.length + 1) cap)) w.heap.size S (w.heap.size + 1) vs (Rc.preTo next f (b + 1))) ∧ Below w.heap.size w (wC.setCell ⟨w.heap.size, u, none⟩ (.slice (some ⟨g, 0, none⟩) (pl.length + 1) cap)) ∧ wC.cell? ⟨w.heap.size, u, none⟩ = some (.slice va pl.length vc) ∧ wC.frozen? ⟨w.heap.size, u, none⟩ = false) := by
            intro hn o g cap wC hown hgrow hloc
            have h1 := HAH.out.put (o := o) (f := f) (g2 := g) (cap2 := cap) (Nat.lt_succ_self _) HV.out (by rw [← HPE.out]; exact hown) hgrow hloc
            rw [← HPE.out] at h1
            have htop : RowIs wC w.heap.size 22 vs := by
              have h2 := HAH.out.top.alloc o
              refine (hgrow.block _ h2.lt (fun e => ?_)).trans h2
              have := (HOV.out.lt _ e.symm).1
              omega
            refine ⟨⟨_, h1.congr (HPX.out hn)⟩, ?_, htop.cell u _ HV.out, htop.frozen u⟩
            exact ((HB.out.alloc HB.out.size o).grown hgrow (by simp; omega) (fun j e => by have := (HOV.out.lt j e).1; omega)).setCell (p := ⟨w.heap.size, u, none⟩) (Nat.le_refl _) _
          by_cases hmem : u ∈ (next f).take b
          · obtain ⟨l, hl⟩ := HLA.out hmem
            obtain ⟨m, hm⟩ : ∃ m, pl.length = m + 1 := ⟨l.length, by rw [hl]; simp⟩
            obtain ⟨gv, hva, hcv, m0⟩ : ∃ g, va = some ⟨g, 0, none⟩ ∧ m + 1 ≤ vc ∧ wr.cell? ⟨g, m, none⟩ = some (intV f) := by
              rcases HOV.out.2 with ⟨_, h0⟩ | ⟨g, cap, cur, h1, _, hcur, hcap, _, _, htk⟩
              · omega
              · simp only [Value.slice.injEq] at h1
                have e : l.length = m := by rw [hl] at hm; simpa using hm
                exact ⟨g, h1.1, by rw [h1.2.2, ← hm]; exact hcap, row_cell hcur htk (by rw [List.getElem?_map, hl, ← e]; simp)⟩
            subst hva
            unfold intV at m0
            rw [hm] at t0
            have HAN : Hid (∃ vs, AhAt wr w.heap.size S (w.heap.size + 1) vs (Rc.preTo next f (b + 1))) := ⟨vs, HAH.out.congr (HPS.out hmem)⟩
            have hm5 : m ≤ 5000 := by omega
            have hm0 : ((m : Int) + 1 == 0) = false := by simp; omega
            clear hl hm hpl HFIN0
            go_wp2_with fail
            exact ⟨⟨b + 1, by omega, by go_num, HAN.out, HB.out⟩, by simp [intOf]; omega⟩
          · have HFIN := hide (HFIN0.out hmem (.cells #[.int .i64 (f : Int)] 3))
            have HOWN : Hid (∀ o, (wr.alloc o).ownsRow (w.heap.size + 1) 3 1 (.slice va pl.length vc) pl.length (pl.map intV)) := fun o => HOV.out.alloc o
            by_cases h0 : pl.length = 0
            · rw [h0] at t0 HFIN HOWN
              go_wp2_with (at_builtin; refine wpList_append_lies _ rfl (.tmp 63) (.tmp 65) 22 rfl (w.heap.size + 1) 3 i0 _ 1 8 Tryz.underlying22 hi0 hz0 hz1 hz2 rfl (by decide) (.slice va 0 vc) 0 (pl.map intV) rfl (HOWN.out _) ⟨wr.heap.size, 0, none⟩ 1 1 [.int .i64 (f : Int)] rfl rfl (World.news_of_block (heap_alloc_new wr _)) HONE.out (by decide) (by unfold maxLen; omega) (by omega) (by simp; omega) (wr.heap.size + 1) (by simp) ?_; intro g2 cap2 wC hown hgrow hat hltg; obtain ⟨haC, hbC, k0, k1⟩ := HFIN.out g2 cap2 wC hown hgrow hat; have HAC := hide haC; have HBC := hide hbC; clear haC hbC hown hgrow hat)
              exact ⟨⟨b + 1, by omega, by go_num, HAC.out, HBC.out⟩, by simp [intOf]; omega⟩
            · obtain ⟨m, hm⟩ : ∃ m, pl.length = m + 1 := ⟨pl.length - 1, by omega⟩
              have hml : m < pl.length := by omega
              have hxe := List.getElem?_eq_getElem hml
              have hxf := HOT.out _ hmem (List.mem_of_getElem? hxe)
              obtain ⟨gv, hva, hcv, m0⟩ : ∃ g, va = some ⟨g, 0, none⟩ ∧ m + 1 ≤ vc ∧ wr.cell? ⟨g, m, none⟩ = some (intV pl[m]) := by
                rcases HOV.out.2 with ⟨_, h0⟩ | ⟨g, cap, cur, h1, _, hcur, hcap, _, _, htk⟩
                · omega
                · simp only [Value.slice.injEq] at h1
                  exact ⟨g, h1.1, by rw [h1.2.2, ← hm]; exact hcap, row_cell hcur htk (by rw [List.getElem?_map, hxe]; rfl)⟩
              subst hva
              unfold intV at m0
              generalize pl[m] = x at *
              rw [hm] at t0 HFIN HOWN
              have hm5 : m ≤ 5000 := by omega
              have hm0 : ((m : Int) + 1 == 0) = false := by simp; omega
              have hxf1 : ((x : Int) != (f : Int)) = true := by simp; omega
              have hxf2 : ¬ (x = f) := by omega
              clear hxe hml hm h0 hpl
              go_wp2_with (at_builtin; refine wpList_append_lies _ rfl (.tmp 63) (.tmp 65) 22 rfl (w.heap.size + 1) 3 i0 _ 1 8 Tryz.underlying22 hi0 hz0 hz1 hz2 rfl (by decide) (.slice (some ⟨gv, 0, none⟩) (m + 1) vc) (m + 1) (pl.map intV) rfl (HOWN.out _) ⟨wr.heap.size, 0, none⟩ 1 1 [.int .i64 (f : Int)] rfl rfl (World.news_of_block (heap_alloc_new wr _)) HONE.out (by decide) (by unfold maxLen; omega) (by omega) (by simp; omega) (wr.heap.size + 1) (by simp) ?_; intro g2 cap2 wC hown hgrow hat hltg; obtain ⟨haC, hbC, k0, k1⟩ := HFIN.out g2 cap2 wC hown hgrow hat; have HAC := hide haC; have HBC := hide hbC; clear haC hbC hown hgrow hat)
              exact ⟨⟨b + 1, by omega, by go_num, HAC.out, HBC.out⟩, by simp [intOf]; omega⟩
        · have hbI' : b = I := by omega
          subst hbI'
          have HAN : Hid (∃ vs, AhAt wr w.heap.size S (w.heap.size + 1) vs (Rc.preTo next (f + 1) 0)) := by
            obtain ⟨vs, hah⟩ := HA.out
            exact ⟨vs, hah.congr (fun t => by rw [← Rc.preTo_next, HNL.out])⟩
          go_wp2_with fail
          exact ⟨⟨f + 1, by omega, by go_num, HAN.out, HB.out⟩, by simp [intOf]; omega⟩
    · have hfS : f = S := by omega
      subst hfS
      obtain ⟨vs, hah⟩ := HA.out
      have HAH := hide hah
      clear hah HA
      go_wp2_with fail
      go_ret
      exact ⟨w.heap.size, vs, rfl, HAH.out, Nat.le_refl _, HB.out⟩
end
section
namespace Rc
/-- is a state in a list? -/
def Has (l : List Bool) (s : Nat) : Prop := l.getD s false = true
def Some (next : Nat → List Nat) (X : Nat → Prop) (s : Nat) : Prop := ∃ t, t ∈ next s ∧ X t
def All (next : Nat → List Nat) (X : Nat → Prop) (s : Nat) : Prop := ∀ t, t ∈ next s → X t
/-- the fewest states that have some, and are shut -/
structure Grown (S : Nat) (E : (Nat → Prop) → Nat → Prop) (l r : List Bool) : Prop where
  len : r.length = S
  more : ∀ s, s < S → Has l s → Has r s
  shut : ∀ s, s < S → E (Has r) s → Has r s
  least : ∀ X : Nat → Prop, (∀ s, s < S → Has l s → X s) → (∀ s, s < S → E X s → X s) → ∀ s, s < S → Has r s → X s
theorem has_ext {S : Nat} {a b : List Bool} (ha : a.length = S) (hb : b.length = S) (h : ∀ s, s < S → (Has a s ↔ Has b s)) : a = b := by
  apply Mc.ext_getD (by omega)
  intro k hk
  have := h k (by omega)
  unfold Has at this
  cases h1 : a.getD k false <;> cases h2 : b.getD k false <;> simp_all
theorem Grown.one {S : Nat} {E : (Nat → Prop) → Nat → Prop} {l a b : List Bool} (ha : Grown S E l a) (hb : Grown S E l b) : a = b :=
  has_ext ha.len hb.len fun s hs => ⟨ha.least (Has b) hb.more hb.shut s hs, hb.least (Has a) ha.more ha.shut s hs⟩
/-- what is shut grows no more -/
theorem Grown.again {S : Nat} {E : (Nat → Prop) → Nat → Prop} {l a b : List Bool} (ha : Grown S E l a) (hb : Grown S E a b) : b = a :=
  has_ext hb.len ha.len fun s hs => ⟨hb.least (Has a) (fun _ _ h => h) ha.shut s hs, hb.more s hs⟩
def turn (l : List Bool) : List Bool := l.map (!·)
theorem turn_turn (l : List Bool) : turn (turn l) = l := by unfold turn; rw [List.map_map]; simp [Function.comp_def]
theorem turn_len (l : List Bool) : (turn l).length = l.length := by simp [turn]
theorem turn_at (l : List Bool) (s : Nat) (hs : s < l.length) : (turn l).getD s false = !l.getD s false := by simp [turn, hs]
theorem forces_comes {S : Nat} {next : Nat → List Nat} {l f c : List Bool} (hne : ∀ s, s < S → next s ≠ []) (hf : Grown S (All next) l f) (hc : Grown S (Some next) l c) (s : Nat) (hs : s < S) (h : Has f s) : Has c s :=
  hf.least (Has c) hc.more (fun t ht ha => hc.shut t ht (by
    cases hn : next t with
    | nil => exact absurd hn (hne t ht)
    | cons x r => exact ⟨x, by rw [hn]; simp, ha x (by rw [hn]; simp)⟩)) s hs h
theorem forces_not {S : Nat} {next : Nat → List Nat} {l f : List Bool} (hf : Grown S (All next) l f) (s : Nat) (hs : s < S) (h : ¬ Has f s) : ∃ t, t ∈ next s ∧ ¬ Has f t := by
  refine Classical.byContradiction fun hx => h (hf.shut s hs fun t ht => ?_)
  exact Classical.byContradiction fun hn => hx ⟨t, ht, hn⟩
/-- from the first state one may come to some just if one that is come to is among them -/
theorem comes_zero {S : Nat} {next : Nat → List Nat} {q : Qu} {l c : List Bool} (hS : 1 ≤ S) (hq : Far next S q) (hc : Grown S (Some next) l c) : Has c 0 ↔ ∃ s, s < S ∧ 0 ≤ (q.at_ s).far ∧ Has l s := by
  constructor
  · intro h0
    refine Classical.byContradiction fun hx => ?_
    have := hc.least (fun s => (q.at_ s).far < 0) (fun s hs hl => Classical.byContradiction fun hn => hx ⟨s, hs, by omega, hl⟩) (fun s hs ⟨t, ht, hf⟩ => Classical.byContradiction fun hn => by
      have := (hq.near s t hs (by omega) ht).1
      omega) 0 (by omega) h0
    rw [hq.zero] at this
    omega
  · rintro ⟨s, hs, hf, hl⟩
    have key : ∀ (n : Nat) (s : Nat), s < S → (q.at_ s).far = n → Has c s → Has c 0 := by
      intro n
      induction n with
      | zero => intro s hs h1 h2; rw [hq.one s hs h1] at h2; exact h2
      | succ n ih =>
        intro s hs h1 h2
        obtain ⟨p1, p2, p3⟩ := hq.par s hs (by omega)
        exact ih _ p1 (by omega) (hc.shut _ p1 ⟨s, List.mem_of_getElem? p3, h2⟩)
    exact key ((q.at_ s).far.toNat) s hs (by omega) (hc.more s hs hl)
/-- how sets grow: those that lead to one that was put in are asked -/
structure Grow (S : Nat) (E : (Nat → Prop) → Nat → Prop) (next : Nat → List Nat) (l : List Bool) (cur : List Bool) (fresh : List Nat) : Prop where
  len : cur.length = S
  more : ∀ s, s < S → Has l s → Has cur s
  least : ∀ X : Nat → Prop, (∀ s, s < S → Has l s → X s) → (∀ s, s < S → E X s → X s) → ∀ s, s < S → Has cur s → X s
  frin : ∀ s, s ∈ fresh → s < S
  open_ : ∀ s, s < S → ¬ Has cur s → E (Has cur) s → ∃ t, t ∈ fresh ∧ t ∈ next s
/-- while those ahead of 'last' are asked: the first j are done -/
structure GrowIn (S : Nat) (E : (Nat → Prop) → Nat → Prop) (next : Nat → List Nat) (l : List Bool) (cur : List Bool) (fresh : List Nat) (pre : List Nat) (j : Nat) : Prop where
  len : cur.length = S
  more : ∀ s, s < S → Has l s → Has cur s
  least : ∀ X : Nat → Prop, (∀ s, s < S → Has l s → X s) → (∀ s, s < S → E X s → X s) → ∀ s, s < S → Has cur s → X s
  frin : ∀ s, s ∈ fresh → s < S
  open_ : ∀ s, s < S → ¬ Has cur s → E (Has cur) s → (∃ t, t ∈ fresh ∧ t ∈ next s) ∨ s ∈ pre.drop j
/-- a way of asking: more is asked of more, and of where a state leads to alone -/
structure Asks (next : Nat → List Nat) (E : (Nat → Prop) → Nat → Prop) : Prop where
  mono : ∀ (X Y : Nat → Prop) (s : Nat), (∀ t, X t → Y t) → E X s → E Y s
  near : ∀ (X Y : Nat → Prop) (s : Nat), (∀ t, t ∈ next s → (X t ↔ Y t)) → E X s → E Y s
theorem asks_some (next : Nat → List Nat) : Asks next (Some next) := ⟨fun _ _ _ h ⟨t, h1, h2⟩ => ⟨t, h1, h t h2⟩, fun _ _ _ h ⟨t, h1, h2⟩ => ⟨t, h1, (h t h1).1 h2⟩⟩
theorem asks_all (next : Nat → List Nat) : Asks next (All next) := ⟨fun _ _ _ h ha t ht => h t (ha t ht), fun _ _ _ h ha t ht => (h t ht).1 (ha t ht)⟩
theorem has_lt {l : List Bool} {s : Nat} (h : Has l s) : s < l.length := by
  refine Classical.byContradiction fun hn => ?_
  unfold Has at h
  rw [List.getD_eq_getElem?_getD, List.getElem?_eq_none (by omega)] at h
  cases h
theorem has_set (l : List Bool) (s t : Nat) (hs : s < l.length) : Has (l.set s true) t ↔ t = s ∨ Has l t := by
  unfold Has
  rw [Sc.getD_set]
  by_cases h : t = s
  · subst h; simp [hs]
  · simp [h]
theorem Grow.pop {S : Nat} {E : (Nat → Prop) → Nat → Prop} {next : Nat → List Nat} {l cur : List Bool} {fresh pre : List Nat} {last : Nat} (h : Grow S E next l cur (fresh ++ [last])) (hp : ∀ s, s < S → last ∈ next s → s ∈ pre) : GrowIn S E next l cur fresh pre 0 :=
  ⟨h.len, h.more, h.least, fun s hs => h.frin s (by simp [hs]), fun s hs hn he => by
    obtain ⟨t, h1, h2⟩ := h.open_ s hs hn he
    rcases List.mem_append.1 h1 with h1 | h1
    · exact .inl ⟨t, h1, h2⟩
    · simp at h1; subst h1; exact .inr (by rw [List.drop_zero]; exact hp s hs h2)⟩
theorem GrowIn.end_ {S : Nat} {E : (Nat → Prop) → Nat → Prop} {next : Nat → List Nat} {l cur : List Bool} {fresh pre : List Nat} (h : GrowIn S E next l cur fresh pre pre.length) : Grow S E next l cur fresh :=
  ⟨h.len, h.more, h.least, h.frin, fun s hs hn he => by
    rcases h.open_ s hs hn he with h1 | h1
    · exact h1
    · rw [List.drop_length] at h1; cases h1⟩
theorem GrowIn.pass {S : Nat} {E : (Nat → Prop) → Nat → Prop} {next : Nat → List Nat} {l cur : List Bool} {fresh pre : List Nat} {j s : Nat} (h : GrowIn S E next l cur fresh pre j) (hj : pre[j]? = some s) (hx : Has cur s ∨ ¬ E (Has cur) s) : GrowIn S E next l cur fresh pre (j + 1) :=
  ⟨h.len, h.more, h.least, h.frin, fun t ht hn he => by
    rcases h.open_ t ht hn he with h1 | h1
    · exact .inl h1
    · obtain ⟨hjl, e⟩ := List.getElem?_eq_some_iff.1 hj
      rw [List.drop_eq_getElem_cons hjl] at h1
      rcases List.mem_cons.1 h1 with h1 | h1
      · rw [e] at h1
        subst h1
        rcases hx with hx | hx
        · exact absurd hx hn
        · exact absurd he hx
      · exact .inr h1⟩
theorem GrowIn.put {S : Nat} {E : (Nat → Prop) → Nat → Prop} {next : Nat → List Nat} {l cur : List Bool} {fresh pre : List Nat} {j s : Nat} (ha : Asks next E) (h : GrowIn S E next l cur fresh pre j) (hj : pre[j]? = some s) (hs : s < S) (he : E (Has cur) s) : GrowIn S E next l (cur.set s true) (fresh ++ [s]) pre (j + 1) := by
  have hsl : s < cur.length := by rw [h.len]; exact hs
  have hset := fun t => has_set cur s t hsl
  refine ⟨by simp [h.len], fun t ht hl => (hset t).2 (.inr (h.more t ht hl)), ?_, ?_, ?_⟩
  · intro X h1 h2 t ht hx
    rcases (hset t).1 hx with rfl | hx
    · exact h2 _ hs (ha.mono (Has cur) X _ (fun u hu => h.least X h1 h2 u (by rw [← h.len]; exact has_lt hu) hu) he)
    · exact h.least X h1 h2 t ht hx
  · intro t ht
    rcases List.mem_append.1 ht with ht | ht
    · exact h.frin t ht
    · simp at ht; subst ht; exact hs
  · intro t ht hn hE
    have hnt : ¬ Has cur t := fun hx => hn ((hset t).2 (.inr hx))
    have hts : t ≠ s := fun e => hn ((hset t).2 (.inl e))
    by_cases hE0 : E (Has cur) t
    · rcases h.open_ t ht hnt hE0 with ⟨u, h1, h2⟩ | h1
      · exact .inl ⟨u, by simp [h1], h2⟩
      · obtain ⟨hjl, e⟩ := List.getElem?_eq_some_iff.1 hj
        rw [List.drop_eq_getElem_cons hjl] at h1
        rcases List.mem_cons.1 h1 with h1 | h1
        · rw [e] at h1; exact absurd h1 hts
        · exact .inr h1
    · refine .inl ⟨s, by simp, Classical.byContradiction fun hns => hE0 (ha.near _ _ t (fun u hu => ?_) hE)⟩
      rw [hset u]
      exact ⟨fun hx => hx.resolve_left (fun e => hns (by rw [← e]; exact hu)), .inr⟩
/-- all that were told are fresh at first -/
theorem Grow.start {S : Nat} {E : (Nat → Prop) → Nat → Prop} {next : Nat → List Nat} {l : List Bool} {fresh : List Nat} (hl : l.length = S) (hit : ∀ (X : Nat → Prop) s, s < S → E X s → ∃ t, t ∈ next s ∧ X t) (hf : ∀ s, s ∈ fresh ↔ Has l s) : Grow S E next l l fresh :=
  ⟨hl, fun _ _ h => h, fun X h1 _ s hs h => h1 s hs h, fun s hs => by rw [← hl]; exact has_lt ((hf s).1 hs), fun s hs _ he => by
    obtain ⟨t, h1, h2⟩ := hit _ s hs he
    exact ⟨t, (hf t).2 h2, h1⟩⟩
theorem Grow.done {S : Nat} {E : (Nat → Prop) → Nat → Prop} {next : Nat → List Nat} {l cur : List Bool} (h : Grow S E next l cur []) : Grown S E l cur :=
  ⟨h.len, h.more, fun s hs he => Classical.byContradiction fun hn => (by obtain ⟨t, ht, _⟩ := h.open_ s hs hn he; cases ht), h.least⟩
end Rc
end
section
open Go.RowKit
namespace Rc
/-- how many are not in -/
def nF (l : List Bool) : Nat := (l.filter (!·)).length
theorem nF_set : ∀ (l : List Bool) (s : Nat), l[s]? = some false → nF (l.set s true) + 1 = nF l
  | [], s, h => by simp at h
  | x :: l, 0, h => by
    simp only [List.getElem?_cons_zero, Option.some.injEq] at h
    subst h
    simp [nF]
  | x :: l, s + 1, h => by
    have ih := nF_set l s (by simpa using h)
    unfold nF at ih ⊢
    rw [List.set_cons_succ, List.filter_cons, List.filter_cons]
    cases x <;> simp <;> omega
/-- those that are in, of the first k -/
def insTo (l : List Bool) (k : Nat) : List Nat := (List.range k).filter fun s => l.getD s false
theorem insTo_succ (l : List Bool) (k : Nat) : insTo l (k + 1) = insTo l k ++ (if l.getD k false then [k] else []) := by
  unfold insTo
  rw [List.range_succ, List.filter_append, List.filter_cons, List.filter_nil]
theorem insTo_len (l : List Bool) (k : Nat) : (insTo l k).length ≤ k := by
  have := List.length_filter_le (fun s => l.getD s false) (List.range k)
  rw [List.length_range] at this
  exact this
theorem insTo_all (l : List Bool) (S : Nat) (hl : l.length = S) (s : Nat) : s ∈ insTo l S ↔ Has l s := by
  unfold insTo Has
  rw [List.mem_filter, List.mem_range]
  refine ⟨fun h => h.2, fun h => ⟨?_, h⟩⟩
  rw [← hl]; exact has_lt h
end Rc
def isF : Value → Bool
  | .bool false => true
  | _ => false
/-- how many cells of a row are false -/
def falses (W : World) (g : Nat) : Nat := match W.heap[g]? with
  | some (.cells cs _ _) => (cs.toList.filter isF).length
  | _ => 0
/-- a row of bools, and what lies behind them -/
def BRow (W : World) (g : Nat) (l : List Bool) (rest : List Value) : Prop := RowIs W g 4 (l.map boolV ++ rest)
theorem BRow.below {W W' : World} {g : Nat} {l : List Bool} {rest : List Value} (h : BRow W g l rest) (hb : Below W.heap.size W W') : BRow W' g l rest := RowIs.below h hb
theorem BRow.cell {W : World} {g : Nat} {l : List Bool} {rest : List Value} (h : BRow W g l rest) (k : Nat) (b : Bool) (hb : l[k]? = some b) : W.cell? ⟨g, k, none⟩ = some (.bool b) :=
  RowIs.cell h k _ (by rw [List.getElem?_append_left (by rw [List.length_map]; exact (List.getElem?_eq_some_iff.1 hb).1), List.getElem?_map, hb]; rfl)
theorem BRow.set {W : World} {g : Nat} {l : List Bool} {rest : List Value} (h : BRow W g l rest) (k : Nat) (b : Bool) (hk : k < l.length) : BRow (W.setCell ⟨g, k, none⟩ (.bool b)) g (l.set k b) rest := by
  have h1 := RowIs.set h k (.bool b)
  rw [List.set_append_left _ _ (by rw [List.length_map]; exact hk)] at h1
  unfold BRow
  rw [List.map_set]
  exact h1
theorem falses_row {W : World} {g : Nat} {l : List Bool} {rest : List Value} (h : BRow W g l rest) : falses W g = Rc.nF l + (rest.filter isF).length := by
  unfold falses
  rw [show W.heap[g]? = _ from h]
  show ((l.map boolV ++ rest).filter isF).length = _
  rw [List.filter_append, List.length_append, List.filter_map, List.length_map]
  unfold Rc.nF
  congr 2
  apply List.filter_congr
  intro x _
  cases x <;> rfl
theorem BRow.bools {W : World} {g cp : Nat} {l : List Bool} {rest : List Value} (h : BRow W g l rest) (hl : l.length ≤ 1000000) : Bools W (.slice (some ⟨g, 0, none⟩) l.length cp) l :=
  ⟨_, _, rfl, hl, fun i b hb => ⟨g, rfl, h.cell i b hb⟩⟩
def lenV : Value → Nat
  | .slice _ n _ => n
  | _ => 0
theorem own_pop {W : World} {q g n cap : Nat} {e : TypeId} {xs : List Value} (h : W.ownsRow q e 1 (.slice (some ⟨g, 0, none⟩) (n + 1) cap) (n + 1) xs) : W.ownsRow q e 1 (.slice (some ⟨g, 0, none⟩) n cap) n (xs.take n) := by
  obtain ⟨h0, h1⟩ := h
  refine ⟨by rw [List.length_take]; omega, ?_⟩
  rcases h1 with ⟨hx, _⟩ | ⟨g', cap', cur, hx, h2, h3, h4, h5, h6, h7⟩
  · cases hx
  · simp only [Value.slice.injEq, Option.some.injEq, Addr.mk.injEq, true_and] at hx
    obtain ⟨⟨rfl, _⟩, rfl⟩ := hx
    refine .inr ⟨g, cap, cur, rfl, h2, h3, by omega, h5, h6, ?_⟩
    rw [← h7, List.take_take]
    congr 1
    omega
/-- a function that tells whether a state enters, as the list stands -/
def Entering (w : World) (gi S : Nat) (rest : List Value) (f : Value) (eB : List Bool → Nat → Bool) : Prop := ∃ K cap, f = .func (.func K) #[] cap ∧ (∀ args w, (callFunc K args).run Tryz.prog w = .ok (.enter K args) w) ∧ ∀ (l : List Bool) (s : Nat) (W : World), w.grownBy W (some gi) → l.length = S → BRow W gi l rest → s < S → Calls Tryz.prog K (#[.int .i64 (s : Int)] ++ cap) W fun e w' => e = .returned (.bool (eB l s)) ∧ Below W.heap.size W w'
/-- what grow comes to -/
def Growed (w : World) (gi S : Nat) (rest : List Value) (E : (Nat → Prop) → Nat → Prop) (l : List Bool) (e : Ending) (w' : World) : Prop := e = .returned (.tuple #[]) ∧ w.grownBy w' (some gi) ∧ ∃ r, Rc.Grown S E l r ∧ BRow w' gi r rest
theorem grown_trans {A B C : World} {r : Option Nat} (h : A.grownBy B r) (k : B.grownBy C r) : A.grownBy C r :=
  ⟨k.os.trans h.os, k.tape.trans h.tape, k.output.trans h.output, Nat.le_trans h.size k.size, fun b hb hr => (k.block b (Nat.lt_of_lt_of_le hb h.size) hr).trans (h.block b hb hr)⟩
theorem grown_of_below {A B : World} (r : Option Nat) (h : Below A.heap.size A B) : A.grownBy B r := ⟨h.os, h.tape, h.output, h.size, fun b hb _ => h.block b hb⟩
theorem AhAt.grown {W W' : World} {gA S q gi : Nat} {vs : List Value} {P : Nat → List Nat} (h : AhAt W gA S q vs P) (hg : W.grownBy W' (some gi)) (h1 : gi < gA) (h2 : gA < q) : AhAt W' gA S q vs P :=
  ⟨(hg.block _ h.top.lt (fun e => by cases e; omega)).trans h.top, h.len, fun t v hv => by
    refine (h.own t v hv).kept hg ?_
    cases hb : v.ownBlock with
    | none => exact .inl rfl
    | some b => exact .inr (fun e => by cases e; have := ((h.own t v hv).lt _ hb).1; omega), h.apart⟩
end
section
open Go.RowKit
set_option maxHeartbeats 2000000 in
set_option maxRecDepth 100000 in
theorem pick_any (x : Int) (I : Nat) (w : World) (h1 : 1 ≤ I) (h2 : I ≤ 100000) :
    Calls Tryz.prog 13 #[.int .i64 x, .int .i64 (I : Int)] w fun e w' => e = .returned (.int .i64 (x % 18446744073709551616 % (I : Int))) ∧ w' = w := by
  go_enter Tryz.func13, Tryz.ntmps13
  go_wp2_with fail
  refine bodyPost_ret (results_tmp rfl _ _ _) rfl ⟨?_, rfl⟩
  have e1 : IntKind.u64.wrap x = x % 18446744073709551616 := IntKind.wrap_u64 x
  have h3 : 0 ≤ x % 18446744073709551616 := Int.emod_nonneg _ (by decide)
  have h4 : 0 ≤ x % 18446744073709551616 % (I : Int) := Int.emod_nonneg _ (by omega)
  have h5 : x % 18446744073709551616 % (I : Int) < (I : Int) := Int.emod_lt_of_pos _ (by omega)
  have e2 : wrap64 (x % 18446744073709551616 % (I : Int)) = x % 18446744073709551616 % (I : Int) := by unfold wrap64; omega
  rw [e1, Int.tmod_eq_emod_of_nonneg h3, e2]
  rfl
theorem Bools.len {w : World} {v : Value} {l : List Bool} (h : Bools w v l) : l.length ≤ 1000000 := by obtain ⟨_, _, _, h, _⟩ := h; exact h
theorem Bools.slice {w : World} {v : Value} {l : List Bool} (h : Bools w v l) : ∃ a c, v = .slice a l.length c := by obtain ⟨a, c, h, _⟩ := h; exact ⟨a, c, h⟩
theorem Ints.cell {w : World} {a : Option Addr} {n c : Nat} {l : List Int} (h : Ints w (.slice a n c) l) (k : Nat) (x : Int) (hx : l[k]? = some x) : ∃ g o, a = some ⟨g, o, none⟩ ∧ w.cell? ⟨g, o + k, none⟩ = some (.int .i64 x) := by
  rcases h with ⟨h0, _⟩ | ⟨g, o, cap, h1, h2, h3⟩
  · rw [h0] at hx; simp at hx
  · simp only [Value.slice.injEq] at h1
    exact ⟨g, o, h1.1, (h3 k x hx).1⟩
/-- a row of numbers as a slice -/
theorem ints_row {W : World} {g : Nat} {l : List Int} (h : RowIs W g 3 (l.map fun x => .int .i64 x)) (hl : ∀ x, x ∈ l → I64 x) : Ints W (slV g l.length) l :=
  .inr ⟨g, 0, l.length, rfl, Nat.le_refl _, fun k x hx => ⟨by rw [Nat.zero_add]; exact h.cell k _ (by rw [List.getElem?_map, hx]; rfl), hl x (List.mem_of_getElem? hx)⟩⟩
set_option maxHeartbeats 2000000 in
set_option maxRecDepth 100000 in
theorem sameB_any (l : List Bool) (u v : Value) (w : World) (hu : Bools w u l) (hv : Bools w v l) :
    Calls Tryz.prog 15 #[u, v] w fun e w' => e = .returned (.bool true) ∧ Below w.heap.size w w' := by
  have HU := hide hu
  have HV := hide hv
  obtain ⟨n, hn⟩ : ∃ n, n = l.length := ⟨_, rfl⟩
  have HN := hide hn
  have hl6 := hu.len
  obtain ⟨ua, uc, rfl⟩ := hu.slice
  obtain ⟨va, vc, rfl⟩ := hv.slice
  rw [← hn] at HU HV hl6 ⊢
  clear hu hv hn
  go_enter Tryz.func15, Tryz.ntmps15
  go_wp2_with fail
  go_loopw [5] (fun i wr => ∃ k : Nat, k ≤ n ∧ i = .int .i64 (k : Int) ∧ Hid (Below w.heap.size w wr)) (fun i _ => n - (intOf i).toNat)
  case atStart => exact ⟨0, Nat.zero_le _, rfl, Below.refl _ _⟩
  case round =>
    obtain ⟨k, hk, rfl, HB⟩ := hrel
    by_cases hlt : k < n
    · have hkl : k < l.length := by rw [← HN.out]; exact hlt
      have hx := List.getElem?_eq_getElem hkl
      obtain ⟨a1, c1, e1, _, b1⟩ := HU.out.below HB.out
      obtain ⟨a2, c2, e2, _, b2⟩ := HV.out.below HB.out
      simp only [Value.slice.injEq] at e1 e2
      obtain ⟨g1, ga1, d1⟩ := b1 k _ hx
      obtain ⟨g2, ga2, d2⟩ := b2 k _ hx
      obtain ⟨e1, _, _⟩ := e1
      obtain ⟨e2, _, _⟩ := e2
      rw [ga1] at e1
      rw [ga2] at e2
      subst e1
      subst e2
      clear b1 b2 ga1 ga2
      generalize l[k] = x at *
      clear hx
      go_wp2_with fail
      go_quiet (fail)
      go_wp2_with fail
      go_roundw
      case rel => exact ⟨k + 1, by omega, by go_num, HB.out.trans ⟨rfl, rfl, rfl, Nat.le_refl _, fun _ _ => rfl⟩⟩
      case measure => simp [intOf]; omega
    · have hkn : k = n := by omega
      subst hkn
      go_wp2_with fail
      go_ret
      exact ⟨rfl, HB.out⟩
set_option maxHeartbeats 2000000 in
set_option maxRecDepth 100000 in
theorem sameI_any (l : List Int) (u v : Value) (w : World) (hu : Ints w u l) (hv : Ints w v l) (hl : l.length ≤ 1000000) :
    Calls Tryz.prog 36 #[u, v] w fun e w' => e = .returned (.bool true) ∧ Below w.heap.size w w' := by
  have HU := hide hu
  have HV := hide hv
  obtain ⟨n, hn⟩ : ∃ n, n = l.length := ⟨_, rfl⟩
  have HN := hide hn
  obtain ⟨ua, uc, rfl⟩ := hu.slice
  obtain ⟨va, vc, rfl⟩ := hv.slice
  rw [← hn] at HU HV hl ⊢
  clear hu hv hn
  go_enter Tryz.func36, Tryz.ntmps36
  go_wp2_with fail
  go_loopw [5] (fun i wr => ∃ k : Nat, k ≤ n ∧ i = .int .i64 (k : Int) ∧ Hid (Below w.heap.size w wr)) (fun i _ => n - (intOf i).toNat)
  case atStart => exact ⟨0, Nat.zero_le _, rfl, Below.refl _ _⟩
  case round =>
    obtain ⟨k, hk, rfl, HB⟩ := hrel
    by_cases hlt : k < n
    · have hkl : k < l.length := by rw [← HN.out]; exact hlt
      have hx := List.getElem?_eq_getElem hkl
      obtain ⟨g1, o1, e1, d1⟩ := (HU.out.below HB.out).cell k _ hx
      obtain ⟨g2, o2, e2, d2⟩ := (HV.out.below HB.out).cell k _ hx
      subst e1
      subst e2
      generalize l[k] = x at *
      clear hx
      go_wp2_with fail
      go_quiet (fail)
      go_wp2_with fail
      go_roundw
      case rel => exact ⟨k + 1, by omega, by go_num, HB.out.trans ⟨rfl, rfl, rfl, Nat.le_refl _, fun _ _ => rfl⟩⟩
      case measure => simp [intOf]; omega
    · have hkn : k = n := by omega
      subst hkn
      go_wp2_with fail
      go_ret
      exact ⟨rfl, HB.out⟩
end
end Go.Proofs.YtdmnikbhkpcdpaaGreatDoor
