/-
  The walk of the document's own Tidy of a program: each expression tidy, without rungs that never do anything.
-/
import Derived.Test.YtjfgfcajmkbmeaaGreatDoorLdKindAll
import Derived.Test.YtjfgfcajmkbmeaaGreatDoorSlBuildAll
import Derived.Test.YtjfgfcajmkbmeaaGreatDoorRtMathAll
import Derived.Test.YtjfgfcajmkbmeaaGreatDoorRtListB
namespace Go.Proofs.YtjfgfcajmkbmeaaGreatDoor
open Go.RowKit
namespace Sl
/-- a block whose first cell is a text, an interface value or a pointer -/
def PlainR (w : World) (g : Nat) : Prop := Plain w g ∨ ∃ a, w.cell? ⟨g, 0, none⟩ = some (.pointer a)
def RStay (w w' : World) : Prop := ∀ g i u, PlainR w g → w.cell? ⟨g, i, none⟩ = some u → w'.cell? ⟨g, i, none⟩ = some u
theorem RStay.names {w w' : World} (h : RStay w w') : PStay w w' := fun g i u hp hc => h g i u (.inl hp) hc
theorem rx_head {ok : Nat → Prop} {w : World} : ∀ (x : Ex) (g : Nat), IsRx ok w x g → IsRx (PlainR w) w x g := by
  intro x
  induction x using Ex.ind with
  | h k nm l ih =>
    intro g h
    rw [IsRx.def] at h ⊢
    obtain ⟨h1, h2, h3, h4, h5, sv, h6, h7⟩ := h
    refine ⟨.inl (.inl ⟨_, h4⟩), h2, h3, h4, h5, sv, h6, ?_⟩
    rcases h7 with h7 | ⟨h0, b, cap, e1, e2, e3, e4⟩
    · exact .inl h7
    · refine .inr ⟨h0, b, cap, e1, e2, ?_, ?_⟩
      · obtain ⟨q, hq, _⟩ := e4 0 (IsRx ok w l[0]) (by rw [List.getElem?_map, List.getElem?_eq_getElem (by omega)]; rfl)
        exact .inr ⟨_, hq⟩
      · intro i P hP
        rw [List.getElem?_map] at hP
        cases hl : l[i]? with
        | none => rw [hl] at hP; simp at hP
        | some y =>
          rw [hl] at hP
          simp only [Option.map_some, Option.some.injEq] at hP
          obtain ⟨q, hq, hx⟩ := e4 i (IsRx ok w y) (by rw [List.getElem?_map, hl]; rfl)
          exact ⟨q, hq, by rw [← hP]; exact ih y (List.mem_of_getElem? hl) q hx⟩
theorem rcond_stay {w w' : World} (hs : RStay w w') {x : Option Ex} {v : Value} (h : RCondAt w x v) : RCondAt w' x v := by
  cases x with
  | none => exact h
  | some x =>
    obtain ⟨g, h1, h2, h3⟩ := h
    exact ⟨g, h1, IsRx.stay hs (fun _ _ => trivial) x g (rx_head x g h2), h3⟩
/-- rungs that are laid, as the document's package does -/
structure QR (wS : World) (b : Nat) (ns : List Ld.Nme) (rs : List (Ld.Rng × Value)) (nv rv : Value) (W : World) : Prop where
  low : Below b wS W
  blk : W.heap[b]? = some (.cells #[nv, rv] 30 (0, 0))
  nat : NamesAt W nv ns
  org : W.ownsRow (b + 1) 72 3 rv rs.length (rs.flatMap rgCells)
  br : ∀ r, r ∈ rs → r.1.name.length ≤ maxLen ∧ I64 r.1.kind ∧ RCondAt W r.1.cond r.2
  e0 : rs = [] → rv = .slice none 0 0
theorem QR.lt {wS : World} {b : Nat} {ns : List Ld.Nme} {rs : List (Ld.Rng × Value)} {nv rv : Value} {W : World} (h : QR wS b ns rs nv rv W) : b < W.heap.size := (Array.getElem?_eq_some_iff.1 h.blk).1
theorem QR.below {wS : World} {b : Nat} {ns : List Ld.Nme} {rs : List (Ld.Rng × Value)} {nv rv : Value} {W W' : World} (h : QR wS b ns rs nv rv W) (hb : Below W.heap.size W W') : QR wS b ns rs nv rv W' :=
  ⟨h.low.trans (hb.mono (Nat.le_of_lt h.lt)), (hb.block _ h.lt).trans h.blk, h.nat.below hb, h.org.kept (row := none) (grown_below hb) (by cases rv.ownBlock <;> simp), fun r hr => ⟨(h.br r hr).1, (h.br r hr).2.1, (h.br r hr).2.2.below hb⟩, h.e0⟩
theorem QR.apart {wS : World} {b : Nat} {ns : List Ld.Nme} {rs : List (Ld.Rng × Value)} {nv rv : Value} {W : World} (h : QR wS b ns rs nv rv W) {g : Nat} (hg : PlainR W g) : g ≠ b ∧ some g ≠ rv.ownBlock := by
  constructor
  · intro e
    subst e
    obtain ⟨a, c, rfl, _⟩ := h.nat.slice
    have h0 : W.cell? ⟨g, 0, none⟩ = some (.slice a ns.length c) := by rw [Lib.cell_of_heap h.blk]; rfl
    rcases hg with (⟨s, h1⟩ | ⟨t, y, h1⟩) | ⟨q, h1⟩
    all_goals rw [h0] at h1; cases h1
  · intro e
    cases rs with
    | nil => rw [h.e0 rfl] at e; cases e
    | cons r rs =>
      rcases h.org.2 with ⟨rfl, _⟩ | ⟨g', cap, cur, rfl, _, hcur, hcap, _, _, htk⟩
      · cases e
      · simp only [Value.ownBlock, Option.some.injEq] at e
        subst e
        have h0 : W.cell? ⟨g, 0, none⟩ = some (.int .i64 r.1.kind) := row_cell hcur htk (by simp [rgCells])
        rcases hg with (⟨s, h1⟩ | ⟨t, y, h1⟩) | ⟨q, h1⟩
        all_goals rw [h0] at h1; cases h1
theorem QR.put {wS : World} {b : Nat} {ns : List Ld.Nme} {rs : List (Ld.Rng × Value)} {nv rv : Value} {W wC : World} (h : QR wS b ns rs nv rv W) (r : Ld.Rng × Value) (hr : r.1.name.length ≤ maxLen ∧ I64 r.1.kind ∧ RCondAt W r.1.cond r.2) (g cap : Nat) (hown : wC.ownsRow (b + 1) 72 3 (.slice (some ⟨g, 0, none⟩) (rs.length + 1) cap) (rs.length + 1) (rs.flatMap rgCells ++ rgCells r)) (hg : W.grownBy wC rv.ownBlock) :
    (wC.cell? ⟨b, 1, none⟩ = some rv ∧ wC.frozen? ⟨b, 1, none⟩ = false) ∧ QR wS b ns (rs ++ [r]) nv (.slice (some ⟨g, 0, none⟩) (rs.length + 1) cap) (wC.setCell ⟨b, 1, none⟩ (.slice (some ⟨g, 0, none⟩) (rs.length + 1) cap)) := by
  have hbk : wC.heap[b]? = some (.cells #[nv, rv] 30 (0, 0)) := (hg.block b h.lt (fun e => by have := (h.org.lt b e.symm).1; omega)).trans h.blk
  obtain ⟨k1, k2, k3, k4⟩ := grown_store (b := b) (q := b + 1) (i := 1) (v' := .slice (some ⟨g, 0, none⟩) (rs.length + 1) cap) h.blk h.low hg (fun g e => (h.org.lt g e).1) (by omega) h.lt
  have hst : RStay W (wC.setCell ⟨b, 1, none⟩ (.slice (some ⟨g, 0, none⟩) (rs.length + 1) cap)) := fun g' i u hp hc => by
    obtain ⟨n1, n2⟩ := h.apart hp
    exact k4.cell (hg.cell hc n2) (fun e => n1 (by simpa using e))
  refine ⟨⟨by rw [Lib.cell_of_heap hbk]; rfl, Lib.frozen_of_heap hbk 1⟩, k3, by simpa using k1, names_stay hst.names h.nat, ?_, ?_, fun e => by simp at e⟩
  · have e1 : (rs ++ [r]).length = rs.length + 1 := by simp
    have e2 : (rs ++ [r]).flatMap rgCells = rs.flatMap rgCells ++ rgCells r := by simp
    rw [e1, e2]
    exact hown.kept k4 (.inr (by intro e; have := (hown.lt g rfl).1; simp only [Value.ownBlock, Option.some.injEq] at e; omega))
  · intro m hm
    rw [List.mem_append] at hm
    rcases hm with hm | hm
    · exact ⟨(h.br m hm).1, (h.br m hm).2.1, rcond_stay hst (h.br m hm).2.2⟩
    · simp only [List.mem_singleton] at hm
      subst hm
      exact ⟨hr.1, hr.2.1, rcond_stay hst hr.2.2⟩
theorem QR.prg {wS : World} {b : Nat} {ns : List Ld.Nme} {rs : List (Ld.Rng × Value)} {nv rv : Value} {W : World} (h : QR wS b ns rs nv rv W) (hl : rs.length ≤ 1000000) : IsRPrg W ⟨ns, rs.map fun r => r.1⟩ (.agg #[nv, rv]) := by
  refine ⟨nv, rv, rfl, h.nat, ?_⟩
  rcases h.org.2 with ⟨rfl, h0⟩ | ⟨g, cap, cur, rfl, _, hcur, hcap, _, _, htk⟩
  · exact .inl ⟨by simpa using h0, _, _, rfl⟩
  · refine .inr ⟨g, cap, by simp, by simpa using hcap, by simpa using hl, fun i r hi => ?_⟩
    rw [List.getElem?_map] at hi
    cases hrs : rs[i]? with
    | none => rw [hrs] at hi; cases hi
    | some p =>
      rw [hrs] at hi
      simp only [Option.map_some, Option.some.injEq] at hi
      subst hi
      have hc := fun j hj => flat3 rgCells (fun _ => rfl) rs i p hrs j hj
      obtain ⟨b1, b2, b3⟩ := h.br p (List.mem_of_getElem? hrs)
      exact ⟨p.2, row_cell hcur htk (hc 0 (by omega)), row_cell hcur htk (hc 1 (by omega)), row_cell hcur htk (hc 2 (by omega)), b1, b2, b3⟩
theorem take_tidyR (rs : List Ld.Rng) (k : Nat) (hk : k < rs.length) : ((rs.take (k + 1)).map tidyR).filter (fun r => !idle r) = if idle (tidyR rs[k]) then ((rs.take k).map tidyR).filter (fun r => !idle r) else ((rs.take k).map tidyR).filter (fun r => !idle r) ++ [tidyR rs[k]] := by
  rw [List.take_succ_eq_append_getElem hk, List.map_append, List.filter_append]
  cases hf : idle (tidyR rs[k]) with
  | true => simp [hf]
  | false => simp [hf]
theorem rx_kind {ok : Nat → Prop} {w : World} (y : Ex) (g : Nat) (h : IsRx ok w y g) : w.cell? ⟨g, 0, none⟩ = some (.string ⟨(kindS y.kind).toArray⟩) := by
  obtain ⟨k, nm, l⟩ := y
  rw [IsRx.def] at h
  exact h.2.2.2.1
theorem kind_zero (k : Nat) (h : k ≠ 0) : (kindS k == [48]) = false := by
  match k, h with
  | 1, _ => rfl
  | 2, _ => rfl
  | 3, _ => rfl
  | 4, _ => rfl
  | 5, _ => rfl
  | 6, _ => rfl
  | k + 7, _ => rfl
theorem Tryz.infoRRung2 : (Tryz.prog.info? 72).map (fun i => (i.zero, i.size, i.bytes)) = some (some (.agg #[.int .i64 0, .string ⟨#[]⟩, .pointer none]), 3, 32) := by kernel_rfl
set_option maxHeartbeats 8000000 in
set_option maxRecDepth 100000 in
theorem RTidy_any (p : Ld.Prg) (v : Value) (w : World) (h : IsRPrg w p v) (hck : Ld.check p = none) (hpar : Ld.Par p.rungs) :
    Calls Tryz.prog 16 #[v] w fun e w' => ∃ pv, e = .returned pv ∧ IsRPrg w' (tidy p) pv ∧ Below w.heap.size w w' := by
  have HCR := hide (Ld.check_rungs p hck)
  have HPAR := hide hpar
  have h40 := (Ld.check_names p hck).2.1
  obtain ⟨nv, rv, rfl, hn, hr⟩ := h
  have HNA := hide hn
  have HRA := hide hr
  obtain ⟨na, nc, rfl, _⟩ := hn.slice
  obtain ⟨ra, rc, rfl, _⟩ := hr.slice
  obtain ⟨n, hnn⟩ : ∃ n, n = p.names.length := ⟨_, rfl⟩
  obtain ⟨q, hqq⟩ : ∃ q, q = p.rungs.length := ⟨_, rfl⟩
  have HQ := hide hqq
  rw [← hnn] at HNA ⊢
  rw [← hqq] at HRA h40 ⊢
  clear hn hr hnn hqq hck hpar
  obtain ⟨wA, hwA⟩ : ∃ wA, wA = (w.alloc (.cells #[.slice na n nc, .slice ra q rc] 30)).alloc (.cells #[.slice none 0 0, .slice none 0 0] 30) := ⟨_, rfl⟩
  have hbA : Below w.heap.size w wA := by rw [hwA]; exact ((Below.refl _ _).alloc (Nat.le_refl _) _).alloc (by simp) _
  have hsA : wA.heap.size = w.heap.size + 1 + 1 := by rw [hwA]; simp
  have hA0 : wA.heap[w.heap.size]? = some (.cells #[.slice na n nc, .slice ra q rc] 30 (0, 0)) := by rw [hwA]; exact (Below.heap_alloc _ _ _ (by simp)).trans (heap_alloc_new _ _)
  have hA1 : wA.heap[w.heap.size + 1]? = some (.cells #[.slice none 0 0, .slice none 0 0] 30 (0, 0)) := by
    rw [hwA]
    have := heap_alloc_new (w.alloc (.cells #[.slice na n nc, .slice ra q rc] 30)) (.cells #[.slice none 0 0, .slice none 0 0] 30)
    rw [World.size_alloc] at this
    exact this
  obtain ⟨wS, hwS⟩ : ∃ wS, wS = wA.alloc (.cells #[.slice na n nc, .slice none 0 0] 30) := ⟨_, rfl⟩
  have hbS : Below wA.heap.size wA wS := by rw [hwS]; exact (Below.refl _ _).alloc (Nat.le_refl _) _
  have hzS : wS.heap.size = wA.heap.size + 1 := by rw [hwS]; simp
  have HP0 : Hid (QR wS wA.heap.size p.names [] (.slice na n nc) (.slice none 0 0) wS) := ⟨Below.refl _ _, by rw [hwS]; exact heap_alloc_new _ _, (HNA.out.below hbA).below hbS, ⟨rfl, .inl ⟨rfl, rfl⟩⟩, (fun r hr => by cases hr), fun _ => rfl⟩
  have HLOW : Hid (∀ W, Below wA.heap.size wS W → Below w.heap.size w W ∧ W.heap[w.heap.size]? = some (.cells #[.slice na n nc, .slice ra q rc] 30 (0, 0)) ∧ W.heap[w.heap.size + 1]? = some (.cells #[.slice none 0 0, .slice none 0 0] 30 (0, 0))) := by
    intro W hW
    have h2 : Below wA.heap.size wA W := hbS.trans hW
    exact ⟨hbA.trans (h2.mono hbA.size), (h2.block _ (by omega)).trans hA0, (h2.block _ (by omega)).trans hA1⟩
  rw [hwA] at hwS
  have HWS := hide hwS
  have HSA := hide hsA
  clear hwA hbA hA0 hA1 hwS hbS
  go_enter Tryz.func16, Tryz.ntmps16
  go_wp2_with fail
  rw [← HWS.out]
  have hsA2 := HSA.out
  rw [hsA2] at HP0 HLOW hzS
  clear HSA HWS hsA hsA2
  generalize hbw : w.heap.size + 1 + 1 = b at *
  obtain ⟨iR, hiR, hzR0, hzR1, hzR2⟩ := info_parts Tryz.infoRRung2
  go_loopw [12] (fun i wr => ∃ k : Nat, k ≤ q ∧ i = .int .i64 (k : Int) ∧ ∃ (yv : Value) (rs : List (Ld.Rng × Value)), Hid (QR wS b p.names rs (.slice na n nc) yv wr) ∧ Hid ((rs.map fun r => r.1) = ((p.rungs.take k).map tidyR).filter fun r => !idle r)) (fun i _ => q - (intOf i).toNat)
  case atStart => exact ⟨0, Nat.zero_le _, rfl, _, [], HP0.out, rfl⟩
  case round =>
    obtain ⟨j, hj, rfl, yv, rs, HPR2, HRS⟩ := hrel
    obtain ⟨hlow, hb0, hb1⟩ := HLOW.out wr HPR2.out.low
    have hzr := HPR2.out.lt
    have hlr : rs.length ≤ q := by
      have h3 := congrArg List.length HRS.out
      rw [List.length_map] at h3
      rw [h3]
      refine Nat.le_trans (List.length_filter_le _ _) ?_
      rw [List.length_map, List.length_take]
      omega
    obtain ⟨ya, yc, rfl⟩ := own_slice HPR2.out.org
    by_cases hlt2 : j < q
    · have hjl : j < p.rungs.length := by rw [← HQ.out]; exact hlt2
      have HTF := hide (take_tidyR p.rungs j hjl)
      obtain ⟨r, hr⟩ : ∃ r, r = p.rungs[j] := ⟨_, rfl⟩
      have hrm : r ∈ p.rungs := by rw [hr]; exact List.getElem_mem hjl
      obtain ⟨g, rfl, hcap, hrg⟩ : ∃ g, ra = some ⟨g, 0, none⟩ ∧ q ≤ rc ∧ RRungAt wr g j r := by
        rcases HRA.out.below hlow with ⟨h0, _⟩ | ⟨g, cap, h1, h2, h3, h4⟩
        · rw [h0] at hjl; simp at hjl
        · simp only [Value.slice.injEq] at h1
          exact ⟨g, h1.1, by rw [h1.2.2, HQ.out]; exact h2, h4 j r (by rw [hr]; exact List.getElem?_eq_getElem hjl)⟩
      obtain ⟨hk1, hk6, x, hx⟩ : 1 ≤ r.kind ∧ r.kind ≤ 6 ∧ ∃ x, r.cond = some x := by
        obtain ⟨h3, h4, _, _, x, h1, h2⟩ := HCR.out r hrm
        exact ⟨h3, h4, x, h1⟩
      obtain ⟨lx, hlx⟩ := HPAR.out r hrm x hx
      have hwf := Ex.parse_wf lx x hlx
      have hxb := Ex.parse_bnd lx x hlx
      obtain ⟨v, c0, c1, c2, c3, c4, c5⟩ := hrg
      rw [hx] at c5
      obtain ⟨gx, rfl, hix, _⟩ := c5
      rw [← hr] at HTF
      obtain ⟨kd, rn, cd⟩ := r
      simp only at c0 c1 c3 c4 hx hk1 hk6
      subst hx
      have HBD : Hid (rn.length ≤ maxLen ∧ I64 kd) := ⟨c3, c4⟩
      have HTB : Hid (x.tidy.size ≤ 1000000 ∧ x.tidy.text.length ≤ 1000000) := by
        have h1 := Ex.size_tidy x hwf
        have h2 := text_sizeR x.tidy (Ex.Td.wf _ (Ex.td_tidy x hwf))
        exact ⟨by omega, by omega⟩
      obtain ⟨wB, hwB⟩ : ∃ wB, wB = wr.alloc (.cells #[.int .i64 kd, .string ⟨rn.toArray⟩, .pointer (some ⟨gx, 0, none⟩)] 72) := ⟨_, rfl⟩
      have hbB : Below wr.heap.size wr wB := by rw [hwB]; exact (Below.refl _ _).alloc (Nat.le_refl _) _
      have hzB : wB.heap.size = wr.heap.size + 1 := by rw [hwB]; simp
      have hB1 : wB.heap[wr.heap.size]? = some (.cells #[.int .i64 kd, .string ⟨rn.toArray⟩, .pointer (some ⟨gx, 0, none⟩)] 72 (0, 0)) := by rw [hwB]; exact heap_alloc_new _ _
      have HB1r := hide hB1
      have HTI := hide (rtidy_any x (fun q => True ∧ q < wB.heap.size) gx wB (fun q hq => hq.2) (IsRx.lt x gx (IsRx.stay (Stay.below hbB) (fun _ _ => trivial) x gx hix)) hwf (by omega))
      rw [hwB] at HTI
      have HWB := hide hwB
      have HBB := hide hbB
      have hbr : b < wr.heap.size := hzr
      clear hr hrm hwB hbB hB1 hlow hb0 hb1 c3 c4 hlx hwf hxb hix
      go_wp2_with fail
      refine HTI.out.mono ?_
      rintro e w4 ⟨g', rfl, hex4, hb4⟩
      rw [← HWB.out] at hb4
      have hz4 := hb4.size
      have h4r := (hb4.block wr.heap.size (by omega)).trans HB1r.out
      obtain ⟨w5, hw5⟩ : ∃ w5, w5 = w4.setCell ⟨wr.heap.size, 2, none⟩ (.pointer (some ⟨g', 0, none⟩)) := ⟨_, rfl⟩
      have h5r : w5.heap[wr.heap.size]? = some (.cells #[.int .i64 kd, .string ⟨rn.toArray⟩, .pointer (some ⟨g', 0, none⟩)] 72 (0, 0)) := by rw [hw5]; simp [World.setCell, Array.getElem?_modify, h4r]
      have hbr5 : Below wr.heap.size wr w5 := by rw [hw5]; exact (HBB.out.trans (hb4.mono HBB.out.size)).setCell (by simp) _
      have hps : RStay w4 w5 := fun g2 i u hp hc => by
        have hne : g2 ≠ wr.heap.size := by
          intro e
          have h0 : w4.cell? ⟨wr.heap.size, 0, none⟩ = some (.int .i64 kd) := by rw [Lib.cell_of_heap h4r]; rfl
          rcases hp with (⟨s, h1⟩ | ⟨t, y, h1⟩) | ⟨a, h1⟩
          all_goals rw [e, h0] at h1; cases h1
        rw [hw5, World.cell?_of_block (Below.heap_setCell _ _ _ _ (fun e => hne e))]
        exact hc
      have hc5 : RCondAt w5 (some x.tidy) (.pointer (some ⟨g', 0, none⟩)) := rcond_stay hps (x := some x.tidy) ⟨g', rfl, IsRx.stay (fun _ _ _ _ hc => hc) (fun _ _ => trivial) _ _ hex4, HTB.out⟩
      have HC5 := hide hc5
      have HP5 := hide (HPR2.out.below hbr5)
      have t0 : w4.cell? ⟨wr.heap.size, 2, none⟩ = some (.pointer (some ⟨gx, 0, none⟩)) := by rw [Lib.cell_of_heap h4r]; rfl
      have tf : w4.frozen? ⟨wr.heap.size, 2, none⟩ = false := Lib.frozen_of_heap h4r 2
      have r0 : w5.cell? ⟨wr.heap.size, 0, none⟩ = some (.int .i64 kd) := by rw [Lib.cell_of_heap h5r]; rfl
      have r1 : w5.cell? ⟨wr.heap.size, 1, none⟩ = some (.string ⟨rn.toArray⟩) := by rw [Lib.cell_of_heap h5r]; rfl
      have r2 : w5.cell? ⟨wr.heap.size, 2, none⟩ = some (.pointer (some ⟨g', 0, none⟩)) := by rw [Lib.cell_of_heap h5r]; rfl
      have rk : w5.cell? ⟨g', 0, none⟩ = some (.string ⟨(kindS x.tidy.kind).toArray⟩) := by
        obtain ⟨ga, e1, e2, _⟩ := hc5
        simp only [Value.pointer.injEq, Option.some.injEq, Addr.mk.injEq] at e1
        obtain ⟨rfl, _⟩ := e1
        exact rx_kind _ _ e2
      have hz5 : w5.heap.size = w4.heap.size := by rw [hw5]; simp [World.setCell]
      have hlg : g' < w5.heap.size := World.block_lt_of_cell? _ _ rk
      have hby := bytes_list (kindS x.tidy.kind)
      have HIX : Hid (idle (tidyR ⟨kd, rn, some x⟩) = (idleK kd && x.tidy.kind == 0)) := rfl
      have HWR := hide hw5
      obtain ⟨ln, hln⟩ : ∃ ln, ln = rs.length := ⟨_, rfl⟩
      rw [← hln] at HP5 hlr
      have HLL := hide hln
      have HFIN : Hid (∀ (o : Obj) (g cap : Nat) (wC : World), wC.ownsRow (b + 1) 72 3 (.slice (some ⟨g, 0, none⟩) (ln + 1) cap) (ln + 1) (rs.flatMap rgCells ++ rgCells (⟨kd, rn, some x.tidy⟩, .pointer (some ⟨g', 0, none⟩))) → (w5.alloc o).grownBy wC (Value.slice ya ln yc).ownBlock →
          (wC.cell? ⟨b, 1, none⟩ = some (.slice ya ln yc) ∧ wC.frozen? ⟨b, 1, none⟩ = false) ∧ QR wS b p.names (rs ++ [(⟨kd, rn, some x.tidy⟩, .pointer (some ⟨g', 0, none⟩))]) (.slice na n nc) (.slice (some ⟨g, 0, none⟩) (ln + 1) cap) (wC.setCell ⟨b, 1, none⟩ (.slice (some ⟨g, 0, none⟩) (ln + 1) cap))) := by
        intro o g cap wC h1 h2
        rw [HLL.out] at h1 h2 ⊢
        have h3 := HP5.out.below (W' := w5.alloc o) ((Below.refl _ _).alloc (Nat.le_refl _) _)
        rw [HLL.out] at h3
        exact h3.put (⟨kd, rn, some x.tidy⟩, .pointer (some ⟨g', 0, none⟩)) ⟨HBD.out.1, HBD.out.2, HC5.out.below ((Below.refl _ _).alloc (Nat.le_refl _) _)⟩ g cap h1 h2
      have HOWN : Hid (∀ o, (w5.alloc o).ownsRow (b + 1) 72 3 (.slice ya ln yc) ln (rs.flatMap rgCells)) := fun o => by
        have h3 := HP5.out.org.alloc o
        rwa [← HLL.out] at h3
      have HONE : Hid (∀ u ∈ rgCells (⟨kd, rn, some x.tidy⟩, .pointer (some ⟨g', 0, none⟩)), u.oneCell' = true) := by
        intro u hu
        simp only [rgCells, List.mem_cons, List.not_mem_nil, or_false] at hu
        rcases hu with rfl | rfl | rfl <;> rfl
      have d0 : w5.cell? ⟨b, 1, none⟩ = some (.slice ya ln yc) := by rw [Lib.cell_of_heap HP5.out.blk]; rfl
      have hb5s : b < w5.heap.size := HP5.out.lt
      have HNXF : Hid (idle (tidyR ⟨kd, rn, some x⟩) = false → ((rs ++ [((⟨kd, rn, some x.tidy⟩ : Ld.Rng), Value.pointer (some ⟨g', 0, none⟩))]).map fun r => r.1) = ((p.rungs.take (j + 1)).map tidyR).filter fun r => !idle r) := fun hi => by
        rw [HTF.out, List.map_append, HRS.out, hi]
        rfl
      have HNXT : Hid (idle (tidyR ⟨kd, rn, some x⟩) = true → (rs.map fun r => r.1) = ((p.rungs.take (j + 1)).map tidyR).filter fun r => !idle r) := fun hi => by
        rw [HTF.out, HRS.out, hi]
        rfl
      rw [HWR.out] at r0 r1 r2 rk d0 HOWN HFIN hlg hb5s
      have HNEW : Hid (∀ o, (w5.alloc o).heap[w4.heap.size]? = some o) := fun o => by have h3 := heap_alloc_new w5 o; rw [hz5] at h3; exact h3
      rw [HWR.out] at HNEW
      have hz5' : (w4.setCell ⟨wr.heap.size, 2, none⟩ (.pointer (some ⟨g', 0, none⟩))).heap.size = w4.heap.size := by rw [← HWR.out]; exact hz5
      clear hex4 hb4 h4r h5r hbr5 hps HTI hc5 hln HPR2 hw5 HB1r hz5
      generalize x.tidy.kind = xk at *
      by_cases hxk : xk = 0
      · subst hxk
        by_cases hkd1 : kd = 1
        · have HNX := hide (HNXF.out (by rw [HIX.out, hkd1]; rfl))
          have hke : (kd != 1) = false := by rw [hkd1]; rfl
          clear hkd1
          go_wp2_with (at_builtin; refine wpList_append_lies _ rfl (.tmp 37) (.tmp 39) 28 rfl (b + 1) 72 iR _ 3 32 Tryz.underlying28 hiR hzR0 hzR1 hzR2 rfl (by decide) (.slice ya ln yc) ln (rs.flatMap rgCells) rfl (HOWN.out _) ⟨w4.heap.size, 0, none⟩ 1 1 (rgCells (⟨kd, rn, some x.tidy⟩, .pointer (some ⟨g', 0, none⟩))) rfl rfl (World.news_of_block (HNEW.out _)) HONE.out (by decide) (by unfold maxLen; omega) (by omega) (by simp; omega) (w4.heap.size + 1) (by simp) ?_; intro g5 cap5 wC hown hgrow hat hltg; obtain ⟨⟨hcA, hfA⟩, hTA⟩ := HFIN.out _ g5 cap5 wC hown hgrow; have HTA := hide hTA; clear hTA hown hgrow hat)
          go_roundw
          case rel => exact ⟨j + 1, by omega, by go_num, _, _, HTA.out, HNX.out⟩
          case measure => simp [intOf]; omega
        · by_cases hkd4 : kd = 4
          · have HNX := hide (HNXF.out (by rw [HIX.out, hkd4]; rfl))
            have hke : (kd != 1) = true := by rw [hkd4]; rfl
            have hkf : (kd != 4) = false := by rw [hkd4]; rfl
            clear hkd4 hkd1
            go_wp2_with (at_builtin; refine wpList_append_lies _ rfl (.tmp 37) (.tmp 39) 28 rfl (b + 1) 72 iR _ 3 32 Tryz.underlying28 hiR hzR0 hzR1 hzR2 rfl (by decide) (.slice ya ln yc) ln (rs.flatMap rgCells) rfl (HOWN.out _) ⟨w4.heap.size, 0, none⟩ 1 1 (rgCells (⟨kd, rn, some x.tidy⟩, .pointer (some ⟨g', 0, none⟩))) rfl rfl (World.news_of_block (HNEW.out _)) HONE.out (by decide) (by unfold maxLen; omega) (by omega) (by simp; omega) (w4.heap.size + 1) (by simp) ?_; intro g5 cap5 wC hown hgrow hat hltg; obtain ⟨⟨hcA, hfA⟩, hTA⟩ := HFIN.out _ g5 cap5 wC hown hgrow; have HTA := hide hTA; clear hTA hown hgrow hat)
            go_roundw
            case rel => exact ⟨j + 1, by omega, by go_num, _, _, HTA.out, HNX.out⟩
            case measure => simp [intOf]; omega
          · have HNX := hide (HNXT.out (by
              rw [HIX.out]
              have : idleK kd = true := by
                unfold idleK
                simp only [Bool.or_eq_true, beq_iff_eq]
                omega
              rw [this]
              rfl))
            have hke : (kd != 1) = true := by simpa using hkd1
            have hkf : (kd != 4) = true := by simpa using hkd4
            clear hkd4 hkd1
            go_wp2_with fail
            go_roundw
            case rel => exact ⟨j + 1, by omega, by go_num, _, rs, by rw [← HWR.out]; exact HP5.out, HNX.out⟩
            case measure => simp [intOf]; omega
      · have HNX := hide (HNXF.out (by
          rw [HIX.out]
          have : (xk == 0) = false := by rw [beq_eq_false_iff_ne]; exact hxk
          rw [this, Bool.and_false]))
        have hkz := kind_zero xk hxk
        clear hxk
        go_wp2_with (at_builtin; refine wpList_append_lies _ rfl (.tmp 37) (.tmp 39) 28 rfl (b + 1) 72 iR _ 3 32 Tryz.underlying28 hiR hzR0 hzR1 hzR2 rfl (by decide) (.slice ya ln yc) ln (rs.flatMap rgCells) rfl (HOWN.out _) ⟨w4.heap.size, 0, none⟩ 1 1 (rgCells (⟨kd, rn, some x.tidy⟩, .pointer (some ⟨g', 0, none⟩))) rfl rfl (World.news_of_block (HNEW.out _)) HONE.out (by decide) (by unfold maxLen; omega) (by omega) (by simp; omega) (w4.heap.size + 1) (by simp) ?_; intro g5 cap5 wC hown hgrow hat hltg; obtain ⟨⟨hcA, hfA⟩, hTA⟩ := HFIN.out _ g5 cap5 wC hown hgrow; have HTA := hide hTA; clear hTA hown hgrow hat)
        go_roundw
        case rel => exact ⟨j + 1, by omega, by go_num, _, _, HTA.out, HNX.out⟩
        case measure => simp [intOf]; omega
    · have hjq : q = j := by omega
      subst hjq
      have e0 : wr.cell? ⟨b, 0, none⟩ = some (.slice na n nc) := by rw [Lib.cell_of_heap HPR2.out.blk]; rfl
      have e1 : wr.cell? ⟨b, 1, none⟩ = some (.slice ya rs.length yc) := by rw [Lib.cell_of_heap HPR2.out.blk]; rfl
      have f0 : wr.frozen? ⟨w.heap.size + 1, 0, none⟩ = false := Lib.frozen_of_heap hb1 0
      have f1 : wr.frozen? ⟨w.heap.size + 1, 1, none⟩ = false := Lib.frozen_of_heap hb1 1
      have g0 : wr.cell? ⟨w.heap.size + 1, 0, none⟩ = some (.slice none 0 0) := by rw [Lib.cell_of_heap hb1]; rfl
      have g1 : wr.cell? ⟨w.heap.size + 1, 1, none⟩ = some (.slice none 0 0) := by rw [Lib.cell_of_heap hb1]; rfl
      obtain ⟨wF, hwF⟩ : ∃ wF, wF = (wr.setCell ⟨w.heap.size + 1, 0, none⟩ (.slice na n nc)).setCell ⟨w.heap.size + 1, 1, none⟩ (.slice ya rs.length yc) := ⟨_, rfl⟩
      have hst : RStay wr wF := fun g i u hp hc => by
        have hne : g ≠ w.heap.size + 1 := by
          intro e
          rcases hp with (⟨s, h1⟩ | ⟨t, y, h1⟩) | ⟨a, h1⟩
          all_goals rw [e, g0] at h1; cases h1
        rw [hwF, World.cell?_of_block (Below.heap_setCell _ _ _ _ (fun e => hne e)), World.cell?_of_block (Below.heap_setCell _ _ _ _ (fun e => hne e))]
        exact hc
      have hlo : Below w.heap.size w wF := by rw [hwF]; exact (hlow.setCell (by simp) _).setCell (by simp) _
      have hF : wF.heap[w.heap.size + 1]? = some (.cells #[.slice na n nc, .slice ya rs.length yc] 30 (0, 0)) := by rw [hwF]; simp [World.setCell, Array.getElem?_modify, hb1]
      have k0 : wF.cell? ⟨w.heap.size + 1, 0, none⟩ = some (.slice na n nc) := by rw [Lib.cell_of_heap hF]; rfl
      have k1 : wF.cell? ⟨w.heap.size + 1, 1, none⟩ = some (.slice ya rs.length yc) := by rw [Lib.cell_of_heap hF]; rfl
      have hgw : wr.grownBy wF (some (w.heap.size + 1)) := by
        rw [hwF]
        exact ⟨rfl, rfl, rfl, by simp [World.setCell], fun k _ hk => (Below.heap_setCell _ _ _ _ (fun e => hk (by simp [e]))).trans (Below.heap_setCell _ _ _ _ (fun e => hk (by simp [e])))⟩
      have HFN : Hid (IsRPrg wF (tidy p) (.agg #[.slice na n nc, .slice ya rs.length yc])) := by
        have h2 : QR wF b p.names rs (.slice na n nc) (.slice ya rs.length yc) wF := by
          refine ⟨Below.refl _ _, (hgw.block b hzr (fun e => by simp at e; omega)).trans HPR2.out.blk, names_stay hst.names HPR2.out.nat, HPR2.out.org.kept hgw ?_, fun r hr => ⟨(HPR2.out.br r hr).1, (HPR2.out.br r hr).2.1, rcond_stay hst (HPR2.out.br r hr).2.2⟩, HPR2.out.e0⟩
          cases ho : (Value.slice ya rs.length yc).ownBlock with
          | none => exact .inl rfl
          | some g => right; intro e; have := (HPR2.out.org.lt g ho).1; simp at e; omega
        have h3 := h2.prg (by omega)
        rw [HRS.out, HQ.out, List.take_length] at h3
        exact h3
      have HLO := hide hlo
      clear hb1 hst hlo hgw hF hb0 hlow
      go_wp2_with fail
      rw [← hwF]
      refine bodyPost_ret_by (v := .agg #[.slice na n nc, .slice ya rs.length yc]) ?_ rfl ?_
      · simp [results, Tryz.results16, go_sem, k0, k1]
      · exact ⟨_, rfl, HFN.out, HLO.out⟩
end Sl
end Go.Proofs.YtjfgfcajmkbmeaaGreatDoor
