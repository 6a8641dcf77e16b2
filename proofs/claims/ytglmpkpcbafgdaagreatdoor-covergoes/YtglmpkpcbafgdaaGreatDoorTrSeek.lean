/-
  The walk of nearest: the nearest way that was not gone yet.
-/
import Derived.Test.YtglmpkpcbafgdaaGreatDoorTrAllAll
import Derived.Deep.AppendLies
namespace Go.Proofs.YtglmpkpcbafgdaaGreatDoor
namespace Tr
open Go.RowKit Go.Sort
theorem infoT : (Tryz.prog.info? 102).map (fun i => (i.zero, i.size, i.bytes)) = some (some (.agg #[.int .i64 0, .int .i64 0, .int .i64 0]), 3, 24) := by kernel_rfl
theorem mt_at (l : List Mt) (i : Nat) (p : Mt) (h : l[i]? = some p) (j : Nat) (hj : j < 3) : (l.flatMap mtCells)[i * 3 + j]? = (mtCells p)[j]? := by
  induction l generalizing i with
  | nil => simp at h
  | cons a r ih =>
    rw [List.flatMap_cons]
    match i, h with
    | 0, h =>
      simp only [List.getElem?_cons_zero, Option.some.injEq] at h
      subst h
      rw [List.getElem?_append_left (by simp [mtCells]; omega)]
      simp
    | i + 1, h =>
      rw [List.getElem?_append_right (by simp [mtCells]; omega)]
      simp only [List.getElem?_cons_succ] at h
      have := ih i h
      rw [← this]
      congr 1
      simp [mtCells]
      omega
theorem met_own {w : World} {B g n c : Nat} {l : List Mt} (h : w.ownsRow B 102 3 (.slice (some ⟨g, 0, none⟩) n c) n (l.flatMap mtCells)) : MetAt w g l := by
  intro k m hm
  have key : ∀ j u, j < 3 → (mtCells m)[j]? = some u → w.cell? ⟨g, k * 3 + j, none⟩ = some u := fun j u hj hu => by
    have := h.cells (g := g) rfl (k * 3 + j) u (by rw [mt_at l k m hm j hj]; exact hu)
    generalize k * 3 + j = q at *
    cases q <;> simpa [Addr.add] using this
  exact ⟨key 0 _ (by decide) rfl, key 1 _ (by decide) rfl, key 2 _ (by decide) rfl⟩
/-- what stands in memory while one looks -/
structure Sk (w : World) (gs g c : Nat) (met : List Mt) (seen : List Bool) (W : World) : Prop where
  low : Below w.heap.size w W
  row : RowIs W gs 4 (seen.map boolV)
  own : W.ownsRow (gs + 1) 102 3 (.slice (some ⟨g, 0, none⟩) met.length c) met.length (met.flatMap mtCells)
theorem ownB {w w' : World} {B : Nat} {e : TypeId} {z : Nat} {v : Value} {n : Nat} {xs : List Value} (h : w.ownsRow B e z v n xs) (hb : Below w.heap.size w w') : w'.ownsRow B e z v n xs :=
  h.kept (row := none) ⟨hb.os, hb.tape, hb.output, hb.size, fun k hk _ => hb.block k hk⟩ (by cases v.ownBlock <;> simp)
theorem ownM {W : World} {q q' : Nat} {e : TypeId} {s : Nat} {v : Value} {n : Nat} {xs : List Value} (h : W.ownsRow q e s v n xs) (hq : q' ≤ q) : W.ownsRow q' e s v n xs :=
  ⟨h.1, h.2.imp id fun ⟨g, cap, cur, h1, h2, h3⟩ => ⟨g, cap, cur, h1, Nat.le_trans hq h2, h3⟩⟩
theorem Sk.below {w : World} {gs g c : Nat} {met : List Mt} {seen : List Bool} {W W' : World} (h : Sk w gs g c met seen W) (hb : Below W.heap.size W W') : Sk w gs g c met seen W' :=
  ⟨h.low.trans (hb.mono h.low.size), h.row.below hb, ownB h.own hb⟩
/-- a state is marked -/
theorem Sk.mark {w : World} {gs g c : Nat} {met : List Mt} {seen : List Bool} {W : World} (h : Sk w gs g c met seen W) (hg : w.heap.size ≤ gs) (t : Nat) : Sk w gs g c met (seen.set t true) (W.setCell ⟨gs, t, none⟩ (.bool true)) := by
  have hgr : W.grownBy (W.setCell ⟨gs, t, none⟩ (.bool true)) (some gs) := ⟨rfl, rfl, rfl, by simp [World.setCell], fun k _ hne => Below.heap_setCell _ _ _ _ (fun e => hne (by rw [e]))⟩
  refine ⟨h.low.setCell (p := ⟨gs, t, none⟩) hg _, ?_, h.own.kept hgr (.inr fun e => by have := (h.own.lt gs e).1; omega)⟩
  have := h.row.set t (.bool true)
  rw [List.map_set]
  exact this
/-- what nearest comes to -/
def Sought (w : World) (next : Nat → List Nat) (I S : Nat) (G : List Nat) (a : Nat) (e : Ending) (w' : World) : Prop :=
  (e = .returned (.slice none 0 0) ∧ G.getD a 0 = I) ∨ ∃ p i g c, e = .returned (.slice (some ⟨g, 0, none⟩) (p.length + 1) c) ∧ w'.ownsRow w.heap.size 3 1 (.slice (some ⟨g, 0, none⟩) (p.length + 1) c) (p.length + 1) ((p ++ [i]).map natV) ∧ Leg next I S G a p i
set_option maxHeartbeats 8000000 in
set_option maxRecDepth 100000 in
theorem nearest_any (bw gN gG S I : Nat) (next : Nat → List Nat) (uN G : List Nat) (a : Nat) (w : World) (h : Wk w bw gN gG S I next uN G a) (ha : a < S) (hS : S ≤ 4096) (hI : I ≤ 64) (hgl : ∀ s, G.getD s 0 ≤ I) (hnl : ∀ s, (next s).length = I) (hnx : ∀ f s, f < S → s ∈ next f → s < S) :
    Calls Tryz.prog 15 #[.pointer (some ⟨bw, 0, none⟩)] w fun e w' => Sought w next I S G a e w' ∧ Below w.heap.size w w' := by
  obtain ⟨i0, hi0, hz0, hz1, hz2⟩ := info_parts Tryz.infoInt
  obtain ⟨j0, hj0, hy0, hy1, hy2⟩ := info_parts infoT
  obtain ⟨c0, c1, c2⟩ := h.cells
  have HWK := hide h
  have HGL := hide hgl
  have HNL := hide hnl
  have HNX := hide hnx
  have mk := fun w => makeBs S (by omega) w
  obtain ⟨cb, hcb⟩ : ∃ cb, cb = List.replicate S (Value.bool false) := ⟨_, rfl⟩
  have HCB := hide hcb
  rw [← hcb] at mk
  have e1 : Decidable.decide ((a : Int) < 0) = false := decide_eq_false (by omega)
  have e2 : Decidable.decide ((S : Int) ≤ (a : Int)) = false := decide_eq_false (by omega)
  clear h hgl hnl hnx hcb
  go_enter Tryz.func15, Tryz.ntmps15
  go_upto_region 1 with fail
  go_quiet (fail)
  obtain ⟨w0, hw0⟩ : ∃ w0, w0 = w.drewN nq := ⟨_, rfl⟩
  rw [← hw0]
  have hb0 : Below w.heap.size w w0 := by rw [hw0]; exact drewN_low (Below.refl _ _) _
  have hsz0 : w0.heap.size = w.heap.size := by rw [hw0]; rfl
  have HB0 := hide hb0
  obtain ⟨d0, d1, d2⟩ := (HWK.out.below hb0).cells
  clear hw0 c0 c1 c2 e1 hb0
  have HSZ0 := hide hsz0
  clear hsz0
  have e3 : Decidable.decide (S ≤ a) = false := decide_eq_false (by omega)
  obtain ⟨gs, hgs⟩ : ∃ gs, gs = w0.heap.size := ⟨_, rfl⟩
  have HGS := hide hgs
  obtain ⟨w1, hw1⟩ : ∃ w1, w1 = w0.alloc (.cells ⟨cb⟩ 4) := ⟨_, rfl⟩
  have HW1 := hide hw1
  have hb01 : Below w0.heap.size w0 w1 := by rw [hw1]; exact (Below.refl _ _).alloc (Nat.le_refl _) _
  have HB1 := hide (HB0.out.trans (hb01.mono HB0.out.size))
  have HS1 : Hid (w1.heap.size = gs + 1) := by show _ = _; rw [hw1, hgs]; simp
  have HR1 : Hid (RowIs w1 gs 4 (List.replicate S (.bool false))) := by show RowIs _ _ _ _; rw [hw1, hgs, ← HCB.out]; exact RowIs.new _ _ _
  have HLG : Hid (w.heap.size = gs) := by show _ = _; rw [hgs, HSZ0.out]
  clear hw1 hb01 hgs
  go_upto_region 4 with fail
  rw [← HW1.out, ← HGS.out]
  obtain ⟨f0, f1, f2⟩ := (HWK.out.below HB1.out).cells
  have f3 : w1.cell? ⟨gs, a, none⟩ = some (.bool false) := HR1.out.cell a _ (by rw [List.getElem?_replicate, if_pos ha])
  have f4 := HR1.out.frozen a
  clear d0 d1 d2 mk
  obtain ⟨w2, hw2⟩ : ∃ w2, w2 = w1.setCell ⟨gs, a, none⟩ (.bool true) := ⟨_, rfl⟩
  have HW2 := hide hw2
  have HB2 : Hid (Below w.heap.size w w2) := by
    show Below _ _ _
    rw [hw2]
    exact HB1.out.setCell (p := ⟨gs, a, none⟩) (by show w.heap.size ≤ gs; rw [HLG.out]; exact Nat.le_refl _) _
  have HS2 : Hid (w2.heap.size = gs + 1) := by show _ = _; rw [hw2, ← HS1.out]; simp [World.setCell]
  have HR2 : Hid (RowIs w2 gs 4 (((List.replicate S false).set a true).map boolV)) := by
    show RowIs _ _ _ _
    rw [hw2]
    have := HR1.out.set a (.bool true)
    rw [List.map_set, List.map_replicate]
    exact this
  clear hw2
  go_upto_region 5 with fail
  rw [← HW2.out]
  clear f0 f1 f2 f3 f4 e2 e3
  obtain ⟨f0, f1, f2⟩ := (HWK.out.below HB2.out).cells
  go_wp2_with fail
  rw [HS2.out]
  have e3 : Decidable.decide (S ≤ a) = false := decide_eq_false (by omega)
  rw [e3]
  clear e3 f0 f1 f2
  have HSK : Hid (Sk w gs (gs + 1) 1 [⟨a, 0, 0⟩] ((List.replicate S false).set a true) (w2.alloc (.cells #[.int .i64 (a : Int), .int .i64 0, .int .i64 0] 102))) := by
    refine ⟨HB2.out.alloc HB2.out.size _, HR2.out.alloc _, ⟨by simp [mtCells], .inr ⟨gs + 1, 1, #[.int .i64 (a : Int), .int .i64 0, .int .i64 0], rfl, Nat.le_refl _, ?_, Nat.le_refl _, by decide, by simp, by simp [mtCells]⟩⟩⟩
    have := heap_alloc_new w2 (.cells #[.int .i64 (a : Int), .int .i64 0, .int .i64 0] 102)
    rw [HS2.out] at this
    exact this
  have HST := hide (Near.start next I S G a ha)
  have HLG2 : Hid (w.heap.size ≤ gs) := by show _ ≤ _; rw [HLG.out]; exact Nat.le_refl _
  clear HW1 HW2 HGS HS1 HS2 HR1 HR2 HB1 HB2 HCB HSZ0 HB0
  go_loopw [4, 5] (fun mv kv wr => ∃ (k : Nat) (met : List Mt) (seen : List Bool) (g c : Nat), k ≤ met.length ∧ kv = .int .i64 (k : Int) ∧ mv = .slice (some ⟨g, 0, none⟩) met.length c ∧ Hid (Near next I S G a met seen k) ∧ Hid (Sk w gs g c met seen wr)) (fun _ kv _ => S - (intOf kv).toNat)
  case atStart => exact ⟨0, [⟨a, 0, 0⟩], _, gs + 1, 1, by simp, rfl, rfl, HST.out, HSK.out⟩
  case round =>
    obtain ⟨k, met, seen, g, c, hkm, rfl, rfl, HN, HSKr⟩ := hrel
    have hfew := HN.out.few
    have hcap : met.length ≤ c := by
      rcases HSKr.out.own.2 with ⟨hv, _⟩ | ⟨g', c', cur, hv, _, _, hnc, _⟩
      · cases hv
      · simp only [Value.slice.injEq] at hv
        omega
    obtain ⟨L, hL⟩ : ∃ L, L = met.length := ⟨_, rfl⟩
    have HL := hide hL
    rw [← hL] at hkm hfew hcap ⊢
    clear hL HSK HST
    by_cases hlt : k < L
    · have hkl : k < met.length := by rw [← HL.out]; exact hlt
      obtain ⟨f, hf⟩ : ∃ f, met[k]? = some f := ⟨_, List.getElem?_eq_getElem hkl⟩
      have HF := hide hf
      have hfS := HN.out.low k f hf
      have HMET := hide (met_own HSKr.out.own)
      obtain ⟨m0, _, _⟩ := HMET.out k f hf
      have HWR := hide (HWK.out.below HSKr.out.low)
      have HHL := hide (hasLeft_any bw gN gG S I next uN G a f.s wr HWR.out hfS (by omega) (by omega))
      clear hf
      by_cases hleft : G.getD f.s 0 < I
      · rw [decide_eq_true hleft] at HHL
        have HLEFT := hide hleft
        clear hleft
        go_wp2_with fail
        refine HHL.out.mono ?_
        rintro e w3 ⟨rfl, hb3⟩
        have HB3 := hide hb3
        have HW3 := hide (HSKr.out.low.trans (hb3.mono HSKr.out.low.size))
        clear hb3 HHL m0
        have HM3 := hide (HMET.out.below HB3.out)
        have HPT : Hid (∀ W, Below w3.heap.size w3 W → Calls Tryz.prog 38 #[.slice (some ⟨g, 0, none⟩) L c, .int .i64 (k : Int)] W (Pth W next I G met k f.s)) := fun W hW => by
          rw [HL.out]
          exact path_any next I S G a met seen k k g c f W HN.out HF.out (by omega) (HM3.out.below hW) (by rw [← HL.out]; exact hcap)
        have HKW : Hid (∀ W, Below w3.heap.size w3 W → W.cell? ⟨bw, 1, none⟩ = some (.slice (some ⟨gG, 0, none⟩) S S) ∧ W.cell? ⟨gG, f.s, none⟩ = some (.int .i64 ((G.getD f.s 0 : Nat) : Int))) := fun W hW => by
          have h1 := HWK.out.below (HW3.out.trans (hW.mono HW3.out.size))
          exact ⟨h1.cells.2.1, h1.goneAt f.s hfS⟩
        have HLEG : Hid (∀ r, Way next I G met k f.s 0 r → Leg next I S G a r.reverse (G.getD f.s 0)) := fun r hr => hr.leg HN.out (by rw [← HL.out]; exact hlt) HLEFT.out
        have HGI : Hid (G.getD f.s 0 ≤ 64) := by show _ ≤ _; have := HGL.out f.s; omega
        generalize G.getD f.s 0 = gi at *
        generalize f.s = fs at *
        have HD : Hid (Below w3.heap.size w3 w3.drew) := drewB w3
        have HDB : Hid (∀ o, Below w3.heap.size w3 (w3.alloc o).drew) := fun o => ((Below.refl _ w3).alloc (Nat.le_refl _) o).trans ((drewB (w3.alloc o)).mono (by simp))
        have HDW : Hid (Below w.heap.size w w3.drew) := HW3.out.trans (HD.out.mono HW3.out.size)
        have HDN : Hid (∀ o, (w3.alloc o).drew.heap[w3.heap.size]? = some o) := fun o => heap_alloc_new w3 o
        have HDL : Hid (∀ o, w3.heap.size < (w3.alloc o).drew.heap.size) := fun o => by show w3.heap.size < (w3.alloc o).heap.size; simp
        have HDZ : Hid (w3.drew.heap.size = w3.heap.size) := rfl
        have hz3 := HW3.out.size
        have HONE : Hid (∀ u ∈ [Value.int .i64 (gi : Int)], u.oneCell' = true) := by
          intro u hu
          simp only [List.mem_cons, List.not_mem_nil, or_false] at hu
          subst hu; rfl
        have HWF : Hid (∀ r, Way next I G met k fs 0 r → r.length + 1 ≤ maxLen ∧ (r.length + 1) * 8 ≤ 140737488355328) := fun r hr => by
          have := hr.few
          unfold maxLen
          omega
        have HFIN : Hid (∀ r g c wC, Way next I G met k fs 0 r → wC.ownsRow w3.heap.size 3 1 (.slice (some ⟨g, 0, none⟩) (r.length + 1) c) (r.length + 1) (r.reverse.map natV ++ [.int .i64 (gi : Int)]) → Below w.heap.size w wC → Sought w next I S G a (.returned (.slice (some ⟨g, 0, none⟩) (r.length + 1) c)) wC ∧ Below w.heap.size w wC) := fun r g c wC hr h1 h2 =>
          ⟨.inr ⟨r.reverse, gi, g, c, by rw [List.length_reverse], by rw [List.length_reverse, List.map_append]; exact ownM h1 hz3, HLEG.out r hr⟩, h2⟩
        clear HM3 HLEG HMET HF
        have hfi : (fs : Int) < (S : Int) := by omega
        go_upto_region 11 with fail
        go_region_held3 (fun W => W.cell? ⟨bw, 1, none⟩ = some (.slice (some ⟨gG, 0, none⟩) S S) ∧ W.cell? ⟨gG, fs, none⟩ = some (.int .i64 (gi : Int))) ((refine HKW.out _ ?_; first | exact HD.out | exact HDB.out _ | exact Below.refl _ _ | exact HB4.out | exact HB4.out.alloc HB4.out.size _ | exact HBC3.out)) ((first
          | (go_at_call 38; (with_reducible refine (HPT.out _ HD.out).mono ?_); rintro e w4 ⟨r, ra, rc, rfl, hown, hway, hb4⟩; have HB4 : Hid (Below w3.heap.size w3 w4) := HD.out.trans hb4; have HO4 := hide (ownM hown HD.out.size); have HWY := hide hway; obtain ⟨hr1, hr2⟩ := HWF.out r hway; clear hown hway hb4)
          | (go_at_call 38; (with_reducible refine (HPT.out _ (HDB.out _)).mono ?_); rintro e w4 ⟨r, ra, rc, rfl, hown, hway, hb4⟩; have HB4 : Hid (Below w3.heap.size w3 w4) := (HDB.out _).trans (hb4.mono (HDB.out _).size); have HO4 := hide (ownM hown (HDB.out _).size); have HNB : Hid (w4.heap[w3.heap.size]? = some (.cells #[.int .i64 (gi : Int)] 3)) := (hb4.block _ (HDL.out _)).trans (HDN.out _); have HWY := hide hway; obtain ⟨hr1, hr2⟩ := HWF.out r hway; clear hown hway hb4)
          | (refine step_append_lies _ rfl (.tmp 60) (.tmp 68) 26 rfl w3.heap.size 3 i0 _ 1 8 Tryz.underlying26 hi0 hz0 hz1 hz2 rfl (by decide) (.slice ra r.length rc) r.length (r.reverse.map natV) rfl (HO4.out.alloc _) ⟨w4.heap.size, 0, none⟩ 1 1 [.int .i64 (gi : Int)] rfl rfl (World.news_of_block (heap_alloc_new w4 _)) HONE.out Nat.one_pos hr1 hr2 (HB4.out.alloc HB4.out.size _).size (w4.heap.size + 1) (World.size_alloc _ _) ?_; intro g2 cap2 wC hown hgrow hat hltg; have HB4W := hide (HW3.out.trans (HB4.out.mono HW3.out.size)); have HBC3 : Hid (Below w3.heap.size w3 wC) := (HB4.out.alloc HB4.out.size _).grown hgrow (HB4.out.alloc HB4.out.size _).size (fun b e => (HO4.out.lt b e).1); have HBC := hide ((HB4W.out.alloc HB4W.out.size _).grown hgrow (HB4W.out.alloc HB4W.out.size _).size (fun b e => Nat.le_trans hz3 (HO4.out.lt b e).1)); have HOC := hide hown; clear hown hgrow hat)
          | (refine step_append_lies _ rfl (.tmp 60) (.tmp 68) 26 rfl w3.heap.size 3 i0 _ 1 8 Tryz.underlying26 hi0 hz0 hz1 hz2 rfl (by decide) (.slice ra r.length rc) r.length (r.reverse.map natV) rfl HO4.out ⟨w3.heap.size, 0, none⟩ 1 1 [.int .i64 (gi : Int)] rfl rfl (World.news_of_block HNB.out) HONE.out Nat.one_pos hr1 hr2 HB4.out.size w4.heap.size rfl ?_; intro g2 cap2 wC hown hgrow hat hltg; have HB4W := hide (HW3.out.trans (HB4.out.mono HW3.out.size)); have HBC3 : Hid (Below w3.heap.size w3 wC) := HB4.out.grown hgrow HB4.out.size (fun b e => (HO4.out.lt b e).1); have HBC := hide (HB4W.out.grown hgrow HB4W.out.size (fun b e => Nat.le_trans hz3 (HO4.out.lt b e).1)); have HOC := hide hown; clear hown hgrow hat)))
        all_goals
          have HE := hide (HFIN.out r g2 cap2 wC HWY.out HOC.out HBC.out)
          go_wp2_with fail
          go_ret
          exact HE.out
      · have hfull : G.getD f.s 0 = I := by have := HGL.out f.s; omega
        rw [decide_eq_false hleft] at HHL
        have HFULL := hide hfull
        obtain ⟨bR, hr1, hr2⟩ := HWK.out.row f.s hfS
        have hr0 := HWK.out.cells.1
        have HROW : Hid (∀ W, Below w.heap.size w W → W.cell? ⟨bw, 0, none⟩ = some (.slice (some ⟨gN, 0, none⟩) S S) ∧ W.cell? ⟨gN, f.s, none⟩ = some (.slice (some ⟨bR, 0, none⟩) I I) ∧ ∀ (i x : Nat), (next f.s)[i]? = some x → W.cell? ⟨bR, i, none⟩ = some (.int .i64 (x : Int))) := fun W hW =>
          have key : ∀ (p : Addr) v, w.cell? p = some v → W.cell? p = some v := fun _ _ hv => (hW.cell (World.block_lt_of_cell? _ _ hv)).trans hv
          ⟨key _ _ hr0, key _ _ hr1, fun i x hx => key _ _ (hr2 i x hx)⟩
        clear hleft hfull hr1 hr2 hr0
        go_wp2_with fail
        refine HHL.out.mono ?_
        rintro e w3 ⟨rfl, hb3⟩
        have HS3 := hide (HSKr.out.below hb3)
        obtain ⟨x0, x1, _⟩ := HROW.out w3 HS3.out.low
        clear hb3 HHL m0
        have hNL := HNL.out f.s
        generalize hfs : f.s = fs at *
        have HFS := hide hfs
        have hfi : (fs : Int) < (S : Int) := by omega
        clear hfs
        go_wp2_with fail
        clear x0 x1
        go_loopw [4, 78] (fun mv iv wi => ∃ (i : Nat) (met2 : List Mt) (seen2 : List Bool) (g2 c2 : Nat), i ≤ I ∧ iv = .int .i64 (i : Int) ∧ mv = .slice (some ⟨g2, 0, none⟩) met2.length c2 ∧ Hid (Near next I S G a met2 seen2 k) ∧ Hid (met2[k]? = some f) ∧ Hid (Sk w gs g2 c2 met2 seen2 wi)) (fun _ iv _ => I - (intOf iv).toNat)
        case atStart => exact ⟨0, met, seen, g, c, Nat.zero_le _, rfl, by rw [HL.out], HN.out, HF.out, HS3.out⟩
        case round =>
          obtain ⟨wi, rfl⟩ : ∃ wi, wi = wr := ⟨wr, rfl⟩
          obtain ⟨i, met2, seen2, g2, c2, hiI, rfl, rfl, HN2, HF2, HS2⟩ := hrel
          have hfew2 := HN2.out.few
          by_cases hil : i < I
          · have hin : i < (next fs).length := by rw [hNL]; exact hil
            obtain ⟨t, ht⟩ : ∃ t, (next fs)[i]? = some t := ⟨_, List.getElem?_eq_getElem hin⟩
            have htS : t < S := HNX.out fs t hfS (List.mem_of_getElem? ht)
            obtain ⟨_, _, x2⟩ := HROW.out wi HS2.out.low
            have x3 := x2 i t ht
            have hsl : t < seen2.length := by rw [HN2.out.lenS]; exact htS
            have x4 : wi.cell? ⟨gs, t, none⟩ = some (.bool (seen2.getD t false)) := HS2.out.row.cell t _ (by rw [List.getElem?_map, List.getD_eq_getElem?_getD, List.getElem?_eq_getElem hsl]; rfl)
            have x5 := HS2.out.row.frozen t
            have HMORE := hide (HN2.out.more f HF2.out (by rw [HFS.out]; exact HFULL.out) i t hil (by rw [HFS.out]; exact ht) htS)
            have hti : (t : Int) < (S : Int) := by omega
            clear x2 hin
            cases hsn : seen2.getD t false with
            | true =>
              rw [hsn] at x4
              clear hsn HMORE
              go_wp2_with fail
              go_roundw
              case rel => exact ⟨i + 1, met2, seen2, g2, c2, by omega, by go_num, rfl, HN2.out, HF2.out, HS2.out⟩
              case measure => simp [intOf]; omega
            | false =>
              rw [hsn] at x4
              have HN3 := hide (HMORE.out hsn)
              have HSM := hide (HS2.out.mark HLG2.out t)
              obtain ⟨ws, hws⟩ : ∃ ws, ws = wi.setCell ⟨gs, t, none⟩ (.bool true) := ⟨_, rfl⟩
              rw [← hws] at HSM
              have HWS := hide hws
              have HF3 : Hid ((met2 ++ [⟨t, k, i⟩])[k]? = some f) := by show _ = _; rw [List.getElem?_append_left (List.getElem?_eq_some_iff.1 HF2.out).1]; exact HF2.out
              have HOWN : Hid (∀ o, (ws.alloc o).ownsRow (gs + 1) 102 3 (.slice (some ⟨g2, 0, none⟩) met2.length c2) met2.length (met2.flatMap mtCells)) := fun o => HSM.out.own.alloc o
              have HONE : Hid (∀ z ∈ [Value.int .i64 (t : Int), .int .i64 (k : Int), .int .i64 (i : Int)], z.oneCell' = true) := by
                intro z hz
                simp only [List.mem_cons, List.not_mem_nil, or_false] at hz
                rcases hz with rfl | rfl | rfl <;> rfl
              have hzs := HSM.out.low.size
              have hzg : gs < ws.heap.size := HSM.out.row.lt
              have HFIN : Hid (∀ (o : Obj) (g cap : Nat) (wC : World), wC.ownsRow (gs + 1) 102 3 (.slice (some ⟨g, 0, none⟩) (met2.length + 1) cap) (met2.length + 1) (met2.flatMap mtCells ++ [.int .i64 (t : Int), .int .i64 (k : Int), .int .i64 (i : Int)]) → (ws.alloc o).grownBy wC (Value.slice (some ⟨g2, 0, none⟩) met2.length c2).ownBlock →
                  Sk w gs g cap (met2 ++ [⟨t, k, i⟩]) (seen2.set t true) wC) := fun o g cap wC h1 h2 => by
                have hne : ∀ b, (Value.slice (some ⟨g2, 0, none⟩) met2.length c2).ownBlock = some b → gs + 1 ≤ b := fun b e => (HSM.out.own.lt b e).1
                refine ⟨(HSM.out.low.alloc HSM.out.low.size o).grown h2 (by simp; omega) (fun b e => by have := hne b e; have := HLG2.out; omega), ?_, ?_⟩
                · exact (h2.block gs (by simp; omega) (fun e => by have := hne gs e.symm; omega)).trans (HSM.out.row.alloc o)
                · rw [List.flatMap_append, List.length_append]
                  exact h1
              clear hsn HMORE hws HSM
              obtain ⟨L2, hL2⟩ : ∃ L2, L2 = met2.length := ⟨_, rfl⟩
              have HL2 := hide hL2
              rw [← hL2] at HOWN HFIN hfew2 ⊢
              clear hL2
              go_upto_region 17 with fail
              rw [← HWS.out]
              go_wp2_with (at_builtin; refine wpList_append_lies _ rfl (.tmp 91) (.tmp 96) 103 rfl (gs + 1) 102 j0 _ 3 24 Tryz.underlying103 hj0 hy0 hy1 hy2 rfl (by decide) (.slice (some ⟨g2, 0, none⟩) L2 c2) L2 (met2.flatMap mtCells) rfl (HOWN.out _) ⟨ws.heap.size, 0, none⟩ 1 1 [.int .i64 (t : Int), .int .i64 (k : Int), .int .i64 (i : Int)] rfl rfl (World.news_of_block (heap_alloc_new ws _)) (HONE.out) (by decide) (by unfold maxLen; omega) (by omega) (by simp; omega) (ws.heap.size + 1) (by simp) ?_; intro g3 cap3 wC hown hgrow hat hltg; have HSC := hide (HFIN.out _ g3 cap3 wC hown hgrow); clear hown hgrow hat)
              go_roundw
              case rel => exact ⟨i + 1, met2 ++ [(⟨t, k, i⟩ : Mt)], seen2.set t true, g3, cap3, by omega, by go_num, by rw [HL2.out]; simp, HN3.out, HF3.out, HSC.out⟩
              case measure => simp [intOf]; omega
          · have HNN := hide (HN2.out.next f HF2.out (by rw [HFS.out]; exact HFULL.out))
            have hk2 : k + 1 ≤ met2.length := (List.getElem?_eq_some_iff.1 HF2.out).1
            go_wp2_with fail
            go_roundw
            case rel => exact ⟨k + 1, met2, seen2, g2, c2, hk2, by go_num, rfl, HNN.out, HS2.out⟩
            case measure => simp [intOf]; omega
    · have HDN : Hid (G.getD a 0 = I) := HN.out.done 0 _ (by
        have h1 := HN.out.first
        have h2 := (List.getElem?_eq_some_iff.1 h1).1
        have := HL.out
        omega) HN.out.first
      go_wp2_with fail
      go_ret
      exact ⟨.inl ⟨rfl, HDN.out⟩, HSKr.out.low⟩
end Tr
end Go.Proofs.YtglmpkpcbafgdaaGreatDoor
