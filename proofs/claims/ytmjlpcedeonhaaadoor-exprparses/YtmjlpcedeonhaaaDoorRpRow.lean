/-
  The walk of the document's row: parts with a sign between.
-/
import Derived.Test.YtmjlpcedeonhaaaDoorRpRep
import Derived.Deep.DeepCutAuto
import Derived.Deep.CutBlock
namespace Go.Proofs.YtmjlpcedeonhaaaDoor
open Go.RowKit
/-- what is left, behind a part that was read up to j -/
def cont (l : List UInt8) (sep : Nat) (R : Nat → Ex.Res Ex) (xs : List Ex) (n j : Nat) : Ex.Res (List Ex) :=
  if Ex.sg l (Ex.skip l j) = sep then comb xs (Ex.listP l sep R n (Ex.skip l j + 1)) else .inr (xs, Ex.skip l j)
theorem cont_of (l : List UInt8) (sep : Nat) (R : Nat → Ex.Res Ex) (f i : Nat) (xs : List Ex) (x : Ex) (j : Nat) (h : R i = .inr (x, j)) : comb xs (Ex.listP l sep R (f + 1) i) = cont l sep R (xs ++ [x]) f j := by
  unfold cont
  by_cases hc : Ex.sg l (Ex.skip l j) = sep
  · rw [if_pos hc]; exact listP_more l sep R f i xs x j h hc
  · rw [if_neg hc]; exact listP_end l sep R f i xs x j h hc
/-- a function value that reads, and how it is called -/
def PartV (b : Nat) (fv : Value) (K : Nat) (d : Int) (args : Array Value) : Prop :=
  (fv = .func (.func K) #[.pointer (some ⟨b, 0, none⟩)] #[] ∧ args = #[.pointer (some ⟨b, 0, none⟩), .int .i64 d]) ∨ ∃ c, fv = .func (.func K) #[] #[.pointer (some ⟨c, 0, none⟩)] ∧ args = #[.int .i64 d, .pointer (some ⟨c, 0, none⟩)]
theorem Tryd.infoRef : (Tryd.prog.info? 22).map (fun i => (i.zero, i.size, i.bytes)) = some (some (.pointer none), 1, 8) := by kernel_rfl
/-- what the loop holds -/
def RowRel (b : Nat) (s : ByteArray) (D : Nat) (w : World) (sep : Nat) (R : Nat → Ex.Res Ex) (T : Ex.Res (List Ex)) (n : Nat) (v : Value) (wr : World) : Prop :=
  ∃ us, LR b w v us wr ∧ us.length ≤ 3000 ∧
    ((∃ xs j, Good w v xs us wr ∧ Rp b s j 0 (-1) wr ∧ j ≤ s.size ∧ us.length ≤ j ∧ s.size - j < n ∧ T = cont s.data.toList sep R xs n j) ∨
     (∃ err p i, T = .inl (err, p) ∧ err ≠ 0 ∧ i ≤ s.size + D ∧ Rp b s i (err : Int) (p : Int) wr))
/-- what it comes to -/
def RowEnd (b : Nat) (s : ByteArray) (D : Nat) (w : World) (T : Ex.Res (List Ex)) (v : Value) (wr : World) : Prop :=
  ∃ us, LR b w v us wr ∧ us.length ≤ 3000 ∧
    ((∃ xs m, Good w v xs us wr ∧ Rp b s m 0 (-1) wr ∧ T = .inr (xs, m)) ∨
     (∃ err p i, T = .inl (err, p) ∧ err ≠ 0 ∧ i ≤ s.size + D ∧ Rp b s i (err : Int) (p : Int) wr))
theorem LR.slice {b : Nat} {w : World} {v : Value} {us : List Value} {wr : World} (h : LR b w v us wr) : ∃ g cap, v = .slice (some ⟨g, 0, none⟩) us.length cap ∧ us.length ≤ cap ∧ w.heap.size ≤ g ∧ ∀ (k : Nat) u, us[k]? = some u → wr.cell? ⟨g, k, none⟩ = some u := by
  have hown := h.own
  rcases h.own.2 with ⟨_, h0⟩ | ⟨g, cap, cur, hv, hbg, hg, hnc, _⟩
  · exact absurd (List.length_eq_zero_iff.1 h0) h.ne
  · refine ⟨g, cap, hv, hnc, hbg, fun k u hu => ?_⟩
    have := hown.cells (g := g) (by rw [hv]; rfl) k u hu
    cases k <;> simpa [Addr.add] using this
theorem rmade_one (kind : Nat) (x : Ex) (m : Nat) : Ex.made kind (.inr ([x], m)) = .inr (x, m) := rfl
theorem rmade_more (kind : Nat) (xs : List Ex) (m : Nat) (h : xs.length ≠ 1) : Ex.made kind (.inr (xs, m)) = .inr (⟨kind, [], xs⟩, m) := by
  match xs, h with
  | [], _ => rfl
  | [_], h => simp at h
  | _ :: _ :: _, _ => rfl
/-- what is returned, behind the loop -/
theorem RowEnd.fin {b : Nat} {s : ByteArray} {D : Nat} {w : World} {T : Ex.Res (List Ex)} {v : Value} {wr : World} {us : List Value} {sep kind : Nat} (hsep : (sep = 38 ∧ kind = 6) ∨ (sep = 124 ∧ kind = 7)) (hlr : LR b w v us wr) (hul : us.length ≤ 3000)
    (hcase : (∃ xs m, Good w v xs us wr ∧ Rp b s m 0 (-1) wr ∧ T = .inr (xs, m)) ∨ (∃ err p i, T = .inl (err, p) ∧ err ≠ 0 ∧ i ≤ s.size + D ∧ Rp b s i (err : Int) (p : Int) wr)) :
    (us.length = 1 → ∀ q, us[0]? = some (.pointer q) → ReadR b s D w (Ex.made kind T) (.returned (.pointer q)) wr) ∧
    (us.length ≠ 1 → ∀ g cap, v = .slice (some ⟨g, 0, none⟩) us.length cap → ReadR b s D w (Ex.made kind T) (.returned (.pointer (some ⟨wr.heap.size, 0, none⟩))) (wr.alloc (.cells #[.string ⟨(kindS kind).toArray⟩, .string ⟨#[]⟩, v] 61))) := by
  rcases hcase with ⟨xs, m, hg, hrp, rfl⟩ | ⟨err, p, i, rfl, herr, hi, hrp⟩
  · constructor
    · intro h1 q hq
      have hx1 : xs.length = 1 := by rw [← hg.len]; exact h1
      match xs, hx1, hg with
      | [x], _, hg =>
        rw [rmade_one]
        obtain ⟨g, e, hx⟩ := hg.each 0 x _ rfl hq
        rw [e]
        exact ⟨hlr.keep, g, rfl, IsRx.stay (fun g i u _ hc => hc) (fun g hg => hg.1) x g hx, hrp⟩
    · intro h1 g cap hv
      rw [rmade_more kind xs m (by rw [← hg.len]; exact h1)]
      have hal : Below wr.heap.size wr (wr.alloc (.cells #[.string ⟨(kindS kind).toArray⟩, .string ⟨#[]⟩, v] 61)) := (Below.refl _ _).alloc (Nat.le_refl _) _
      have h2 : 2 ≤ xs.length := by
        have := List.length_pos_iff.2 hlr.ne
        rw [hg.len] at this h1
        omega
      refine ⟨hlr.keep.alloc _, wr.heap.size, rfl, ?_, hrp.alloc _⟩
      rw [IsRx.def]
      refine ⟨hlr.keep.size, ?_, by rw [← hg.len]; omega, by simp [World.cell?_alloc_at], by simp [World.cell?_alloc_at], v, by simp [World.cell?_alloc_at], ?_⟩
      · rcases hsep with ⟨_, rfl⟩ | ⟨_, rfl⟩
        · exact .inr (.inr (.inr ⟨by omega, by omega, rfl, h2⟩))
        · exact .inr (.inr (.inr ⟨by omega, by omega, rfl, h2⟩))
      · obtain ⟨ga, ca, hv2, hca, hga, hcl⟩ := hlr.slice
        refine .inr ⟨by omega, ga, ca, by rw [← hg.len]; exact hv2, by rw [← hg.len]; exact hca, hga, ?_⟩
        intro i P hP
        rw [List.getElem?_map] at hP
        cases hl : xs[i]? with
        | none => rw [hl] at hP; simp at hP
        | some y =>
          rw [hl] at hP
          simp only [Option.map_some, Option.some.injEq] at hP
          have hil : i < us.length := by rw [hg.len]; exact (List.getElem?_eq_some_iff.1 hl).1
          obtain ⟨q, e, hx⟩ := hg.each i y us[i] hl (List.getElem?_eq_getElem hil)
          have hc := hcl i us[i] (List.getElem?_eq_getElem hil)
          rw [e] at hc
          refine ⟨q, Stay.below (ok := fun _ => True) hal ga i _ trivial hc, ?_⟩
          rw [← hP]
          exact IsRx.stay (Stay.below hal) (fun g hg => hg.1) y q hx
  · constructor
    · intro _ q _
      exact ⟨hlr.keep, q, i, rfl, hi, herr, hrp⟩
    · intro _ g cap hv
      exact ⟨hlr.keep.alloc _, _, i, rfl, hi, herr, hrp.alloc _⟩
theorem ReadR.ptr {b : Nat} {s : ByteArray} {D : Nat} {w : World} {r : Ex.Res Ex} {e : Ending} {w' : World} (h : ReadR b s D w r e w') : ∃ q, e = .returned (.pointer q) := by
  obtain ⟨_, h⟩ := h
  match r, h with
  | .inl (_, _), ⟨q, _, he, _⟩ => exact ⟨q, he⟩
  | .inr (_, _), ⟨g, he, _⟩ => exact ⟨_, he⟩
set_option maxHeartbeats 4000000 in
set_option maxRecDepth 100000 in
theorem row_any (b : Nat) (s : ByteArray) (i D N K : Nat) (d : Int) (fv : Value) (args : Array Value) (hent : Entered K) (hfv : PartV b fv K d args) (hN : s.size < N) (sep kind : Nat) (hsep : (sep = 38 ∧ kind = 6) ∨ (sep = 124 ∧ kind = 7)) (R : Nat → Ex.Res Ex) (hadv : Ex.Adv s.data.toList R) (w0 w : World)
    (hR : ∀ (i : Nat) (w : World), Keep b w0 w → Rp b s i 0 (-1) w → i ≤ s.size → Calls Tryd.prog K args w (ReadR b s D w (R i))) (hk0 : Keep b w0 w) (h : Rp b s i 0 (-1) w) (hi : i ≤ s.size) (hs : s.size ≤ 2000) :
    Calls Tryd.prog 31 #[.pointer (some ⟨b, 0, none⟩), .int .u8 (sep : Int), .int .i64 d, fv] w (ReadR b s D w (Ex.made kind (Ex.listP s.data.toList sep R N i))) := by
  obtain ⟨i0, hi0, hz0, hz1, hz2⟩ := info_parts Tryd.infoRef
  have HR := hide hR
  have HA := hide hadv
  have HL : Hid (s.data.toList.length = s.size) := by show _ = _; simp
  have H := hide h
  have HK0 := hide hk0
  have HSEP := hide hsep
  have hent' : ∀ (args : Array Value) (w : World), (callFunc K args).run Tryd.prog w = .ok (.enter K args) w := hent
  have hlt := h.lt
  obtain ⟨n0, hn0⟩ : ∃ n0, N = n0 + 1 := ⟨N - 1, by omega⟩
  subst hn0
  clear hR hadv h hsep hent hk0
  obtain ⟨T, hT⟩ : ∃ T, T = Ex.listP s.data.toList sep R (n0 + 1) i := ⟨_, rfl⟩
  rw [← hT]
  have HT : Hid (T = comb [] (Ex.listP s.data.toList sep R (n0 + 1) i)) := by
    show _ = _
    rw [comb_nil, hT]
  clear hT
  have HFIRST := hide (HR.out i w HK0.out H.out hi)
  rcases hfv with ⟨rfl, rfl⟩ | ⟨c, rfl, rfl⟩
  all_goals
    go_enter Tryd.func31, Tryd.ntmps31
    go_wp2_with fail
    refine HFIRST.out.mono ?_
    intro e w1 hq
    clear HFIRST
    have hst : ∃ q, e = .returned (.pointer q) ∧ Keep b w w1 ∧ RowRel b s D w sep R T n0 (.slice (some ⟨w1.heap.size, 0, none⟩) 1 1) (w1.alloc (.cells #[.pointer q] 22)) := by
      obtain ⟨hk, hq⟩ := hq
      cases hRi : R i with
      | inl p =>
        obtain ⟨err, pl⟩ := p
        rw [hRi] at hq
        obtain ⟨q, j, rfl, hj, herr, hrp⟩ := hq
        refine ⟨q, rfl, hk, [.pointer q], LR.start hk hlt q, by simp, .inr ⟨err, pl, j, ?_, herr, hj, hrp.alloc _⟩⟩
        rw [HT.out]; exact listP_err _ _ _ _ _ _ _ hRi
      | inr p =>
        obtain ⟨x, m⟩ := p
        rw [hRi] at hq
        obtain ⟨g, rfl, hx, hrp⟩ := hq
        have ha := HA.out i x m (by rw [HL.out]; exact hi) hRi
        rw [HL.out] at ha
        refine ⟨_, rfl, hk, [.pointer (some ⟨g, 0, none⟩)], LR.start hk hlt _, by simp, .inl ⟨[x], m, Good.start hx, hrp.alloc _, ha.2, by simp; omega, by omega, ?_⟩⟩
        rw [HT.out]; exact cont_of _ _ _ _ _ [] _ _ hRi
    obtain ⟨q, rfl, hk1, hrel0⟩ := hst
    have HREL0 := hide hrel0
    have HK1 := hide hk1
    clear hrel0 hk1 hq HT
    go_upto_block 0 with fail
    go_cut [9] (fun v wx => RowEnd b s D w T v wx)
    case first =>
      go_wp2_with fail
      go_loopg [9] n0 (fun n v wr => RowRel b s D w sep R T n v wr)
      case atStart => exact HREL0.out
      case round =>
        obtain ⟨us, hlr, hul, hcase⟩ := hrel
        have HLR := hide hlr
        have HUL := hide hul
        obtain ⟨ga, ca, hu9, hca, hga, hcl⟩ := hlr.slice
        subst hu9
        clear hlr hga hcl HREL0
        rcases hcase with ⟨xs, j, hgood, hrp, hj, husj, hn, hTc⟩ | ⟨err, p, i', hTe, herr, hi', hrp⟩
        · have HG := hide hgood
          have HRP := hide hrp
          have HTC := hide hTc
          obtain ⟨c0, c1, c2, c3, f1, f2, f3⟩ := hrp
          have hle := Ex.skip_le s.data.toList j (by rw [HL.out]; exact hj)
          rw [HL.out] at hle
          have hge := Ex.skip_ge s.data.toList j
          have HNX := hide (rnext_any b s j 0 (-1) wr HRP.out hj hs)
          have HIFF := hide (rsg_iff s.data.toList (Ex.skip s.data.toList j) sep (by have := HSEP.out; omega) (by have := HSEP.out; omega))
          have HSL : Hid (Ex.sg s.data.toList (Ex.skip s.data.toList j) = sep → Ex.skip s.data.toList j < s.size) := fun e => by
            have := Ex.sg_lt s.data.toList _ (by rw [e]; have := HSEP.out; omega)
            rwa [HL.out] at this
          clear hgood hTc
          by_cases hc : rsg s.data.toList (Ex.skip s.data.toList j) = sep
          · have hsg := HIFF.out.1 hc
            have hq := HSL.out hsg
            have HTM : Hid (T = comb xs (Ex.listP s.data.toList sep R gk (Ex.skip s.data.toList j + 1))) := by show _ = _; rw [HTC.out, cont, if_pos hsg]
            rw [hc] at HNX
            clear hc hsg HIFF HSL HTC
            generalize Ex.skip s.data.toList j = q1 at *
            obtain ⟨n', hn'⟩ : ∃ n', gk = n' + 1 := ⟨gk - 1, by omega⟩
            subst hn'
            go_wp2_with fail
            refine HNX.out.mono ?_
            rintro e w2 ⟨rfl, hr2, hk2⟩
            have HL2 := hide (HLR.out.read hk2)
            have HG2 := hide (HG.out.read HLR.out.hb hk2)
            have HR2 := hide hr2
            clear c0 c1 c2 c3 f1 f2 f3 HNX hk2
            obtain ⟨c0, c1, c2, c3, f1, f2, f3⟩ := hr2
            have hks : Keep b w2 (w2.setCell ⟨b, 1, none⟩ (.int .i64 ((q1 + 1 : Nat) : Int))) := (Keep.refl b w2).setCell rfl _
            have HL3 := hide (HL2.out.read hks)
            have HG3 := hide (HG2.out.read HLR.out.hb hks)
            have HCALL := hide (HR.out (q1 + 1) _ (HK0.out.trans HL3.out.keep) (HR2.out.set1 (q1 + 1)) (by omega))
            clear hks
            go_wp2_with fail
            refine HCALL.out.mono ?_
            intro e w3 hq3
            obtain ⟨q3, hq3e⟩ := hq3.ptr
            subst hq3e
            have HQ3 := hide hq3
            have HL4 := hide (HL3.out.read hq3.1)
            have HG4 := hide (HG3.out.read HLR.out.hb hq3.1)
            have HSZ : Hid (w.heap.size ≤ (w2.setCell ⟨b, 1, none⟩ (.int .i64 ((q1 + 1 : Nat) : Int))).heap.size) := HL3.out.keep.size
            have HVL : Hid (∀ k, (Value.slice (some ⟨ga, 0, none⟩) us.length ca).ownBlock = some k → k < (w2.setCell ⟨b, 1, none⟩ (.int .i64 ((q1 + 1 : Nat) : Int))).heap.size) := fun k hk => (HL3.out.own.lt k hk).2
            clear hq3 HCALL HL3 HG3 HL2 HG2 HG c0 c1 c2 c3 f1 f2 f3
            have HOWN := hide (HL4.out.own.alloc (.cells #[.pointer q3] 22))
            have hsz4 := HL4.out.keep.size
            go_wp2_with (at_builtin; refine wpList_append_own_at _ rfl (.tmp 33) (.tmp 37) 59 rfl w.heap.size 22 i0 (.pointer none) 1 8 Tryd.underlying59 hi0 hz0 hz1 hz2 rfl (by decide) _ us.length us rfl HOWN.out ⟨w3.heap.size, 0, none⟩ 1 1 [.pointer q3] rfl rfl (cell_one_new _ _ _) ?c2 ?c3 ?c4 ?c5 ?_)
            case c2 => intro z hz; simp at hz; subst hz; rfl
            case c3 => unfold maxLen; omega
            case c4 => omega
            case c5 => simp; omega
            intro v' w4 hown' hgrow _ hat
            have HL5 := hide (HL4.out.push hgrow hown' ⟨q3, rfl⟩)
            have HNB : Hid (∀ j e p, Rp b s j e p w3 → Rp b s j e p w4) := fun j e p hr => (hr.alloc _).grown hgrow HL4.out.nb
            have HG5 : Hid (∀ x g, q3 = some ⟨g, 0, none⟩ → IsRx (fun g => (w2.setCell ⟨b, 1, none⟩ (.int .i64 ((q1 + 1 : Nat) : Int))).heap.size ≤ g) w3 x g → Good w v' (xs ++ [x]) (us ++ [.pointer q3]) w4) := fun x g hq hx => by
              subst hq
              exact HG4.out.push HSZ.out HVL.out hx hgrow hat
            obtain ⟨g5, cap5, hv', _, _, _⟩ := HL5.out.slice
            subst hv'
            clear hown' hgrow hat HOWN HG4 HSZ HVL
            go_wp2_with fail
            go_roundg n'
            case measure => omega
            case rel =>
              refine ⟨us ++ [.pointer q3], HL5.out, by simp; omega, ?_⟩
              have hq3 := HQ3.out.2
              cases hRi : R (q1 + 1) with
              | inl p =>
                obtain ⟨err, pl⟩ := p
                rw [hRi] at hq3
                obtain ⟨q, jj, _, hjj, herr, hrp⟩ := hq3
                refine .inr ⟨err, pl, jj, ?_, herr, hjj, HNB.out _ _ _ hrp⟩
                rw [HTM.out]; exact listP_err _ _ _ _ _ _ _ hRi
              | inr p =>
                obtain ⟨x, m⟩ := p
                rw [hRi] at hq3
                obtain ⟨g, hge2, hx, hrp⟩ := hq3
                have ha := HA.out (q1 + 1) x m (by rw [HL.out]; omega) hRi
                rw [HL.out] at ha
                simp only [Ending.returned.injEq, Value.pointer.injEq] at hge2
                refine .inl ⟨xs ++ [x], m, HG5.out x g hge2 hx, HNB.out _ _ _ hrp, ha.2, by simp; omega, by omega, ?_⟩
                rw [HTM.out]; exact cont_of _ _ _ _ _ xs _ _ hRi
          · have hsg : ¬ Ex.sg s.data.toList (Ex.skip s.data.toList j) = sep := fun e => hc (HIFF.out.2 e)
            have HTM : Hid (T = .inr (xs, Ex.skip s.data.toList j)) := by show _ = _; rw [HTC.out, cont, if_neg hsg]
            have e1 : ((rsg s.data.toList (Ex.skip s.data.toList j) : Int) == (sep : Int)) = false := beq_eq_false_iff_ne.2 (by omega)
            clear hc hsg HIFF HSL HTC
            generalize rsg s.data.toList (Ex.skip s.data.toList j) = cc at *
            generalize Ex.skip s.data.toList j = q1 at *
            go_wp2_with fail
            refine HNX.out.mono ?_
            rintro e w2 ⟨rfl, hr2, hk2⟩
            have HL2 := hide (HLR.out.read hk2)
            have HG2 := hide (HG.out.read HLR.out.hb hk2)
            have HR2 := hide hr2
            clear c0 c1 c2 c3 f1 f2 f3 HNX hk2 hr2
            go_wp2_with fail
            go_meet
            exact ⟨us, HL2.out, HUL.out, .inl ⟨xs, q1, HG2.out, HR2.out, HTM.out⟩⟩
        · have e1 : ((err : Int) == 0) = false := beq_eq_false_iff_ne.2 (by omega)
          have HRP := hide hrp
          have HTE := hide hTe
          obtain ⟨c0, c1, c2, c3, f1, f2, f3⟩ := hrp
          clear hTe
          go_wp2_with fail
          go_meet
          exact ⟨us, HLR.out, HUL.out, .inr ⟨err, p, i', HTE.out, herr, hi', HRP.out⟩⟩
    case rest =>
      obtain ⟨us, hlr, hul, hcase⟩ := hcut
      have HEND := hide (RowEnd.fin (kind := kind) HSEP.out hlr hul hcase)
      obtain ⟨ga, ca, hu9, hca, hga, hcl⟩ := hlr.slice
      subst hu9
      have hne := hlr.ne
      have henc : Utf8.encode (sep : Int) = ⟨(kindS kind).toArray⟩ := by rcases HSEP.out with ⟨rfl, rfl⟩ | ⟨rfl, rfl⟩ <;> decide
      by_cases h1 : us.length = 1
      · obtain ⟨u0, hu0⟩ : ∃ u0, us[0]? = some u0 := ⟨us[0], List.getElem?_eq_getElem (by omega)⟩
        obtain ⟨q0, hq0⟩ := hlr.ptr u0 (List.mem_of_getElem? hu0)
        subst hq0
        have hcell := hcl 0 _ hu0
        have HF := hide (HEND.out.1 h1 q0 hu0)
        have hlen : (us.length : Int) = 1 := by omega
        clear hlr hcase hul hne hcl hga hu0 HREL0 henc
        generalize us.length = nu at *
        go_wp2_with fail
        go_ret
        exact HF.out
      · have HF := hide (HEND.out.2 h1)
        have h1' : ((us.length : Int) == 1) = false := beq_eq_false_iff_ne.2 (by omega)
        clear hlr hcase hne hcl hga HREL0
        have HSL : Hid (us.length ≤ 3000) := hul
        generalize us.length = nu at *
        clear h1
        go_wp2_with fail
        go_ret
        exact HF.out ga ca rfl
end Go.Proofs.YtmjlpcedeonhaaaDoor
