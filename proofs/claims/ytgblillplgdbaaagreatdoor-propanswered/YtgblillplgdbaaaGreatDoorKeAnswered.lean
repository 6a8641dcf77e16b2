/-
  The walk of the statement PropAnswered.
-/
import Derived.Test.YtgblillplgdbaaaGreatDoorPrOrAll
import Derived.Test.YtgblillplgdbaaaGreatDoorMcNumber
namespace Go.Proofs.YtgblillplgdbaaaGreatDoor
open Go.RowKit
/-- an operation of a region that draws is taken first, its slot told -/
theorem take_at {P : Program} {md : Region.Mode} {ops : Array Oper} {Q : Exit → Act → World → Prop} {S : World → Prop} (i d : Nat) (v : Value) {oi : Oper} {fuel : Nat} {listed : Array Bool} {tm : Array Value} {df : _} {w : World} (hi : ops[i]? = some oi) (hd : oi.dst = some d) (hs : Region.noSelect ops = true) (hf : Region.free md ops listed i = true) (hr : (Region.ready md ops listed).contains i = true) (hQ : ∀ c a w, ¬ Q (.panic c) a w) (hS : S w) (hy : YieldsIf P ops S oi v ⟨tm, df⟩) (h : wpAnyH P md ops Q S fuel (listed.setIfInBounds i true) ⟨tm.setIfInBounds d v, df⟩ w) : wpAnyH P md ops Q S (fuel + 1) listed ⟨tm, df⟩ w := by
  refine wpAnyH_take hi hs hf hr (fun c a w h => (hQ c _ w h).elim) hy hS ?_
  rw [hd]
  exact h
theorem skip_at {P : Program} {md : Region.Mode} {ops : Array Oper} {Q : Exit → Act → World → Prop} {S : World → Prop} (i d j : Nat) (want : Bool) {oi : Oper} {fuel : Nat} {listed : Array Bool} {tm : Array Value} {df : _} {w : World} (hi : ops[i]? = some oi) (hd : oi.dst = some d) (hg : oi.guard = some (j, want)) (hj : yielded ops tm j = some (!want)) (hs : Region.noSelect ops = true) (hf : Region.free md ops listed i = true) (hr : (Region.ready md ops listed).contains i = true) (hQ : ∀ c a w, ¬ Q (.panic c) a w) (hS : S w) (h : wpAnyH P md ops Q S fuel (listed.setIfInBounds i true) ⟨tm.setIfInBounds d undef, df⟩ w) : wpAnyH P md ops Q S (fuel + 1) listed ⟨tm, df⟩ w := by
  refine take_at i d undef hi hd hs hf hr hQ hS (Or.inr ⟨?_, rfl⟩) h
  unfold Region.wanted
  rw [hg]
  show (yielded ops tm j == some want) = false
  rw [hj]
  cases want <;> rfl
theorem wpOp_skip {P : Program} {ops : Array Oper} {Q : Exit → Act → World → Prop} (i d j : Nat) (want : Bool) {o : Oper} {K : Act → World → Prop} {tm : Array Value} {df : _} {w : World} (ho : ops[i]? = some o) (hd : o.dst = some d) (hg : o.guard = some (j, want)) (hj : yielded ops tm j = some (!want)) (h : K ⟨tm.setIfInBounds d undef, df⟩ w) : wpOp P ops Q i K ⟨tm, df⟩ w := by
  have hw : Region.wanted o (yielded ops tm) = false := by
    unfold Region.wanted
    rw [hg]
    show (yielded ops tm j == some want) = false
    rw [hj]
    cases want <;> rfl
  unfold wpOp
  rw [ho]
  simp only [hw]
  rw [hd]
  exact h
set_option maxHeartbeats 8000000 in
set_option maxRecDepth 100000 in
theorem propAnswered_any (s ta tb : ByteArray) (n0 : Int) (w : World) (hs : s.size ≤ maxLen) (hta : ta.size ≤ maxLen) (htb : tb.size ≤ maxLen) (hL : Laid w) :
    Calls Tryz.prog 4 #[.string s, .string ta, .string tb, .int .i64 n0] w fun e w' => e = .returned (.bool true) ∧ Below w.heap.size w w' := by
  have HL := hide hL
  have HMD := hide (kmade_any s 60 w hs hL (by omega))
  have HPX := hide (fun W => Parse_any ta W hta)
  have HPY := hide (fun W => Parse_any tb W htb)
  have HPBX := hide (fun x h => Ex.parse_bnd ta.data.toList x h)
  have HPBY := hide (fun x h => Ex.parse_bnd tb.data.toList x h)
  obtain ⟨T, hT⟩ : ∃ T, T = madeP s 60 := ⟨_, rfl⟩
  rw [← hT] at HMD
  have HT := hide hT
  have HPR : Hid (∀ W, Below w.heap.size w W → Calls Tryz.prog 6 #[] W fun e w' => e = .returned (.bool true) ∧ Below w.heap.size w w' ∧ Below W.heap.size W w') := fun W hW => by
    refine (proper_any W (HL.out.below hW)).mono ?_
    rintro e w' ⟨rfl, h⟩
    exact ⟨rfl, hW.trans (h.mono hW.size), h⟩
  unfold maxLen at hta htb
  clear hT hs hL
  go_enter Tryz.func4, Tryz.ntmps4
  go_wp2_with fail
  refine HMD.out.mono ?_
  intro e w1 hq
  clear HMD
  match T, hq, HT with
  | none, hq, _ =>
    obtain ⟨hb1, rfl⟩ := hq
    have HMC := hide (HPR.out w1 hb1)
    clear hb1
    go_wp2_with fail
    refine HMC.out.mono ?_
    rintro e w2 ⟨rfl, hb2, hk_⟩
    have HB2 := hide hb2
    clear hb2 hk_ HMC
    go_wp2_with fail
    go_ret
    exact ⟨rfl, HB2.out⟩
  | some p, hq, HT =>
    obtain ⟨hb1, bm, rfl, hbm, hmach, hck⟩ := hq
    obtain ⟨hq4, hS3⟩ := made_few HT.out
    have HB1 := hide hb1
    have HMA := hide hmach
    have HCK := hide hck
    have HP1 := hide (HPR.out w1 hb1)
    have HP2 := hide (HPX.out w1)
    clear hb1 hmach hck
    by_cases hz : 300 < wrap64 ((ta.size : Int) + (tb.size : Int))
    · clear HP2
      go_wp2_with fail
      refine HP1.out.mono ?_
      rintro e w2 ⟨rfl, hb2, hk_⟩
      have HB2 := hide hb2
      clear hb2 hk_ HP1
      go_wp2_with fail
      go_ret
      exact ⟨rfl, HB2.out⟩
    · clear HP1
      go_wp2_with fail
      refine HP2.out.mono ?_
      intro e w2 hq
      obtain ⟨hb2, hq⟩ := hq.form
      have HB2 := hide hb2
      have HBW2 := hide (HB1.out.trans (hb2.mono HB1.out.size))
      have HP3 := hide (HPY.out w2)
      clear HP2 HPX HPY hb2 hz
      rcases hq with ⟨x, tx, yx, hx, rfl, hX⟩ | ⟨tx, yx, rfl⟩
      · obtain ⟨hx1, hx2, _⟩ := HPBX.out x hx
        have HX := hide hX
        have hxs : x.size ≤ 2000 := by omega
        clear hX hx hx1 hx2
        go_wp2_with fail
        refine HP3.out.mono ?_
        intro e w3 hq
        obtain ⟨hb3, hq⟩ := hq.form
        have HB3 := hide hb3
        have HBW3 := hide (HBW2.out.trans (hb3.mono HBW2.out.size))
        have HP4 := hide (HPR.out w3 HBW3.out)
        clear HP3 hb3
        rcases hq with ⟨y, ty, yy, hy, rfl, hY⟩ | ⟨ty, yy, rfl⟩
        · obtain ⟨hy1, hy2, _⟩ := HPBY.out y hy
          have HY := hide hY
          have hys : y.size ≤ 2000 := by omega
          clear hY hy hy1 hy2 HPBX HPBY
          go_wp2_with fail
          refine HP4.out.mono ?_
          rintro e w4 ⟨rfl, hb4, hk_⟩
          have hb14 : Below w1.heap.size w1 w4 := HB2.out.trans ((HB3.out.trans (hk_.mono HB3.out.size)).mono HB2.out.size)
          have HB14 := hide hb14
          have HBW4 := hide hb4
          have HX4 : Hid (IsEx (fun _ => True) w4 x (.iface tx yx)) := IsEx.stay (Stay.below (HB3.out.trans (hk_.mono HB3.out.size))) (fun g _ => trivial) x _ HX.out
          have HY4 : Hid (IsEx (fun _ => True) w4 y (.iface ty yy)) := IsEx.stay (Stay.below hk_) (fun g _ => trivial) y _ HY.out
          obtain ⟨n, hn⟩ : ∃ n : Nat, (n : Int) = n0 % 18446744073709551616 % ((9 : Nat) : Int) := ⟨(n0 % 18446744073709551616 % ((9 : Nat) : Int)).toNat, by have := Int.emod_nonneg (n0 % 18446744073709551616) (show ((9 : Nat) : Int) ≠ 0 by decide); omega⟩
          have hn9 : n ≤ 8 := by have := Int.emod_lt_of_pos (n0 % 18446744073709551616) (show (0 : Int) < ((9 : Nat) : Int) by decide); omega
          have HPK := hide (pick_any n0 9 w4 (by decide) (by decide))
          rw [← hn] at HPK
          have HAN : Hid (∀ (W : World) (m : Nat), Below w4.heap.size w4 W → m ≤ 20 → Calls Tryz.prog 15 #[.pointer (some ⟨bm, 0, none⟩), .iface tx yx, .iface ty yy, .int .i64 (m : Int)] W (PAnswered W p x y m)) := fun W m hW hm =>
            Answers_any (fun _ => True) bm p x y _ _ m W ((HMA.out.below HB14.out).below hW) HCK.out (by omega) (by omega) (IsEx.stay (Stay.below hW) (fun g _ => trivial) x _ HX4.out) (IsEx.stay (Stay.below hW) (fun g _ => trivial) y _ HY4.out) (by omega) (by omega) hm
          have HA5 := hide (HAN.out w4 n (Below.refl _ _) (by omega))
          clear hn hb4 hk_ hb14 HP4 HX HY
          go_wp2_with fail
          refine HPK.out.mono ?_
          rintro e w4' ⟨rfl, hw4'⟩
          rw [hw4']
          clear hw4' HPK
          go_wp2_with fail
          refine HA5.out.mono ?_
          intro e w5 hq
          obtain ⟨hb5, hq⟩ := hq
          have HB5 := hide hb5
          clear hb5 HA5
          cases hhas : (Pr.has p.names x && Pr.has p.names y) with
          | false =>
            rw [hhas, if_neg Bool.false_ne_true] at hq
            obtain rfl := hq
            have HBW5 := hide (HBW4.out.trans (HB5.out.mono HBW4.out.size))
            clear hhas
            go_wp2_with fail
            go_ret
            exact ⟨rfl, HBW5.out⟩
          | true =>
            rw [hhas, if_pos rfl] at hq
            obtain ⟨b5, a5, m5, c5, rfl, h5⟩ := hq.form2
            have HF5 := hide h5
            rw [Bool.and_eq_true] at hhas
            have HHAS := hide hhas
            have HA6 : Hid (Calls Tryz.prog 15 #[.pointer (some ⟨bm, 0, none⟩), .iface tx yx, .iface ty yy, .int .i64 ((n : Int) + 1)] w5 (PAnswered w5 p x y (n + 1))) := HAN.out w5 (n + 1) HB5.out (by omega)
            clear hq h5 hhas
            go_wp2_with fail
            refine HA6.out.mono ?_
            intro e w6 hq
            obtain ⟨hb6, hq⟩ := hq
            rw [HHAS.out.1, HHAS.out.2, Bool.and_self, if_pos rfl] at hq
            obtain ⟨b6, a6, m6, c6, rfl, h6, h6'⟩ := hq.form
            have HF6 := hide (And.intro h6 h6')
            have HB6 := hide (HB5.out.trans (hb6.mono HB5.out.size))
            have HB56 := hide hb6
            have HA7 : Hid (Calls Tryz.prog 15 #[.pointer (some ⟨bm, 0, none⟩), .iface tx yx, .iface ty yy, .int .i64 0] w6 (PAnswered w6 p x y 0)) := HAN.out w6 0 HB6.out (by omega)
            clear hb6 hq h6 h6' HA6
            go_wp2_with fail
            refine HA7.out.mono ?_
            intro e w7 hq
            obtain ⟨hb7, hq⟩ := hq
            rw [HHAS.out.1, HHAS.out.2, Bool.and_self, if_pos rfl] at hq
            obtain ⟨b7, a7, m7, c7, rfl, h7, h7'⟩ := hq.form
            have HF7 := hide (And.intro h7 h7')
            have HB7 := hide (HB6.out.trans (hb7.mono HB6.out.size))
            have HB57 := hide (HB56.out.trans (hb7.mono HB56.out.size))
            obtain ⟨wo, hwo⟩ : ∃ wo, wo = w7.alloc (.cells #[.iface 59 (.agg #[.iface tx yx]), .iface ty yy] 28) := ⟨_, rfl⟩
            have hbo : Below w7.heap.size w7 wo := by rw [hwo]; exact (Below.refl _ _).alloc (Nat.le_refl _) _
            have hxo : IsEx (fun _ => True) wo (prO x y) (.iface 61 (.slice (some ⟨w7.heap.size, 0, none⟩) 2 2)) := by
              rw [hwo]
              exact or_is (ok := fun _ => True) (ok' := fun _ => True) (IsEx.stay (Stay.below HB7.out) (fun g _ => trivial) x _ HX4.out) (IsEx.stay (Stay.below HB7.out) (fun g _ => trivial) y _ HY4.out)
            have HBO := hide (HB7.out.trans (hbo.mono HB7.out.size))
            have HB5O := hide (HB57.out.trans (hbo.mono HB57.out.size))
            have HC8 := hide (PCheck_any _ bm p (prO x y) _ wo ((HMA.out.below HB14.out).below HBO.out) HCK.out (by omega) (by omega) hxo (by rw [prO_size]; omega))
            have HWO := hide hwo
            rw [hwo] at HC8
            clear hb7 hq h7 h7' HA7 hbo hxo hwo HAN
            go_wp2_with fail
            refine HC8.out.mono ?_
            rw [← HWO.out]
            intro e w8 hq
            obtain ⟨hb8, hq⟩ := hq
            rw [prO_has _ _ _ HHAS.out.1 HHAS.out.2, if_pos rfl] at hq
            obtain ⟨b8, a8, m8, c8, rfl, h8, h8'⟩ := hq.form
            have HB8 := hide (HBO.out.trans (hb8.mono HBO.out.size))
            have HB58 := hide (HB5O.out.trans (hb8.mono HB5O.out.size))
            have HBW8 := hide (HBW4.out.trans (HB8.out.mono HBW4.out.size))
            have hIL : ∀ s i, i < (Mc.nexts p s).length → i < 2 ^ (Ld.kindL p.names 1).length := fun s i hi => by rw [Mc.nexts_len] at hi; exact hi
            have e87 : b8 = b7 := now_or (fun s i hi => wtA_or p x y _ s i (hIL s i hi)) HF7.out.1 HF7.out.2 h8 h8'
            subst e87
            clear hb8 hq h8 h8' HC8 HWO HF7
            obtain ⟨rfl, hm5, hheld⟩ | ⟨rfl, l, g, rfl, hm5, hbr, hown, hpl⟩ := HF5.out
            · have e6 : b6 = true := by
                cases hb : b6 with
                | true => rfl
                | false =>
                  obtain ⟨l, hl⟩ := HF6.out.2 hb
                  exact (hl.not (Nat.le_succ n) hheld).elim
              subst e6
              subst hm5
              clear hheld HF5 HF6 hIL
              cases b8
              · go_wp2_with fail
                go_ret
                exact ⟨rfl, HBW8.out⟩
              · go_wp2_with fail
                go_ret
                exact ⟨rfl, HBW8.out⟩
            · subst hm5
              have hends := hbr.ends (ask := Pr.good p x) (ans := Pr.good p y) (fun q i hi => wtA_eq p x y _ q i (hIL q.1 i hi))
              have hlt := Pr.InR.lt (fun s => Mc.nexts_len p s) l 0 hbr.inr
              have HENDS := hide hends
              have HLT := hide hlt
              have hI16 : 2 ^ (Ld.kindL p.names 1).length ≤ 16 := Nat.pow_le_pow_right (n := 2) (by decide) hq4
              have HIN := hide ((ints_own (l := l) hown rfl (fun i hi => by have := hlt i hi; omega)).below HB58.out)
              have hm8 : IsMach w8 bm p := (HMA.out.below HB14.out).below HB8.out
              obtain ⟨na, nk, nc, ra, rk, rc, hsee⟩ := hm8.sees HCK.out (by omega)
              obtain ⟨gN, uN, hna⟩ := hm8.next
              obtain ⟨_, c3⟩ := hm8.sizes
              have pn := fun w a => ptrNe w a
              have HSEE := hide hsee
              have HEX := hide (hsee.eval (fun _ => True) x _ (IsEx.stay (Stay.below HB8.out) (fun g _ => trivial) x _ HX4.out))
              have HEY := hide (hsee.eval (fun _ => True) y _ (IsEx.stay (Stay.below HB8.out) (fun g _ => trivial) y _ HY4.out))
              have HNA := hide hna
              have HNL := hide (fun s => Mc.nexts_len p s)
              have HGO : Hid (∀ j, Rc.go (Mc.nexts p) 0 (l.take j) < Mc.total (Mc.parts p)) := by
                have key : ∀ (l : List Nat) (s : Nat), s < Mc.total (Mc.parts p) → (∀ i, i ∈ l → i < 2 ^ (Ld.kindL p.names 1).length) → Rc.go (Mc.nexts p) s l < Mc.total (Mc.parts p) := by
                  intro l
                  induction l with
                  | nil => intro s hs _; exact hs
                  | cons i l ih =>
                    intro s hs hi
                    refine ih _ (Mc.nexts_lt p HCK.out s _ ?_) (fun j hj => hi j (by simp [hj]))
                    have hil : i < (Mc.nexts p s).length := by rw [Mc.nexts_len]; exact hi i (by simp)
                    rw [List.getD_eq_getElem?_getD, List.getElem?_eq_getElem hil]
                    exact List.getElem_mem hil
                exact fun j => key _ 0 (Mc.total_pos (Mc.parts p) (Mc.parts_ok p)) (fun i hi => HLT.out i (List.mem_of_mem_take hi))
              have HK3 : Hid (∀ W, Below w8.heap.size w8 W → W.cell? ⟨bm, 3, none⟩ = some (.int .i64 ((2 ^ (Ld.kindL p.names 1).length : Nat) : Int))) := fun W hW => (hW.cell (World.block_lt_of_cell? _ _ c3)).trans c3
              clear hIL hbr hown hlt hends hm8 hsee hna c3 HF5 HF6 HMA HCK HX4 HY4 HHAS HT
              generalize p.names.length = nn at *
              generalize Mc.total (Mc.parts p) = S at *
              generalize 2 ^ (Ld.kindL p.names 1).length = I at *
              obtain ⟨M, hM⟩ : ∃ M, M = l.length := ⟨_, rfl⟩
              have HM := hide hM
              rw [← hM] at hpl HENDS ⊢
              obtain ⟨L, hLM⟩ : ∃ L, M = L + 1 := ⟨M - 1, by have := HENDS.out.1; omega⟩
              have hnL : n ≤ L := by have := HENDS.out.1; omega
              subst hLM
              clear hM
              have hc0 : ((L : Int) + 1 == 0) = false := by rw [beq_eq_false_iff_ne]; omega
              have hc1 : (((L + 1 : Nat) : Int) == 0) = false := by rw [beq_eq_false_iff_ne]; omega
              go_wp2_with fail
              clear hc0 hc1
              go_loopw [25, 27] (fun sv iv wr => ∃ k : Nat, k ≤ L + 1 ∧ iv = .int .i64 (k : Int) ∧ sv = .int .i64 (Rc.go (Mc.nexts p) 0 (l.take k) : Int) ∧ Hid (Below w8.heap.size w8 wr)) (fun _ iv _ => L + 1 - (intOf iv).toNat)
              case atStart => exact ⟨0, Nat.zero_le _, rfl, rfl, Below.refl _ _⟩
              case round =>
                obtain ⟨k, hk, rfl, rfl, HB⟩ := hrel
                by_cases hlt : k < L + 1
                · have hkl : k < l.length := by rw [← HM.out]; exact hlt
                  have hle := List.getElem?_eq_getElem hkl
                  have hti := HLT.out _ (List.getElem_mem hkl)
                  obtain ⟨g1, o1, hg1, d1⟩ := (HIN.out.below HB.out).cell k _ (show (l.map fun i : Nat => (i : Int))[k]? = some ((l[k] : Nat) : Int) by rw [List.getElem?_map, hle]; rfl)
                  simp only [Option.some.injEq, Addr.mk.injEq, and_true] at hg1
                  obtain ⟨rfl, rfl⟩ := hg1
                  rw [Nat.zero_add] at d1
                  have hans := fun h => HENDS.out.2.1 k _ hle h
                  have hask := fun h => HENDS.out.2.2 k _ hle h
                  have hstep : Rc.go (Mc.nexts p) 0 (l.take (k + 1)) = (Mc.nexts p (Rc.go (Mc.nexts p) 0 (l.take k))).getD l[k] 0 := by rw [List.take_succ_eq_append_getElem hkl, Rc.go_snoc]
                  have hsS := HGO.out k
                  obtain ⟨s1, hs1⟩ : ∃ s1, s1 = Rc.go (Mc.nexts p) 0 (l.take k) := ⟨_, rfl⟩
                  obtain ⟨s2, hs2⟩ : ∃ s2, s2 = Rc.go (Mc.nexts p) 0 (l.take (k + 1)) := ⟨_, rfl⟩
                  rw [← hs1] at hans hask hstep hsS ⊢
                  rw [← hs2] at hstep
                  have HS2 := hide hs2
                  generalize l[k] = t at *
                  have htl : t < (Mc.nexts p s1).length := by rw [HNL.out]; exact hti
                  have HX2 : Hid ((Mc.nexts p s1)[t]? = some s2) := by show _ = _; rw [hstep, List.getElem?_eq_getElem htl]; simp [htl]
                  have HANS := hide hans
                  have HASK := hide hask
                  have k3 := HK3.out wr HB.out
                  have hkL : (k : Int) ≤ (L : Int) := by omega
                  have hkL2 : (k : Int) < (L : Int) + 1 := by omega
                  have ht0 : ¬ (t : Int) < 0 := by omega
                  have htI : ¬ (I : Int) ≤ (t : Int) := by omega
                  have HLK : Hid (l[k]? = some t) := hle
                  clear hle hans hask hstep hs1 hs2 htl hkl
                  go_wp2_with fail
                  go_quiet (fail)
                  obtain ⟨wq, hwq⟩ : ∃ wq, wq = wr.drewN nq := ⟨_, rfl⟩
                  rw [← hwq]
                  have HBQ : Hid (Below w8.heap.size w8 wq) := by rw [hwq]; exact drewN_below _ HB.out
                  have d2 : wq.cell? ⟨g, k, none⟩ = some (.int .i64 (t : Int)) := by rw [hwq]; exact d1
                  have HSE := hide (HSEE.out.sees wq s1 t HBQ.out hsS hti)
                  clear hwq HB k3 d1
                  go_wp2_with fail
                  refine HSE.out.mono ?_
                  rintro e wE ⟨gb, rfl, hrE, hbE⟩
                  have HRE := hide hrE
                  have HBE := hide (HBQ.out.trans (hbE.mono HBQ.out.size))
                  have HST := hide (HSEE.out.state wE s1 HBE.out hsS)
                  clear hrE hbE HSE d2
                  go_wp2_with fail
                  refine HST.out.mono ?_
                  rintro e wS ⟨gi, gc, rfl, hrS, hbS⟩
                  have HRI := hide hrS
                  have HRB := hide (HRE.out.below hbS)
                  have HBS := hide (HBE.out.trans (hbS.mono HBE.out.size))
                  clear hrS hbS HST HRE
                  have HKP : Hid (∀ W, Below w8.heap.size w8 W → W.cell? ⟨bm, 0, none⟩ = some (.slice na nk nc) ∧ W.cell? ⟨bm, 1, none⟩ = some (.slice ra rk rc)) := fun W hW => HSEE.out.prog W hW
                  have HBD := hide (drew_below HBS.out)
                  have HRBD : Hid (RowIs wS.drew gb 4 ((Mc.after1 p (Ld.kindL p.names 1).length s1 t).is.map boolV)) := HRB.out
                  have HRID : Hid (RowIs wS.drew gi 4 ((Mc.state (Mc.parts p) s1).is.map boolV)) := HRI.out
                  have HKS := hide (HKP.out wS HBS.out)
                  go_upto_region 30 with fail
                  go_cut [232] (fun t wx => t = .bool false ∧ Below w8.heap.size w8 wx)
                  case first =>
                    rcases Nat.lt_trichotomy (k + n) L with hc | hc | hc
                    · have e3 : ¬ ((k : Int) = (L : Int) - (n : Int)) := by omega
                      have e4 : ¬ ((L : Int) - (n : Int) ≤ (k : Int)) := by omega
                      have e5 : Decidable.decide ((k : Int) = (L : Int) - (n : Int)) = false := decide_eq_false e3
                      have e6 : ((k : Int) == (L : Int) - (n : Int)) = false := by rw [beq_eq_false_iff_ne]; omega
                      have e7 : Decidable.decide ((L : Int) - (n : Int) ≤ (k : Int)) = false := decide_eq_false e4
                      clear hc
                      go_quiet (fail)
                      go_wp2_with fail
                      go_meet
                      exact ⟨rfl, drewN_below _ HBS.out⟩
                    · have e5 : Decidable.decide ((k : Int) = (L : Int) - (n : Int)) = true := decide_eq_true (by omega)
                      have e6 : ((k : Int) == (L : Int) - (n : Int)) = true := by rw [beq_iff_eq]; omega
                      have e7 : Decidable.decide ((L : Int) - (n : Int) ≤ (k : Int)) = true := decide_eq_true (by omega)
                      have gx := HASK.out (by omega)
                      have gy := HANS.out (by omega)
                      have hwr : IntKind.i64.wrap ((L : Int) - (n : Int)) = (L : Int) - (n : Int) := by rw [IntKind.wrap_i64]; omega
                      have e8 : ((k : Int) == IntKind.i64.wrap ((L : Int) - (n : Int))) = true := by rw [hwr]; exact e6
                      have e9 : Decidable.decide (IntKind.i64.wrap ((L : Int) - (n : Int)) ≤ (k : Int)) = true := by rw [hwr]; exact e7
                      clear hc hwr
                      go_region_held3 (fun W => W.cell? ⟨bm, 0, none⟩ = some (.slice na nk nc) ∧ W.cell? ⟨bm, 1, none⟩ = some (.slice ra rk rc)) ((refine HKP.out _ ?_; repeat (first | exact HBS.out | exact HB17.out | exact HB18.out | exact HB19.out | exact HB20.out | exact HB21.out | exact HB22.out | refine drew_below ?_))) ((first
                        | (go_at_call 13; (with_reducible refine (kat_new _ _ _ _ _ _ _ _ gb nn HRBD.out).mono ?_); rintro e w17 ⟨a17, b17, rfl, ht, hb⟩; have HB17 := hide (HBD.out.trans (hb.mono HBD.out.size)); have HT17 := hide ht; have HRI17 := hide (HRID.out.below hb); have HRB17 := hide (HRBD.out.below hb); clear ht hb)
                        | (go_at_call 13; (with_reducible refine (kat_new _ _ _ _ _ _ _ _ gi nn HRI17.out).mono ?_); rintro e w18 ⟨a18, b18, rfl, ht, hb⟩; have HB18 := hide (HB17.out.trans (hb.mono HB17.out.size)); have HT18 := hide ht; have HT17b := hide (HT17.out.below hb); have HRI18 := hide (HRI17.out.below hb); have HRB18 := hide (HRB17.out.below hb); clear ht hb)
                        | (go_at_call 12; (with_reducible refine (HEX.out _ s1 t _ _ _ _ _ _ HB18.out hti HT17b.out HT18.out).mono ?_); rw [gx]; rintro e w19 ⟨rfl, hb⟩; have HB19 := hide (HB18.out.trans (hb.mono HB18.out.size)); have HRI19 := hide (HRI18.out.below hb); have HRB19 := hide (HRB18.out.below hb); clear hb)
                        | (go_at_call 13; (with_reducible refine (kat_new _ _ _ _ _ _ _ _ gb nn HRB19.out).mono ?_); rintro e w20 ⟨a20, b20, rfl, ht, hb⟩; have HB20 := hide (HB19.out.trans (hb.mono HB19.out.size)); have HT20 := hide ht; have HRI20 := hide (HRI19.out.below hb); clear ht hb)
                        | (go_at_call 13; (with_reducible refine (kat_new _ _ _ _ _ _ _ _ gi nn HRI20.out).mono ?_); rintro e w21 ⟨a21, b21, rfl, ht, hb⟩; have HB21 := hide (HB20.out.trans (hb.mono HB20.out.size)); have HT21 := hide ht; have HT20b := hide (HT20.out.below hb); clear ht hb)
                        | (go_at_call 12; (with_reducible refine (HEY.out _ s1 t _ _ _ _ _ _ HB21.out hti HT20b.out HT21.out).mono ?_); rw [gy]; rintro e w22 ⟨rfl, hb⟩; have HB22 := hide (HB21.out.trans (hb.mono HB21.out.size)); clear hb)))
                      all_goals go_wp2_with fail
                      all_goals go_meet
                      all_goals exact ⟨rfl, HB22.out⟩
                    · have e6 : ((k : Int) == (L : Int) - (n : Int)) = false := by rw [beq_eq_false_iff_ne]; omega
                      have e7 : Decidable.decide ((L : Int) - (n : Int) ≤ (k : Int)) = true := decide_eq_true (by omega)
                      have hwr : IntKind.i64.wrap ((L : Int) - (n : Int)) = (L : Int) - (n : Int) := by rw [IntKind.wrap_i64]; omega
                      have gy := HANS.out (by omega)
                      clear hc
                      refine wp_region_noPanic ?_
                      refine wp_region_held_drew (S := fun W => W.cell? ⟨bm, 0, none⟩ = some (.slice na nk nc) ∧ W.cell? ⟨bm, 1, none⟩ = some (.slice ra rk rc)) (by kernel_rfl) (HKP.out _ HBD.out) (fun hHeld => ?_)
                      refine take_at 0 188 (.int .i64 (k : Int)) rfl rfl (by kernel_rfl) (by kernel_rfl) (by kernel_rfl) (fun _ _ _ h => h) hHeld (Or.inl ⟨by rfl, ?_⟩) ?_
                      · rintro Z ⟨z0, z1⟩
                        go_simp
                      simp only [List.setIfInBounds_toArray, List.set_cons_zero, List.set_cons_succ]
                      refine take_at 1 189 (.int .i64 (L : Int)) rfl rfl (by kernel_rfl) (by kernel_rfl) (by kernel_rfl) (fun _ _ _ h => h) hHeld (Or.inl ⟨by rfl, ?_⟩) ?_
                      · rintro Z ⟨z0, z1⟩
                        go_simp
                      simp only [List.setIfInBounds_toArray, List.set_cons_zero, List.set_cons_succ]
                      refine take_at 2 190 (.int .i64 (n : Int)) rfl rfl (by kernel_rfl) (by kernel_rfl) (by kernel_rfl) (fun _ _ _ h => h) hHeld (Or.inl ⟨by rfl, ?_⟩) ?_
                      · rintro Z ⟨z0, z1⟩
                        go_simp
                      simp only [List.setIfInBounds_toArray, List.set_cons_zero, List.set_cons_succ]
                      refine take_at 3 191 (.int .i64 ((L : Int) - (n : Int))) rfl rfl (by kernel_rfl) (by kernel_rfl) (by kernel_rfl) (fun _ _ _ h => h) hHeld (Or.inl ⟨by rfl, ?_⟩) ?_
                      · rintro Z ⟨z0, z1⟩
                        go_simp
                      simp only [List.setIfInBounds_toArray, List.set_cons_zero, List.set_cons_succ]
                      refine take_at 4 192 (.bool false) rfl rfl (by kernel_rfl) (by kernel_rfl) (by kernel_rfl) (fun _ _ _ h => h) hHeld (Or.inl ⟨by rfl, ?_⟩) ?_
                      · rintro Z ⟨z0, z1⟩
                        go_simp
                      simp only [List.setIfInBounds_toArray, List.set_cons_zero, List.set_cons_succ]
                      refine take_at 5 193 (.bool false) rfl rfl (by kernel_rfl) (by kernel_rfl) (by kernel_rfl) (fun _ _ _ h => h) hHeld (Or.inl ⟨by rfl, ?_⟩) ?_
                      · rintro Z ⟨z0, z1⟩
                        go_simp
                      simp only [List.setIfInBounds_toArray, List.set_cons_zero, List.set_cons_succ]
                      refine skip_at 6 194 5 true rfl rfl rfl rfl (by kernel_rfl) (by kernel_rfl) (by kernel_rfl) (fun _ _ _ h => h) hHeld ?_
                      simp only [List.setIfInBounds_toArray, List.set_cons_zero, List.set_cons_succ]
                      refine skip_at 7 195 5 true rfl rfl rfl rfl (by kernel_rfl) (by kernel_rfl) (by kernel_rfl) (fun _ _ _ h => h) hHeld ?_
                      simp only [List.setIfInBounds_toArray, List.set_cons_zero, List.set_cons_succ]
                      refine skip_at 8 196 5 true rfl rfl rfl rfl (by kernel_rfl) (by kernel_rfl) (by kernel_rfl) (fun _ _ _ h => h) hHeld ?_
                      simp only [List.setIfInBounds_toArray, List.set_cons_zero, List.set_cons_succ]
                      refine skip_at 9 197 5 true rfl rfl rfl rfl (by kernel_rfl) (by kernel_rfl) (by kernel_rfl) (fun _ _ _ h => h) hHeld ?_
                      simp only [List.setIfInBounds_toArray, List.set_cons_zero, List.set_cons_succ]
                      refine skip_at 10 198 5 true rfl rfl rfl rfl (by kernel_rfl) (by kernel_rfl) (by kernel_rfl) (fun _ _ _ h => h) hHeld ?_
                      simp only [List.setIfInBounds_toArray, List.set_cons_zero, List.set_cons_succ]
                      refine skip_at 11 199 5 true rfl rfl rfl rfl (by kernel_rfl) (by kernel_rfl) (by kernel_rfl) (fun _ _ _ h => h) hHeld ?_
                      simp only [List.setIfInBounds_toArray, List.set_cons_zero, List.set_cons_succ]
                      refine skip_at 13 201 5 true rfl rfl rfl rfl (by kernel_rfl) (by kernel_rfl) (by kernel_rfl) (fun _ _ _ h => h) hHeld ?_
                      simp only [List.setIfInBounds_toArray, List.set_cons_zero, List.set_cons_succ]
                      refine skip_at 14 202 5 true rfl rfl rfl rfl (by kernel_rfl) (by kernel_rfl) (by kernel_rfl) (fun _ _ _ h => h) hHeld ?_
                      simp only [List.setIfInBounds_toArray, List.set_cons_zero, List.set_cons_succ]
                      refine skip_at 15 203 5 true rfl rfl rfl rfl (by kernel_rfl) (by kernel_rfl) (by kernel_rfl) (fun _ _ _ h => h) hHeld ?_
                      simp only [List.setIfInBounds_toArray, List.set_cons_zero, List.set_cons_succ]
                      refine skip_at 16 204 5 true rfl rfl rfl rfl (by kernel_rfl) (by kernel_rfl) (by kernel_rfl) (fun _ _ _ h => h) hHeld ?_
                      simp only [List.setIfInBounds_toArray, List.set_cons_zero, List.set_cons_succ]
                      refine skip_at 17 205 5 true rfl rfl rfl rfl (by kernel_rfl) (by kernel_rfl) (by kernel_rfl) (fun _ _ _ h => h) hHeld ?_
                      simp only [List.setIfInBounds_toArray, List.set_cons_zero, List.set_cons_succ]
                      refine wpAnyH_ready (rs := [12]) (by kernel_rfl) (by simp) ?_
                      intro i hmem
                      obtain rfl := List.mem_singleton.1 hmem
                      refine wpOp_skip 12 200 5 true rfl rfl rfl rfl ⟨hHeld, ?_⟩
                      simp only [List.setIfInBounds_toArray, List.set_cons_zero, List.set_cons_succ]
                      refine wpAnyH_ready (rs := [18]) (by kernel_rfl) (by simp) ?_
                      intro i hmem
                      obtain rfl := List.mem_singleton.1 hmem
                      refine wpOp_skip 18 206 5 true rfl rfl rfl rfl ⟨hHeld, ?_⟩
                      simp only [List.setIfInBounds_toArray, List.set_cons_zero, List.set_cons_succ]
                      refine wpAnyH_ready (rs := [19]) (by kernel_rfl) (by simp) ?_
                      intro i hmem
                      obtain rfl := List.mem_singleton.1 hmem
                      refine wpOp_skip 19 207 5 true rfl rfl rfl rfl ⟨hHeld, ?_⟩
                      simp only [List.setIfInBounds_toArray, List.set_cons_zero, List.set_cons_succ]
                      refine skip_at 20 208 5 true rfl rfl rfl rfl (by kernel_rfl) (by kernel_rfl) (by kernel_rfl) (fun _ _ _ h => h) hHeld ?_
                      simp only [List.setIfInBounds_toArray, List.set_cons_zero, List.set_cons_succ]
                      refine take_at 21 209 (.bool false) rfl rfl (by kernel_rfl) (by kernel_rfl) (by kernel_rfl) (fun _ _ _ h => h) hHeld (Or.inl ⟨by rfl, ?_⟩) ?_
                      · rintro Z ⟨z0, z1⟩
                        go_simp
                      simp only [List.setIfInBounds_toArray, List.set_cons_zero, List.set_cons_succ]
                      refine take_at 22 210 (.bool false) rfl rfl (by kernel_rfl) (by kernel_rfl) (by kernel_rfl) (fun _ _ _ h => h) hHeld (Or.inl ⟨by rfl, ?_⟩) ?_
                      · rintro Z ⟨z0, z1⟩
                        go_simp
                      simp only [List.setIfInBounds_toArray, List.set_cons_zero, List.set_cons_succ]
                      refine take_at 23 211 (.int .i64 (k : Int)) rfl rfl (by kernel_rfl) (by kernel_rfl) (by kernel_rfl) (fun _ _ _ h => h) hHeld (Or.inl ⟨by rfl, ?_⟩) ?_
                      · rintro Z ⟨z0, z1⟩
                        go_simp
                      simp only [List.setIfInBounds_toArray, List.set_cons_zero, List.set_cons_succ]
                      refine take_at 24 212 (.int .i64 (L : Int)) rfl rfl (by kernel_rfl) (by kernel_rfl) (by kernel_rfl) (fun _ _ _ h => h) hHeld (Or.inl ⟨by rfl, ?_⟩) ?_
                      · rintro Z ⟨z0, z1⟩
                        go_simp
                      simp only [List.setIfInBounds_toArray, List.set_cons_zero, List.set_cons_succ]
                      refine take_at 25 213 (.int .i64 (n : Int)) rfl rfl (by kernel_rfl) (by kernel_rfl) (by kernel_rfl) (fun _ _ _ h => h) hHeld (Or.inl ⟨by rfl, ?_⟩) ?_
                      · rintro Z ⟨z0, z1⟩
                        go_simp
                      simp only [List.setIfInBounds_toArray, List.set_cons_zero, List.set_cons_succ]
                      refine take_at 26 214 (.int .i64 ((L : Int) - (n : Int))) rfl rfl (by kernel_rfl) (by kernel_rfl) (by kernel_rfl) (fun _ _ _ h => h) hHeld (Or.inl ⟨by rfl, ?_⟩) ?_
                      · rintro Z ⟨z0, z1⟩
                        go_simp
                      simp only [List.setIfInBounds_toArray, List.set_cons_zero, List.set_cons_succ]
                      refine take_at 27 215 (.bool true) rfl rfl (by kernel_rfl) (by kernel_rfl) (by kernel_rfl) (fun _ _ _ h => h) hHeld (Or.inl ⟨by rfl, ?_⟩) ?_
                      · rintro Z ⟨z0, z1⟩
                        go_simp
                      simp only [List.setIfInBounds_toArray, List.set_cons_zero, List.set_cons_succ]
                      refine take_at 28 216 (.bool true) rfl rfl (by kernel_rfl) (by kernel_rfl) (by kernel_rfl) (fun _ _ _ h => h) hHeld (Or.inl ⟨by rfl, ?_⟩) ?_
                      · rintro Z ⟨z0, z1⟩
                        go_simp
                      simp only [List.setIfInBounds_toArray, List.set_cons_zero, List.set_cons_succ]
                      refine take_at 29 217 (.iface ty yy) rfl rfl (by kernel_rfl) (by kernel_rfl) (by kernel_rfl) (fun _ _ _ h => h) hHeld (Or.inl ⟨by rfl, ?_⟩) ?_
                      · rintro Z ⟨z0, z1⟩
                        go_simp
                      simp only [List.setIfInBounds_toArray, List.set_cons_zero, List.set_cons_succ]
                      refine take_at 30 218 (.pointer (some ⟨bm, 0, none⟩)) rfl rfl (by kernel_rfl) (by kernel_rfl) (by kernel_rfl) (fun _ _ _ h => h) hHeld (Or.inl ⟨by rfl, ?_⟩) ?_
                      · rintro Z ⟨z0, z1⟩
                        go_simp
                      simp only [List.setIfInBounds_toArray, List.set_cons_zero, List.set_cons_succ]
                      refine take_at 31 219 (.pointer (some ⟨bm, 0, none⟩)) rfl rfl (by kernel_rfl) (by kernel_rfl) (by kernel_rfl) (fun _ _ _ h => h) hHeld (Or.inl ⟨by rfl, ?_⟩) ?_
                      · rintro Z ⟨z0, z1⟩
                        go_simp
                      simp only [List.setIfInBounds_toArray, List.set_cons_zero, List.set_cons_succ]
                      refine take_at 32 220 (.pointer (some ⟨bm, 0, none⟩)) rfl rfl (by kernel_rfl) (by kernel_rfl) (by kernel_rfl) (fun _ _ _ h => h) hHeld (Or.inl ⟨by rfl, ?_⟩) ?_
                      · rintro Z ⟨z0, z1⟩
                        go_simp
                      simp only [List.setIfInBounds_toArray, List.set_cons_zero, List.set_cons_succ]
                      refine take_at 33 221 (.agg #[.slice na nk nc, .slice ra rk rc]) rfl rfl (by kernel_rfl) (by kernel_rfl) (by kernel_rfl) (fun _ _ _ h => h) hHeld (Or.inl ⟨by rfl, ?_⟩) ?_
                      · rintro Z ⟨z0, z1⟩
                        go_simp
                      simp only [List.setIfInBounds_toArray, List.set_cons_zero, List.set_cons_succ]
                      refine take_at 34 222 (.slice (some ⟨gb, 0, none⟩) nn nn) rfl rfl (by kernel_rfl) (by kernel_rfl) (by kernel_rfl) (fun _ _ _ h => h) hHeld (Or.inl ⟨by rfl, ?_⟩) ?_
                      · rintro Z ⟨z0, z1⟩
                        go_simp
                      simp only [List.setIfInBounds_toArray, List.set_cons_zero, List.set_cons_succ]
                      refine take_at 36 224 (.pointer (some ⟨bm, 0, none⟩)) rfl rfl (by kernel_rfl) (by kernel_rfl) (by kernel_rfl) (fun _ _ _ h => h) hHeld (Or.inl ⟨by rfl, ?_⟩) ?_
                      · rintro Z ⟨z0, z1⟩
                        go_simp
                      simp only [List.setIfInBounds_toArray, List.set_cons_zero, List.set_cons_succ]
                      refine take_at 37 225 (.pointer (some ⟨bm, 0, none⟩)) rfl rfl (by kernel_rfl) (by kernel_rfl) (by kernel_rfl) (fun _ _ _ h => h) hHeld (Or.inl ⟨by rfl, ?_⟩) ?_
                      · rintro Z ⟨z0, z1⟩
                        go_simp
                      simp only [List.setIfInBounds_toArray, List.set_cons_zero, List.set_cons_succ]
                      refine take_at 38 226 (.pointer (some ⟨bm, 0, none⟩)) rfl rfl (by kernel_rfl) (by kernel_rfl) (by kernel_rfl) (fun _ _ _ h => h) hHeld (Or.inl ⟨by rfl, ?_⟩) ?_
                      · rintro Z ⟨z0, z1⟩
                        go_simp
                      simp only [List.setIfInBounds_toArray, List.set_cons_zero, List.set_cons_succ]
                      refine take_at 39 227 (.agg #[.slice na nk nc, .slice ra rk rc]) rfl rfl (by kernel_rfl) (by kernel_rfl) (by kernel_rfl) (fun _ _ _ h => h) hHeld (Or.inl ⟨by rfl, ?_⟩) ?_
                      · rintro Z ⟨z0, z1⟩
                        go_simp
                      simp only [List.setIfInBounds_toArray, List.set_cons_zero, List.set_cons_succ]
                      refine take_at 40 228 (.slice (some ⟨gi, 0, none⟩) nn nn) rfl rfl (by kernel_rfl) (by kernel_rfl) (by kernel_rfl) (fun _ _ _ h => h) hHeld (Or.inl ⟨by rfl, ?_⟩) ?_
                      · rintro Z ⟨z0, z1⟩
                        go_simp
                      simp only [List.setIfInBounds_toArray, List.set_cons_zero, List.set_cons_succ]
                      refine wpAnyH_ready (rs := [35]) (by kernel_rfl) (by simp) ?_
                      intro i hmem
                      obtain rfl := List.mem_singleton.1 hmem
                      refine wpOp_k rfl (by rfl) (fun K' hK => ?_)
                      go_simp
                      refine (kat_new _ _ _ _ _ _ _ _ gb nn HRBD.out).mono ?_
                      rintro e w17 ⟨a17, b17, rfl, ht, hb⟩
                      have HB17 := hide (HBD.out.trans (hb.mono HBD.out.size))
                      have HT17 := hide ht
                      have HRI17 := hide (HRID.out.below hb)
                      have h17 := HKP.out _ HB17.out
                      clear ht hb hHeld
                      refine hK _ _ ⟨h17, ?_⟩
                      clear hK K'
                      refine wpAnyH_ready (rs := [41]) (by kernel_rfl) (by simp) ?_
                      intro i hmem
                      obtain rfl := List.mem_singleton.1 hmem
                      refine wpOp_k rfl (by rfl) (fun K' hK => ?_)
                      go_simp
                      refine (kat_new _ _ _ _ _ _ _ _ gi nn HRI17.out).mono ?_
                      rintro e w18 ⟨a18, b18, rfl, ht, hb⟩
                      have HB18 := hide (HB17.out.trans (hb.mono HB17.out.size))
                      have HT18 := hide ht
                      have HT17b := hide (HT17.out.below hb)
                      have h18 := HKP.out _ HB18.out
                      clear ht hb h17
                      refine hK _ _ ⟨h18, ?_⟩
                      clear hK K'
                      refine wpAnyH_ready (rs := [42]) (by kernel_rfl) (by simp) ?_
                      intro i hmem
                      obtain rfl := List.mem_singleton.1 hmem
                      refine wpOp_k rfl (by rfl) (fun K' hK => ?_)
                      go_simp
                      refine (HEY.out _ s1 t _ _ _ _ _ _ HB18.out hti HT17b.out HT18.out).mono ?_
                      rw [gy]
                      rintro e w19 ⟨rfl, hb⟩
                      have HB19 := hide (HB18.out.trans (hb.mono HB18.out.size))
                      have h19 := HKP.out _ HB19.out
                      clear hb h18
                      refine hK _ _ ⟨h19, ?_⟩
                      clear hK K'
                      refine take_at 43 231 (.bool false) rfl rfl (by kernel_rfl) (by kernel_rfl) (by kernel_rfl) (fun _ _ _ h => h) h19 (Or.inl ⟨by rfl, ?_⟩) ?_
                      · rintro Z ⟨z0, z1⟩
                        go_simp
                      simp only [List.setIfInBounds_toArray, List.set_cons_zero, List.set_cons_succ]
                      refine take_at 44 232 (.bool false) rfl rfl (by kernel_rfl) (by kernel_rfl) (by kernel_rfl) (fun _ _ _ h => h) h19 (Or.inl ⟨by rfl, ?_⟩) ?_
                      · rintro Z ⟨z0, z1⟩
                        go_simp
                      simp only [List.setIfInBounds_toArray, List.set_cons_zero, List.set_cons_succ]
                      refine wpAnyH_done (by kernel_rfl) ?_ _
                      refine NoPanic.normal ?_
                      go_wp2_with fail
                      go_meet
                      exact ⟨rfl, HB19.out⟩
                  case rest =>
                    obtain ⟨rfl, hbc⟩ := hcut
                    have HBC := hide hbc
                    have hnaC := HNA.out.below hbc
                    obtain ⟨bN, hbN⟩ : ∃ b, uN[s1]? = some b := ⟨_, List.getElem?_eq_getElem (by rw [hnaC.2.1]; exact hsS)⟩
                    have t0 := hnaC.1
                    obtain ⟨t1, t2⟩ := hnaC.2.2 s1 bN hbN
                    have t3 := t2 _ _ HX2.out
                    obtain ⟨g3, o3, hg3, d3⟩ := (HIN.out.below hbc).cell k _ (show (l.map fun i : Nat => (i : Int))[k]? = some (t : Int) by rw [List.getElem?_map, HLK.out]; rfl)
                    simp only [Option.some.injEq, Addr.mk.injEq, and_true] at hg3
                    obtain ⟨rfl, rfl⟩ := hg3
                    rw [Nat.zero_add] at d3
                    have hsi : (s1 : Int) < (S : Int) := by omega
                    have htI2 : (t : Int) < (I : Int) := by omega
                    clear hbc hnaC hbN t2
                    go_wp2_with fail
                    go_quiet (fail)
                    go_wp2_with fail
                    go_roundw
                    case rel => exact ⟨k + 1, by omega, by go_num, by rw [HS2.out], drewN_below _ HBC.out⟩
                    case measure => simp [intOf]; omega
                · have hkL : k = L + 1 := by omega
                  subst hkL
                  have HBF := hide (HBW8.out.trans (HB.out.mono HBW8.out.size))
                  have hf : Decidable.decide ((n : Int) ≤ (L : Int)) = true := decide_eq_true (by omega)
                  have hg : ¬ ((L : Int) + 1 ≤ (L : Int)) := by omega
                  go_wp2_with fail
                  go_ret
                  exact ⟨by first | (simp; done) | (simp; omega), HBF.out⟩
        · clear HPBX HPBY
          go_wp2_with fail
          refine HP4.out.mono ?_
          rintro e w4 ⟨rfl, hb4, hk_⟩
          have HP5 := hide (HPR.out w4 hb4)
          clear hb4 hk_ HP4
          go_wp2_with fail
          refine HP5.out.mono ?_
          rintro e w5 ⟨rfl, hb5, hk_⟩
          have HB5 := hide hb5
          clear hb5 hk_ HP5
          go_wp2_with fail
          go_ret
          exact ⟨rfl, HB5.out⟩
      · go_wp2_with fail
        refine HP3.out.mono ?_
        intro e w3 hq
        obtain ⟨hb3, hq⟩ := hq.form
        have HBW3 := hide (HBW2.out.trans (hb3.mono HBW2.out.size))
        have HP4 := hide (HPR.out w3 HBW3.out)
        clear HP3 hb3 HPBX HPBY
        rcases hq with ⟨y, ty, yy, hy, rfl, hY⟩ | ⟨ty, yy, rfl⟩
        · clear hy hY
          go_wp2_with fail
          refine HP4.out.mono ?_
          rintro e w4 ⟨rfl, hb4, hk_⟩
          have HP5 := hide (HPR.out w4 hb4)
          clear hb4 hk_ HP4
          go_wp2_with fail
          refine HP5.out.mono ?_
          rintro e w5 ⟨rfl, hb5, hk_⟩
          have HB5 := hide hb5
          clear hb5 hk_ HP5
          go_wp2_with fail
          go_ret
          exact ⟨rfl, HB5.out⟩
        · go_wp2_with fail
          refine HP4.out.mono ?_
          rintro e w4 ⟨rfl, hb4, hk_⟩
          have HP5 := hide (HPR.out w4 hb4)
          clear hb4 hk_ HP4
          go_wp2_with fail
          refine HP5.out.mono ?_
          rintro e w5 ⟨rfl, hb5, hk_⟩
          have HB5 := hide hb5
          clear hb5 hk_ HP5
          go_wp2_with fail
          go_ret
          exact ⟨rfl, HB5.out⟩
end Go.Proofs.YtgblillplgdbaaaGreatDoor
