/-
  The walk of package prop's Answers where the number may not be. The walk of PropAnswers: whether one expression is answered by another one within so many scans, and the least inputs by which it isn't, is the document's. A start that meets what a row of the statements lists of the package variables. The closed facts of PropAnswers's row, one by one. for every three texts and every number, the call of PropAnswers returns true (of a text that the document reads as a machine of up to 30 states and 4 inputs, and of two texts of up to 1,000 bytes that it reads as expressions: whether package prop's Answers says that the one is answered by the other within so many scans, and its inputs, are the document's least ones; a number that may not be and a name that isn't there are refused as the document tells), and the arguments read behind the call as they did before.
-/
import Derived.Test.YtgldbliohpfljaaGreatDoorPaMemAll
import Derived.Test.YtgldbliohpfljaaGreatDoorLwMachsAll
import Derived.Test.YtgldbliohpfljaaGreatDoorPcKnownAll
import Derived.Test.YtgldbliohpfljaaGreatDoorPcGoodAll
import Derived.Test.YtgldbliohpfljaaGreatDoorPaWalk
import Derived.Test.YtgldbliohpfljaaGreatDoorLdLaid
import Derived.Lay
import Derived.Test.YtgldbliohpfljaaGreatDoorCards
import Derived.ProofKit
import Derived.JoinedOf
import Derived.Test.YtgldbliohpfljaaGreatDoorLwBoth
import Derived.Test.YtgldbliohpfljaaGreatDoorRlLaid
namespace Go.Proofs.YtgldbliohpfljaaGreatDoor
section
open Go.RowKit
set_option maxHeartbeats 2000000 in
set_option maxRecDepth 100000 in
theorem PAnswers_out (bm : Nat) (u v : Value) (n : Int) (w : World) (hbad : n < 0 ∨ 20 < n) : Calls Tryz.prog 18 #[.pointer (some ⟨bm, 0, none⟩), u, v, .int .i64 n] w fun e w' => e = .returned (.tuple #[.bool false, .slice none 0 0, .iface 40 (.int .i64 2)]) ∧ Below w.heap.size w w' := by
  by_cases hl : n < 0
  · clear hbad
    go_enter Tryz.func18, Tryz.ntmps18
    go_wp2_with fail
    refine bodyPost_ret (results_tmp3 rfl _ _ _) rfl ?_
    exact ⟨rfl, by first | exact Below.refl _ _ | exact (Below.refl _ _).alloc (Nat.le_refl _) _ | exact ((Below.refl _ _).alloc (Nat.le_refl _) _).alloc (by simp) _⟩
  · have hl2 : (20 : Int) < n := by omega
    clear hbad
    go_enter Tryz.func18, Tryz.ntmps18
    go_wp2_with fail
    refine bodyPost_ret (results_tmp3 rfl _ _ _) rfl ?_
    exact ⟨rfl, by first | exact Below.refl _ _ | exact (Below.refl _ _).alloc (Nat.le_refl _) _ | exact ((Below.refl _ _).alloc (Nat.le_refl _) _).alloc (by simp) _⟩
end
section
open Go.RowKit
namespace Rf
theorem ptrNe3 (w : World) (a : Addr) : (binOp BinOp.eql 22 (.pointer (some a)) (.pointer none)).run Tryz.prog w = .ok (.bool false) w := by kernel_rfl
theorem named_fits {l : List UInt8} {x : Ex} (h : Ex.parse l = .inr x) (n : List UInt8) (hn : n ∈ x.named true) : n.length ≤ maxLen := fits n (Ex.FitP.names 21 x (Ex.FitW.piece 20 x (Ex.parse_fit l x h)) n hn)
/-- what package prop's Answers told, as one reads it -/
def AP (w4 : World) (next : Nat → List Nat) (wt : Nat × Nat → Nat → Nat) (most : Nat) (ib : Bool) (la : Option Addr) (ln lc : Nat) : Prop := (ib = true ∧ la = none ∧ ln = 0 ∧ Pr.Held next wt most) ∨ (ib = false ∧ ∃ (l : List Nat) (g : Nat), la = some ⟨g, 0, none⟩ ∧ ln = l.length ∧ Pr.Broke next wt most l ∧ Pr.Least next wt most l ∧ 0 < l.length ∧ l.length ≤ lc ∧ ∀ (k x : Nat), l[k]? = some x → w4.cell? ⟨g, k, none⟩ = some (.int .i64 (x : Int)))
theorem AP.of {w w4 : World} {next : Nat → List Nat} {wt : Nat × Nat → Nat → Nat} {most : Nat} {e : Ending} (h : SaidT w next wt most e w4) : ∃ (ib : Bool) (la : Option Addr) (ln lc : Nat), e = .returned (.tuple #[.bool ib, .slice la ln lc, .nilIface]) ∧ AP w4 next wt most ib la ln lc := by
  rcases h with ⟨rfl, h1⟩ | ⟨l, g', c', rfl, h1, h2, h3, _⟩
  · exact ⟨true, none, 0, 0, rfl, .inl ⟨rfl, rfl, rfl, h1⟩⟩
  · have h0 : 0 < l.length := by obtain ⟨m', i', rfl, _⟩ := h1; simp
    obtain ⟨h4, h5⟩ := own_rowN h3 h0
    exact ⟨false, _, _, _, rfl, .inr ⟨rfl, l, g', rfl, rfl, h1, h2, h0, h4, h5⟩⟩
theorem read_any_way {w : World} {e : Ending} {w' : World} (h : ReadBothP w e w') : Below w.heap.size w w' ∧ ∃ v g bl, e = .returned (.tuple #[v, g, .bool bl]) := by
  obtain ⟨hb, h | ⟨x, v, g, h, _⟩⟩ := h
  · exact ⟨hb, _, _, _, h⟩
  · exact ⟨hb, _, _, _, h⟩
set_option maxHeartbeats 16000000 in
set_option maxRecDepth 100000 in
theorem propAnswers_of (hbo : ∀ (s : ByteArray) (w : World), s.size ≤ maxLen → Laid w → PLaid w → Calls Tryz.prog 28 #[.string s] w (Sl.Both s w)) (s t r : ByteArray) (n : Int) (w : World) (hs : s.size ≤ maxLen) (ht : t.size ≤ maxLen) (hr : r.size ≤ maxLen) (hL : Laid w) (hP : PLaid w) :
    Calls Tryz.prog 4 #[.string s, .string t, .string r, .int .i64 n] w fun e w' => e = .returned (.bool true) ∧ Below w.heap.size w w' := by
  have HMS := hide (machines_of hbo s 30 w hs hL hP)
  have HRD : Hid (∀ W, Below w.heap.size w W → Calls Tryz.prog 9 #[.string t] W (ReadBothP W)) := fun W hW => readP_any t W ht (hP.r.fine.below hW)
  have HRE : Hid (∀ W, Below w.heap.size w W → Calls Tryz.prog 9 #[.string r] W (ReadBothP W)) := fun W hW => readP_any r W hr (hP.r.fine.below hW)
  have HL := hide hL
  have HP := hide hP
  clear hL hP
  go_enter Tryz.func4, Tryz.ntmps4
  go_wp2_with fail
  refine HMS.out.mono ?_
  rintro e w1 ⟨hb1, he⟩
  clear HMS
  have HRD1 := hide (HRD.out w1 hb1)
  have HB1 := hide hb1
  clear HRD hb1
  rcases he with rfl | ⟨p, bm, bx, rfl, _, hmach, hrm, hck, hok, hq4, hS30⟩
  · go_wp2_with fail
    refine HRD1.out.mono ?_
    rintro e w2 hrd
    obtain ⟨hb2, v1, g1, bl1, rfl⟩ := read_any_way hrd
    have HB2 : Hid (Below w.heap.size w w2) := then_ HB1.out hb2
    have HRE2 := hide (HRE.out w2 HB2.out)
    clear hb2 HRD1 hrd
    go_wp2_with fail
    refine HRE2.out.mono ?_
    rintro e w3 hrd
    obtain ⟨hb3, v2, g2, bl2, rfl⟩ := read_any_way hrd
    have HB3 : Hid (Below w.heap.size w w3) := then_ HB2.out hb3
    clear hb3 HRE2 hrd
    go_wp2_with fail
    go_ret
    exact ⟨ret_bool (by first | rfl | simp), HB3.out⟩
  · have HMA := hide hmach
    have HRM := hide hrm
    have HCK := hide hck
    have HOK := hide hok
    clear hmach hrm hck hok
    go_wp2_with fail
    refine HRD1.out.mono ?_
    rintro e w2 ⟨hb2, he2⟩
    have HB12 := hide hb2
    have HB2 : Hid (Below w.heap.size w w2) := then_ HB1.out hb2
    have HRE2 := hide (HRE.out w2 HB2.out)
    clear hb2 HRD1
    rcases he2 with rfl | ⟨x, vx, gx, rfl, hxe, hxr, hszx, lx, hlx⟩
    · go_wp2_with fail
      refine HRE2.out.mono ?_
      rintro e w3 hrd
      obtain ⟨hb3, v2, g2, bl2, rfl⟩ := read_any_way hrd
      have HB3 : Hid (Below w.heap.size w w3) := then_ HB2.out hb3
      clear hb3 HRE2 hrd
      go_wp2_with fail
      go_ret
      exact ⟨ret_bool (by first | rfl | simp), HB3.out⟩
    · have HXE := hide hxe
      have HXR := hide hxr
      have HSX := hide hszx
      have HLX := hide hlx
      obtain ⟨tu, yu, rfl⟩ := IsEx.iface x vx hxe
      clear hxe hxr hszx hlx
      go_wp2_with fail
      refine HRE2.out.mono ?_
      rintro e w3 ⟨hb3, he3⟩
      have HB23 := hide hb3
      have HB3 : Hid (Below w.heap.size w w3) := then_ HB2.out hb3
      clear hb3 HRE2
      rcases he3 with rfl | ⟨y, vy, gy, rfl, hye, hyr, hszy, ly, hly⟩
      · go_wp2_with fail
        go_ret
        exact ⟨ret_bool (by first | rfl | simp), HB3.out⟩
      · have hmach := (HMA.out.below HB12.out).below HB23.out
        have hrm := (HRM.out.below HB12.out).below HB23.out
        have hck := HCK.out
        have hok := HOK.out
        have hrl : RLaid w3 := HP.out.r.below HB3.out
        have hxe : IsEx (fun _ => True) w3 x (.iface tu yu) := IsEx.stay (Stay.below HB23.out) (fun _ h => h) x _ HXE.out
        have hxr : IsRx (fun _ => True) w3 x gx := IsRx.stay (Stay.below HB23.out) (fun _ h => h) x gx HXR.out
        have hnfx := fun n hn => named_fits HLX.out n hn
        have hnfy := fun n hn => named_fits hly n hn
        have pn := fun w a => ptrNe3 w a
        have HWX : Hid (∀ W, Below w3.heap.size w3 W → Below w.heap.size w W) := fun W hW => then_ HB3.out hW
        have HLB : Hid (∀ W (e : Int), Below w3.heap.size w3 W → Calls Tryz.prog 12 #[.iface 40 (.int .i64 e), .int .i64 e] W fun e w' => e = .returned (.bool true) ∧ Below W.heap.size W w') := fun W e hW => Sl.lbare_any e W (HL.out.below (HWX.out W hW)).door
        obtain ⟨nv3, rv3, nx3, us3, q3, k1, k2, _⟩ := id hrm
        obtain ⟨nv', rv', he', hnn, hrr⟩ := id k2
        simp only [Value.agg.injEq, List.toArray_eq_iff, List.cons.injEq, and_true] at he'
        obtain ⟨rfl, rfl⟩ := he'
        obtain ⟨na, nc, rfl, _⟩ := hnn.slice
        obtain ⟨ra, rc, rfl, _⟩ := hrr.slice
        have HKN : Hid (∀ W (nb : Nat), Below w3.heap.size w3 W → nb = W.heap.size → Calls Tryz.prog 13 #[.agg #[.slice na p.names.length nc, .slice ra p.rungs.length rc], .slice (some ⟨nb, 0, none⟩) 2 2] (W.alloc (.cells #[.pointer (some ⟨gx, 0, none⟩), .pointer (some ⟨gy, 0, none⟩)] 28)) fun e w' => e = .returned (.bool (Pr.has p.names x && Pr.has p.names y)) ∧ Below W.heap.size W w') := fun W nb hW hnb => by
          subst hnb
          have hA : Below w3.heap.size w3 (W.alloc (.cells #[.pointer (some ⟨gx, 0, none⟩), .pointer (some ⟨gy, 0, none⟩)] 28)) := then_ hW (below_al _ _)
          have h := known_any p.names _ (.slice ra p.rungs.length rc) [x, y] [gx, gy] W.heap.size 2 _ (hnn.below hA) ⟨_, _, _, rfl⟩ (hrl.below hA) (fun i g' h => by
            match i, h with
            | 0, h =>
              simp only [List.getElem?_cons_zero, Option.some.injEq] at h
              subst h
              rw [Lib.cell_of_heap (heap_alloc_new _ _)]
              rfl
            | 1, h =>
              simp only [List.getElem?_cons_succ, List.getElem?_cons_zero, Option.some.injEq] at h
              subst h
              rw [Lib.cell_of_heap (heap_alloc_new _ _)]
              rfl
            | i + 2, h => simp at h) (fun i x' h => by
            match i, h with
            | 0, h =>
              simp only [List.getElem?_cons_zero, Option.some.injEq] at h
              subst h
              exact ⟨gx, rfl, IsRx.stay (Stay.below hA) (fun _ h => h) x gx hxr, HSX.out⟩
            | 1, h =>
              simp only [List.getElem?_cons_succ, List.getElem?_cons_zero, Option.some.injEq] at h
              subst h
              exact ⟨gy, rfl, IsRx.stay (Stay.below hA) (fun _ h => h) y gy hyr, hszy⟩
            | i + 2, h => simp at h) (by simp) (by simp)
          refine h.mono ?_
          rintro e w' ⟨rfl, hb⟩
          exact ⟨by simp, then_ (below_al _ _) hb⟩
        have HXC : Hid (∀ W, Below w3.heap.size w3 W → W.cell? ⟨bx, 0, none⟩ = some (.slice na p.names.length nc) ∧ W.cell? ⟨bx, 1, none⟩ = some (.slice ra p.rungs.length rc)) := fun W hW => (k1.below hW).cells.1
        have HRA : Hid (∀ m : Nat, n = (m : Int) → m ≤ 20 → ∀ W, Below w3.heap.size w3 W → Calls Tryz.prog 19 #[.pointer (some ⟨bx, 0, none⟩), .pointer (some ⟨gx, 0, none⟩), .pointer (some ⟨gy, 0, none⟩), .int .i64 n] W (Pa.AnsD W (Mc.nexts p) (Pr.wtA (Pr.goodRow p x (2 ^ (Ld.kindL p.names 1).length)) (Pr.goodRow p y (2 ^ (Ld.kindL p.names 1).length))) m)) := fun m hm h1 W hW => by
          rw [hm]
          exact Pa.RAnswers_any bx gx gy p x y m W (hrm.below hW) (hrl.below hW) hck hok.1 (by omega) (IsRx.stay (Stay.below hW) (fun _ h => h) x gx hxr) hnfx (IsRx.stay (Stay.below hW) (fun _ h => h) y gy hyr) hnfy h1
        have HAN : Hid (Calls Tryz.prog 18 #[.pointer (some ⟨bm, 0, none⟩), .iface tu yu, vy, .int .i64 n] w3 fun e w' => Below w3.heap.size w3 w' ∧ (((n < 0 ∨ 20 < n) ∧ e = .returned (.tuple #[.bool false, .slice none 0 0, .iface 40 (.int .i64 2)])) ∨ ∃ m : Nat, n = (m : Int) ∧ m ≤ 20 ∧ (((Pr.has p.names x && Pr.has p.names y) = false ∧ e = .returned (.tuple #[.bool false, .slice none 0 0, .iface 40 (.int .i64 7)])) ∨ ((Pr.has p.names x && Pr.has p.names y) = true ∧ ∃ (ib : Bool) (la : Option Addr) (ln lc : Nat), e = .returned (.tuple #[.bool ib, .slice la ln lc, .nilIface]) ∧ AP w' (Mc.nexts p) (Pr.wtA (Pr.goodRow p x (2 ^ (Ld.kindL p.names 1).length)) (Pr.goodRow p y (2 ^ (Ld.kindL p.names 1).length))) m ib la ln lc)))) := by
          by_cases hbad : n < 0 ∨ 20 < n
          · refine (PAnswers_out bm _ vy n w3 hbad).mono ?_
            rintro e w' ⟨rfl, hb⟩
            exact ⟨hb, .inl ⟨hbad, rfl⟩⟩
          · obtain ⟨m, hm⟩ : ∃ m : Nat, n = (m : Int) := ⟨n.toNat, by omega⟩
            have h2 : m ≤ 20 := by omega
            rw [hm]
            refine (Answers_any (fun _ => True) bm p x y _ vy m w3 hmach hck hok.2 hok.1 hxe hye HSX.out hszy h2).mono ?_
            rintro e w' ⟨hb, hres⟩
            refine ⟨hb, .inr ⟨m, rfl, h2, ?_⟩⟩
            cases hh : (Pr.has p.names x && Pr.has p.names y) with
            | false => rw [hh, if_neg Bool.false_ne_true] at hres; exact .inl ⟨rfl, hres⟩
            | true =>
              rw [hh, if_pos rfl] at hres
              exact .inr ⟨rfl, AP.of hres⟩
        obtain ⟨tv, yv, rfl⟩ := IsEx.iface y vy hye
        have en0 := eqNilN_none
        have en1 := eqNilN_some
        generalize Pr.wtA (Pr.goodRow p x (2 ^ (Ld.kindL p.names 1).length)) (Pr.goodRow p y (2 ^ (Ld.kindL p.names 1).length)) = wt at *
        generalize Mc.nexts p = next at *
        generalize p.names.length = nn at *
        generalize p.rungs.length = mm at *
        generalize (Pr.has p.names x && Pr.has p.names y) = hh at *
        clear hmach hrm hck hok hrl hnfx hnfy hxe hxr hye hyr hszy hly k1 k2 hnn hrr HMA HRM HCK HOK HXE HXR HSX HLX
        go_wp2_with fail
        refine HAN.out.mono ?_
        rintro e w4 ⟨hb4, hres⟩
        have HB4 : Hid (Below w3.heap.size w3 w4) := hb4
        clear hb4 HAN
        rcases hres with ⟨hbad, rfl⟩ | ⟨m, hm, hm20, hres⟩
        · have HA4 := hide (HLB.out w4 2 HB4.out)
          have HBAD := hide hbad
          clear hbad
          by_cases hl : n < 0
          · go_wp2_with fail
            refine HA4.out.mono ?_
            rintro e w5 ⟨rfl, hb⟩
            have HF := hide (HWX.out w5 (then_ HB4.out hb))
            clear hb HA4
            go_wp2_with fail
            go_ret
            exact ⟨ret_bool (by first | rfl | simp), HF.out⟩
          · have hl2 : (20 : Int) < n := by have := HBAD.out; omega
            go_wp2_with fail
            refine HA4.out.mono ?_
            rintro e w5 ⟨rfl, hb⟩
            have HF := hide (HWX.out w5 (then_ HB4.out hb))
            clear hb HA4
            go_wp2_with fail
            go_ret
            exact ⟨ret_bool (by first | rfl | simp), HF.out⟩
        · have hl1 : ¬ n < 0 := by omega
          have hl2 : ¬ (20 : Int) < n := by omega
          have HK4 := hide (HKN.out w4 w4.heap.size HB4.out rfl)
          obtain ⟨c0, c1⟩ := HXC.out w4 HB4.out
          have HRA2 := hide (HRA.out m hm hm20)
          clear HRA hm hm20
          rcases hres with ⟨rfl, rfl⟩ | ⟨rfl, ib, la, ln, lc, rfl, hap⟩
          · go_wp2_with fail
            refine HK4.out.mono ?_
            rintro e w5 ⟨rfl, hb⟩
            have HB5 : Hid (Below w3.heap.size w3 w5) := then_ HB4.out hb
            have HA5 := hide (HLB.out w5 7 HB5.out)
            clear hb HK4 c0 c1
            go_wp2_with fail
            refine HA5.out.mono ?_
            rintro e w6 ⟨rfl, hb⟩
            have HF := hide (HWX.out w6 (then_ HB5.out hb))
            clear hb HA5
            go_wp2_with fail
            go_ret
            exact ⟨ret_bool (by first | rfl | simp), HF.out⟩
          · have HAP := hide hap
            clear hap
            go_wp2_with fail
            refine HK4.out.mono ?_
            rintro e w5 ⟨rfl, hb⟩
            have HB45 : Hid (Below w4.heap.size w4 w5) := hb
            have HB5 : Hid (Below w3.heap.size w3 w5) := then_ HB4.out hb
            have HR5 := hide (HRA2.out w5 HB5.out)
            clear hb HK4 c0 c1 HRA2
            go_wp2_with fail
            refine HR5.out.mono ?_
            rintro e w12 ⟨hb, b, v, rfl, hbv, hbr⟩
            have HB412 : Hid (Below w4.heap.size w4 w12) := then_ HB45.out hb
            have HB12' : Hid (Below w3.heap.size w3 w12) := then_ HB5.out hb
            clear hb HR5
            rcases HAP.out with ⟨rfl, rfl, rfl, hheld⟩ | ⟨rfl, l, g', rfl, rfl, hbk, hls, h0, hlc, hcl⟩
            · cases b with
              | none =>
                simp only [BestV] at hbv
                subst hbv
                have HSI := hide (lsameI_any [] (.slice none 0 lc) (.slice none 0 0) w12 (.inl ⟨rfl, none, lc, rfl⟩) (.inl ⟨rfl, none, 0, rfl⟩) (by simp))
                clear hbr hheld
                go_wp2_with fail
                refine HSI.out.mono ?_
                rintro e w13 ⟨rfl, hb⟩
                have HF := hide (HWX.out w13 (then_ HB12'.out hb))
                clear hb HSI
                go_wp2_with fail
                go_ret
                exact ⟨ret_bool (by first | rfl | simp), HF.out⟩
              | some q => exact absurd hheld (hbr.1.not (Nat.le_refl _))
            · cases b with
              | none => exact absurd hbr (hbk.not (Nat.le_refl _))
              | some q =>
                have hlq : l = q := Pr.Least.one hbk hbr.1 hls hbr.2
                subst hlq
                obtain ⟨h5, a, c, rfl, hac, hcells⟩ := hbv
                have hi1 : Ints w12 (.slice (some ⟨g', 0, none⟩) l.length lc) (asI l) := ints_row2 hlc fun k x hx => ⟨(hcells k x hx).1, (HB412.out.cell (World.block_lt_of_cell? _ _ (hcl k x hx))).trans (hcl k x hx)⟩
                have hi2 : Ints w12 (.slice (some ⟨a, 0, none⟩) l.length c) (asI l) := ints_row2 hac hcells
                have HSI := hide (lsameI_any (asI l) _ _ w12 hi1 hi2 (by rw [asI_len]; omega))
                clear hbr hbk hls hcl hcells hi1 hi2 h0 hlc hac h5
                generalize l.length = L at *
                go_wp2_with fail
                refine HSI.out.mono ?_
                rintro e w13 ⟨rfl, hb⟩
                have HF := hide (HWX.out w13 (then_ HB12'.out hb))
                clear hb HSI
                go_wp2_with fail
                go_ret
                exact ⟨ret_bool (by first | rfl | simp), HF.out⟩
end Rf
end
section
namespace QaMet
open Go.RowKit
theorem all {w0 : World} {laid : List (String × DataW Unit)} (args : Array Value) (hf : w0.layFits Tryz.prog laid [] = true) (hi : w0.layIfaces Tryz.prog laid (w0.layVars Tryz.prog laid) = true) :
    laidMet Tryz.prog laid ((w0.layVars Tryz.prog laid).forCall (fun _ _ => 0) ⟨#[], args, []⟩).memory := by
  have e1 : (laid.filter fun x => (laid.map (·.1)).contains x.1) = laid := List.filter_eq_self.2 fun x hx => List.contains_iff_mem.2 (List.mem_map.2 ⟨x, hx, rfl⟩)
  have e2 : (laid.filter fun x => !(laid.map (·.1)).contains x.1) = [] := List.filter_eq_nil_iff.2 fun x hx => by rw [List.contains_iff_mem.2 (List.mem_map.2 ⟨x, hx, rfl⟩)]; simp
  have h : laidMet Tryz.prog laid (w0.layVars Tryz.prog laid) := laidMet_layVars (w0 := w0) (laid.map (·.1)) [] (by rw [e1]) (by rw [e1]; exact hf) (by rw [e1]; exact hi) (by rw [e2]; exact LaidIn.none)
  exact h.of_heap (by simp [World.memory, World.forCall, Input.heap])
/-- what is laid by the law -/
def data : List (String × DataW Unit) := Rows.propAnswersRow.laid.filter fun x => x.2.handleName?.isNone
theorem start_os (os : Os) : ((World.doorLaid Tryz.prog 400 os).layVars Tryz.prog data).os = os := (World.layVars_os _ _ _).trans rfl
theorem fits (os : Os) : (World.doorLaid Tryz.prog 400 os).layFits Tryz.prog data [] = true := by kernel_rfl
theorem ifaces (os : Os) : (World.doorLaid Tryz.prog 400 os).layIfaces Tryz.prog data ((World.doorLaid Tryz.prog 400 os).layVars Tryz.prog data) = true := by kernel_rfl
theorem hand (os : Os) (args : Array Value) : (Rows.propAnswersRow.laid.filter fun x => x.2.handleName?.isSome && x.2.funcsIn?.isNone).all (handleAtB Tryz.prog (((World.doorLaid Tryz.prog 400 os).layVars Tryz.prog data).forCall (fun _ _ => 0) ⟨#[], args, []⟩).memory) = true := by kernel_rfl
theorem met (os : Os) (args : Array Value) : laidMetH Tryz.prog Rows.propAnswersRow.laid (((World.doorLaid Tryz.prog 400 os).layVars Tryz.prog data).forCall (fun _ _ => 0) ⟨#[], args, []⟩).memory :=
  laidMetH_of_parts3 (fuel := 8) (all args (fits os) (ifaces os)) (hand os args) (by kernel_rfl)
theorem shape (os : Os) (args : Array Value) : (((World.doorLaid Tryz.prog 400 os).layVars Tryz.prog data).forCall (fun _ _ => 0) ⟨#[], args, []⟩).Shaped Tryz.prog := World.shaped_of_ZipB (by kernel_rfl) (by kernel_rfl)
end QaMet
end
section
namespace QaFacts
set_option maxHeartbeats 4000000 in
theorem closed : joinedFacts Tryz.prog 4 Tryz.f4 Rows.propAnswersSpec Rows.propAnswersRow = true := by
  unfold joinedFacts
  repeat' rw [Bool.and_eq_true]
  repeat' apply And.intro
  all_goals (as_aux_lemma => kernel_rfl)
end QaFacts
end
section
namespace ClaimPAnswers
open Go.ChangeShapes Go.WideShapes Go.ChangeAt Go.RowKit
open Go.ChangeMaps (open_string shut_string)
set_option linter.unusedVariables false
theorem own : ownKnob Tryz.prog.godebug = none := by kernel_rfl
theorem laidOut : laidOutB Tryz.prog = true := by kernel_rfl
theorem laid {W : World} (h : laidMetH Tryz.prog Rows.propAnswersRow.laid W) (hlow : 14 ≤ W.heap.size) : Laid W :=
  LdLaid.laid_of (by kernel_rfl) (by kernel_rfl) (by kernel_rfl) (by kernel_rfl) (by kernel_rfl) (by kernel_rfl) h hlow
theorem plaid {W : World} (h : laidMetH Tryz.prog Rows.propAnswersRow.laid W) (hs : W.ShapedOpen Tryz.prog) (hL : Laid W) : PLaid W :=
  RlLaid.plaid_of (by kernel_rfl) (by kernel_rfl) (by kernel_rfl) (by kernel_rfl) h hs hL
set_option maxRecDepth 100000 in
theorem lifted (os : Os) (started : os.Started) (H : Type) (enc : TypeId × Value → H) :
    ReturnsInHanded {} Tryz.checked os 4 .any (fun w args => (Rows.propAnswersSpec.pre enc Tryz.prog Tryz.f4 [] false w args ∧ laidMetH Tryz.prog Rows.propAnswersRow.laid w) ∧ sizedMet enc Tryz.prog Tryz.f4 (OpenSpec.ofChange Rows.propAnswersSpec) false w args)
      (Rows.propAnswersSpec.post enc Tryz.prog Tryz.f4 false true false false) := by
  refine RlLaid.returns_shaped (X := fun w => laidMetH Tryz.prog Rows.propAnswersRow.laid w) (fun _ _ hh h => h.of_heap hh) own started (by kernel_rfl) Tryz.func4
    (ChangeSpec.witness_shaped (enc := enc) (C := Tryz.checked) (os := os) (X := fun w _ => laidMetH Tryz.prog Rows.propAnswersRow.laid w) false ((World.doorLaid Tryz.prog 400 os).layVars Tryz.prog QaMet.data) #[.string ByteArray.empty, .string ByteArray.empty, .string ByteArray.empty, .int .i64 0] 8 (QaMet.start_os os) (QaMet.shape os _) (by kernel_rfl) (by kernel_rfl) (by kernel_rfl) (QaMet.met os _)) ?_
  intro W base args ds gs before hsh hval0 hW hL
  have hld := laid hL (LdLaid.low_of hsh)
  have hpl := plaid hL hsh hld
  have hval : ∀ (j : Nat) t v, Tryz.f4.params[j]? = some t → args[j]? = some v → Value.okWide Tryz.prog W .any base t v := hval0
  have hW' := hW
  obtain ⟨p, q, hA0, hV, rfl, hfz, hnd⟩ := hW
  have hA : DataW.TrodAll enc Tryz.prog W 0 (fun _ => true) true Tryz.f4.params.toList args.toList ds p := hA0
  rw [Tryz.params4] at hA hval
  obtain ⟨v0, vs0, d0, ds0, p0, q0, hargs, rfl, rfl, h0, r0⟩ := trodAll_cons hA
  obtain ⟨v1, vs1, d1, ds1, p1, q1, rfl, rfl, rfl, h1, r1⟩ := trodAll_cons r0
  obtain ⟨v2, vs2, d2, ds2, p2, q2, rfl, rfl, rfl, h2, r2⟩ := trodAll_cons r1
  obtain ⟨v3, vs3, d3, ds3, p3, q3, rfl, rfl, rfl, h3, r3⟩ := trodAll_cons r2
  obtain ⟨rfl, rfl, rfl⟩ := trodAll_nil r3
  obtain rfl : args = #[v0, v1, v2, v3] := by cases args; simp_all
  obtain ⟨rfl, rfl⟩ := trodVars_none hV
  obtain ⟨a0, rfl, rfl, rfl, w0⟩ := open_string Tryz.underlying9 (hval 0 9 v0 rfl rfl) h0
  obtain ⟨a1, rfl, rfl, rfl, w1⟩ := open_string Tryz.underlying9 (hval 1 9 v1 rfl rfl) h1
  obtain ⟨a2, rfl, rfl, rfl, w2⟩ := open_string Tryz.underlying9 (hval 2 9 v2 rfl rfl) h2
  obtain ⟨a3, rfl, rfl, rfl, w3⟩ := open_int Tryz.underlying3 (hval 3 3 v3 rfl rfl) h3
  clear hA0 hval0
  refine (Rf.propAnswers_of Sl.both_any a0 a1 a2 a3 W w0 w1 w2 hld hpl).mono fun e W' ⟨he, bel⟩ => ?_
  subst he
  exact ⟨_, rfl, _, _, _, [], _, [], hW', trodAll_mk1 (shut_bool Tryz.underlying4 _), (trodAll_cons_mk (shut_string Tryz.underlying9 w0) (trodAll_cons_mk (shut_string Tryz.underlying9 w1) (trodAll_cons_mk (shut_string Tryz.underlying9 w2) (trodAll_cons_mk (shut_int Tryz.underlying3 w3) trodAll_mk0)))), rfl, bel.frame _, fun h => by cases h⟩
theorem named : Tryz.prog.funcNamed "signalcabin/signalcabinlaw.PropAnswers" = some 4 := by kernel_rfl
theorem inst : Tryz.f4.isInstance Tryz.prog Rows.propAnswersRow.origin Rows.propAnswersRow.targs := of_decide_eq_true (by kernel_rfl)
theorem wrap : Tryz.f4.isWrapper Tryz.prog Rows.propAnswersRow.wrapper Rows.propAnswersRow.mainSum := by unfold Func.isWrapper; first | (rw [if_pos (by decide +kernel)]; kernel_rfl) | (rw [if_neg (by decide +kernel)]; exact ⟨rfl, rfl⟩)
theorem over : Rows.PropAnswersSaid :=
  OpenClaim.holds_of_wide 4 Tryz.f4 rfl rfl rfl rfl rfl rfl rfl ⟨rfl, rfl, rfl, rfl, rfl⟩ rfl rfl rfl rfl rfl named Tryz.func4 QaFacts.closed
    inst wrap (fun os started H enc _ => lifted os started H enc)
end ClaimPAnswers
end
end Go.Proofs.YtgldbliohpfljaaGreatDoor
