/-
  The walk of package prop's Good. The walks of package prop's Check and of its closure. What is played on a machine, in plain words: what holds behind each scan, and how long one waits.
-/
import Derived.Test.YtgblillplgdbaaaGreatDoorPrViewAll
import Derived.Deep.RegionHeld3
import Derived.Test.YtgblillplgdbaaaGreatDoorRcNextAll
namespace Go.Proofs.YtgblillplgdbaaaGreatDoor
section
open Go.RowKit
@[go_sem] theorem field_is (a b : Value) (w : World) : (Instr.field 52 (.agg #[a, b]) 0).run Tryz.prog w = .ok a w := by kernel_rfl
/-- what told has made -/
structure ToldAt (W : World) (nv : Value) (ra : Option Addr) (rk rc n : Nat) (is : List Bool) (a b gi : Nat) : Prop where
  prg : W.heap[a]? = some (.cells #[nv, .slice ra rk rc] 40 (0, 0))
  lst : W.heap[b]? = some (.cells #[.slice (some ⟨gi, 0, none⟩) n n] 35 (0, 0))
  row : RowIs W gi 4 (is.map boolV)
theorem ToldAt.lt {W : World} {nv : Value} {ra : Option Addr} {rk rc n : Nat} {is : List Bool} {a b gi : Nat} (h : ToldAt W nv ra rk rc n is a b gi) : a < W.heap.size ∧ b < W.heap.size ∧ gi < W.heap.size := ⟨(Array.getElem?_eq_some_iff.1 h.prg).1, (Array.getElem?_eq_some_iff.1 h.lst).1, h.row.lt⟩
theorem ToldAt.kept {W W' : World} {nv : Value} {ra : Option Addr} {rk rc n : Nat} {is : List Bool} {a b gi : Nat} (h : ToldAt W nv ra rk rc n is a b gi) (ha : W'.heap[a]? = W.heap[a]?) (hb : W'.heap[b]? = W.heap[b]?) (hg : W'.heap[gi]? = W.heap[gi]?) : ToldAt W' nv ra rk rc n is a b gi := ⟨ha.trans h.prg, hb.trans h.lst, hg.trans h.row⟩
theorem ToldAt.tells {W : World} {nv : Value} {ra : Option Addr} {rk rc n : Nat} {is : List Bool} {a b gi : Nat} (h : ToldAt W nv ra rk rc n is a b gi) {ns : List Ld.Nme} (hn : NamesAt W nv ns) (hl : is.length = n) (hnn : n = ns.length) : E2.Tells (.func (.func 75) #[] #[.pointer (some ⟨a, 0, none⟩), .pointer (some ⟨b, 0, none⟩)]) (Sc.told ns is) W := by
  obtain ⟨a0, a1, _, _⟩ := two_cells h.prg
  refine ptells_told ns nv (.slice ra rk rc) is gi _ _ _ hn ⟨_, _, _, rfl⟩ (hl.trans hnn) a0 a1 ?_ h.row
  rw [Lib.cell_of_heap h.lst, hl]
  rfl
theorem told_made (nv : Value) (ra : Option Addr) (rk rc : Nat) (w6 : World) (is : List Bool) (gi n : Nat) (hrow : RowIs w6 gi 4 (is.map boolV)) :
    ToldAt ((w6.alloc (.cells #[nv, .slice ra rk rc] 40)).alloc (.cells #[.slice (some ⟨gi, 0, none⟩) n n] 35)) nv ra rk rc n is w6.heap.size (w6.heap.size + 1) gi := by
  obtain ⟨w7, hw7⟩ : ∃ w7, w7 = w6.alloc (.cells #[nv, .slice ra rk rc] 40) := ⟨_, rfl⟩
  have hz7 : w7.heap.size = w6.heap.size + 1 := by rw [hw7]; simp
  have hA : w7.heap[w6.heap.size]? = some (.cells #[nv, .slice ra rk rc] 40 (0, 0)) := by rw [hw7]; exact heap_alloc_new _ _
  rw [← hw7]
  have hb : Below w6.heap.size w6 (w7.alloc (.cells #[.slice (some ⟨gi, 0, none⟩) n n] 35)) := by
    have h1 : Below w6.heap.size w6 w7 := by rw [hw7]; exact (Below.refl _ _).alloc (Nat.le_refl _) _
    exact h1.alloc h1.size _
  exact ⟨(Below.heap_alloc _ _ _ (by omega)).trans hA, by rw [← hz7]; exact heap_alloc_new _ _, (hb.block _ hrow.lt).trans hrow⟩
/-- what a round of Good reads -/
def KG (bm : Nat) (nv rv : Value) (g s b I : Nat) (W : World) : Prop := W.cell? ⟨bm, 0, none⟩ = some nv ∧ W.cell? ⟨bm, 1, none⟩ = some rv ∧ W.cell? ⟨g, s, none⟩ = some (.slice (some ⟨b, 0, none⟩) I I)
theorem KG.below {bm g s b I : Nat} {nv rv : Value} {W W' : World} (h : KG bm nv rv g s b I W) (hb : Below W.heap.size W W') : KG bm nv rv g s b I W' := ⟨(hb.cell (World.block_lt_of_cell? _ _ h.1)).trans h.1, (hb.cell (World.block_lt_of_cell? _ _ h.2.1)).trans h.2.1, (hb.cell (World.block_lt_of_cell? _ _ h.2.2)).trans h.2.2⟩
theorem KG.set {bm g s b I : Nat} {nv rv : Value} {W : World} (c i : Nat) (v : Value) (h1 : bm ≠ c) (h2 : g ≠ c) (h : KG bm nv rv g s b I W) : KG bm nv rv g s b I (W.setCell ⟨c, i, none⟩ v) := ⟨cell_set_blk _ _ _ _ _ _ _ h1 h.1, cell_set_blk _ _ _ _ _ _ _ h1 h.2.1, cell_set_blk _ _ _ _ _ _ _ h2 h.2.2⟩
theorem KG.drew {bm g s b I : Nat} {nv rv : Value} {W : World} (h : KG bm nv rv g s b I W) : KG bm nv rv g s b I W.drew := h
/-- what Good comes to -/
def Gooded (w : World) (p : Ld.Prg) (x : Ex) (e : Ending) (w' : World) : Prop := Below w.heap.size w w' ∧ (if Pr.has p.names x then ∃ g us, e = .returned (.tuple #[.slice (some ⟨g, 0, none⟩) (Mc.total (Mc.parts p)) (Mc.total (Mc.parts p)), .nilIface]) ∧ us.length = Mc.total (Mc.parts p) ∧ GT w g (Mc.total (Mc.parts p)) (2 ^ (Ld.kindL p.names 1).length) us (Pr.goodRow p x (2 ^ (Ld.kindL p.names 1).length)) w' else e = .returned (.tuple #[.slice none 0 0, .iface 73 (.int .i64 7)]))
set_option maxHeartbeats 8000000 in
set_option maxRecDepth 100000 in
theorem Good_any (ok : Nat → Prop) (bm : Nat) (p : Ld.Prg) (x : Ex) (v : Value) (w : World) (hm : IsMach w bm p) (hck : Ld.check p = none) (hS : Mc.total (Mc.parts p) ≤ 4096) (hq : (Ld.kindL p.names 1).length ≤ 6) (h : IsEx ok w x v) (hlen : x.size ≤ 1000000) :
    Calls Tryz.prog 24 #[.pointer (some ⟨bm, 0, none⟩), v] w (Gooded w p x) := by
  obtain ⟨na, nk, nc, ra, rk, rc, hmv⟩ := hm.view hck hS
  obtain ⟨gN, uN, hna⟩ := hm.next
  have hI6 : 2 ^ (Ld.kindL p.names 1).length ≤ 64 := Nat.pow_le_pow_right (n := 2) (by decide) hq
  have HMV := hide hmv
  have HNA := hide hna
  have HX := hide h
  have pn := fun w a => ptrNe w a
  have hbl : bm < w.heap.size := hm.lt
  obtain ⟨p0, p1, hnm⟩ := hmv.prog w (Below.refl _ _)
  have HHN := hide (hasNames_any ok p.names _ (.slice ra rk rc) x v w hnm ⟨_, _, _, rfl⟩ h hlen)
  have HG : Hid (∀ e w', Gooded w p x e w' ↔ (Below w.heap.size w w' ∧ (if Pr.has p.names x then ∃ g us, e = .returned (.tuple #[.slice (some ⟨g, 0, none⟩) (Mc.total (Mc.parts p)) (Mc.total (Mc.parts p)), .nilIface]) ∧ us.length = Mc.total (Mc.parts p) ∧ GT w g (Mc.total (Mc.parts p)) (2 ^ (Ld.kindL p.names 1).length) us (Pr.goodRow p x (2 ^ (Ld.kindL p.names 1).length)) w' else e = .returned (.tuple #[.slice none 0 0, .iface 73 (.int .i64 7)])))) := fun _ _ => Iff.rfl
  obtain ⟨tu, yu, rfl⟩ := IsEx.iface x v h
  clear hmv hna hm hnm h
  go_enter Tryz.func24, Tryz.ntmps24
  go_wp2_with fail
  refine HHN.out.mono ?_
  rintro e w1 ⟨rfl, hb1⟩
  have HB1 := hide hb1
  cases hhas : Pr.has p.names x with
  | false =>
    have HFN : Hid (Gooded w p x (.returned (.tuple #[.slice none 0 0, .iface 73 (.int .i64 7)])) w1) := by
      refine (HG.out _ _).2 ⟨hb1, ?_⟩
      rw [hhas, if_neg Bool.false_ne_true]
    clear hb1 HHN
    go_wp2_with fail
    refine bodyPost_ret (results_tmp2 rfl _ _ _) rfl ?_
    exact HFN.out
  | true =>
    obtain ⟨S, hSS⟩ : ∃ S, S = Mc.total (Mc.parts p) := ⟨_, rfl⟩
    obtain ⟨I, hII⟩ : ∃ I, I = 2 ^ (Ld.kindL p.names 1).length := ⟨_, rfl⟩
    obtain ⟨n, hnn⟩ : ∃ n, n = p.names.length := ⟨_, rfl⟩
    have HFN : Hid (∀ g us W, us.length = S → GT w g S I us (Pr.goodRow p x I) W → Gooded w p x (.returned (.tuple #[.slice (some ⟨g, 0, none⟩) S S, .nilIface])) W) := fun g us W h1 h2 => by
      refine (HG.out _ _).2 ⟨h2.bel, ?_⟩
      rw [hhas, if_pos rfl, ← hSS, ← hII]
      exact ⟨g, us, rfl, h1, h2⟩
    have HSTA : Hid (∀ W (s : Nat), Below w.heap.size w W → s < S → Calls Tryz.prog 14 #[.pointer (some ⟨bm, 0, none⟩), .int .i64 (s : Int)] W (NewSt W (Mc.state (Mc.parts p) s))) := fun W s hW hs => HMV.out.state W s hW (by rw [← hSS]; exact hs)
    have HSEE : Hid (∀ W (s i : Nat), Below w.heap.size w W → s < S → i < I → Calls Tryz.prog 11 #[.pointer (some ⟨bm, 0, none⟩), .int .i64 (s : Int), .int .i64 (i : Int)] W fun e w' => ∃ gb, e = .returned (.tuple #[slV gb n, .nilIface]) ∧ RowIs w' gb 4 ((Mc.after1 p (Ld.kindL p.names 1).length s i).is.map boolV) ∧ W.heap.size ≤ gb ∧ Below W.heap.size W w') := fun W s i hW hs hi => by
      rw [hnn]
      exact HMV.out.sees W s i hW (by rw [← hSS]; exact hs) (by rw [← hII]; exact hi)
    rw [← hSS] at hS HNA
    rw [← hII] at hI6 HNA
    have HNN := hide hnn
    have HII := hide hII
    obtain ⟨c4, hul, hrw⟩ := HNA.out.below hb1
    have mk1 := fun w => makeBss S (by omega) w
    have mk2 := fun w => makeBs I (by omega) w
    obtain ⟨cI, hcI⟩ : ∃ c, c = List.replicate I (Value.bool false) := ⟨_, rfl⟩
    obtain ⟨cS, hcS⟩ : ∃ c, c = List.replicate S (Value.slice none 0 0) := ⟨_, rfl⟩
    rw [← hcI] at mk2
    rw [← hcS] at mk1
    have HCI := hide hcI
    obtain ⟨w2, hw2⟩ : ∃ w2, w2 = w1.alloc (.cells ⟨cS⟩ 35) := ⟨_, rfl⟩
    have HT0 : Hid (GT w w1.heap.size S I [] (Pr.goodRow p x I) w2) := by
      refine ⟨by simp, ?_, fun s b hs => by simp at hs, fun s hs => absurd hs (Nat.not_lt_zero _), hb1.size, ?_⟩
      · rw [hw2, hcS]; exact RowIs.new _ _ _
      · rw [hw2]; exact hb1.alloc hb1.size _
    have HXS : Hid (∀ W, Below w.heap.size w W → IsEx (fun _ => True) W x (.iface tu yu)) := fun W hW => IsEx.stay (Stay.below hW) (fun g _ => trivial) x _ HX.out
    have HPR : Hid (∀ W, Below w.heap.size w W → W.cell? ⟨bm, 0, none⟩ = some (.slice na nk nc) ∧ W.cell? ⟨bm, 1, none⟩ = some (.slice ra rk rc) ∧ NamesAt W (.slice na nk nc) p.names) := fun W hW => HMV.out.prog W hW
    have hb1l := HB1.out.size
    have hbl1 : bm < w1.heap.size := by omega
    clear hb1 HHN hSS hII hnn hcI hcS hrw hul HG hhas p0 p1
    go_wp2_with fail
    rw [← hw2]
    clear hw2
    go_loopw [40] (fun i wr => ∃ (s : Nat) (us : List Nat), s ≤ S ∧ i = .int .i64 (s : Int) ∧ us.length = s ∧ Hid (GT w w1.heap.size S I us (Pr.goodRow p x I) wr)) (fun i _ => S - (intOf i).toNat)
    case atStart => exact ⟨0, [], Nat.zero_le _, rfl, rfl, HT0.out⟩
    case round =>
      obtain ⟨s, us, hs, rfl, hus, HT⟩ := hrel
      by_cases hlt : s < S
      · obtain ⟨bN, hbN⟩ : ∃ b, uN[s]? = some b := ⟨_, List.getElem?_eq_getElem (by rw [HNA.out.2.1]; exact hlt)⟩
        have hna := HNA.out.below HT.out.bel
        have r0 := (hna.2.2 s bN hbN).1
        have hg := HT.out.top.lt
        have g0 := HT.out.top.cell s (.slice none 0 0) (by rw [List.getElem?_append_right (by simp; omega), List.getElem?_replicate, if_pos (by simp; omega)])
        have g1 := HT.out.top.frozen s
        have hsi : (s : Int) < (S : Int) := by omega
        obtain ⟨wN, hwN⟩ : ∃ wN, wN = (wr.setCell ⟨w1.heap.size, s, none⟩ (.slice (some ⟨wr.heap.size, 0, none⟩) I I)).alloc (.cells ⟨cI⟩ 4) := ⟨_, rfl⟩
        have HTN : Hid (GT w w1.heap.size S I (us ++ [wr.heap.size]) (fun t => if t = us.length then Rc.inTo (Pr.goodRow p x I s) 0 else Pr.goodRow p x I t) wN) := by
          have h1 := HT.out.new (by omega) (Pr.goodRow p x I s) (Pr.goodRow_len ..) cI HCI.out
          rw [hus] at h1 ⊢
          rw [hwN]
          exact h1
        have HD : Hid (∀ t : Nat, us[t]? ≠ some wr.heap.size) := fun t e => by have := (HT.out.rows t _ e).1.lt; omega
        clear hna hbN c4
        obtain ⟨wo, rfl⟩ : ∃ wo, wo = wr := ⟨_, rfl⟩
        go_upto_region 8 with fail
        rw [← hwN]
        have HK2 : Hid (∀ W, Below wN.heap.size wN W → W.cell? ⟨bm, 0, none⟩ = some (.slice na nk nc) ∧ W.cell? ⟨bm, 1, none⟩ = some (.slice ra rk rc)) := fun W hW => by
          obtain ⟨h1, h2, _⟩ := HPR.out W (HTN.out.bel.trans (hW.mono HTN.out.bel.size))
          exact ⟨h1, h2⟩
        have HBW : Hid (∀ W, Below wN.heap.size wN W → Below w.heap.size w W) := fun W hW => HTN.out.bel.trans (hW.mono HTN.out.bel.size)
        have HDA : Hid (Below wN.heap.size wN wN.drew) := ⟨rfl, rfl, rfl, Nat.le_refl _, fun _ _ => rfl⟩
        have HLS := hide (HMV.out.lens s 0).1
        rw [← HNN.out] at HLS
        have HSC : Hid (∀ W, Below wN.heap.size wN W → Calls Tryz.prog 14 #[.pointer (some ⟨bm, 0, none⟩), .int .i64 (s : Int)] W fun e w' => ∃ gi gc, e = .returned (.agg #[.slice (some ⟨gi, 0, none⟩) n n, .slice (some ⟨gc, 0, none⟩) n n]) ∧ RowIs w' gi 4 ((Mc.state (Mc.parts p) s).is.map boolV) ∧ W.heap.size ≤ gi ∧ Below W.heap.size W w') := fun W hW => by
          refine (HSTA.out W s (HBW.out W hW) hlt).mono ?_
          rintro e w' ⟨gi, gc, rfl, h1, h3, _, h2⟩
          rw [HLS.out]
          exact ⟨gi, gc, rfl, h1.rowI, h3, h2⟩
        have HWN := hide hwN
        clear hwN
        go_cut [9] (fun t wx => ∃ ta tb gi, t = .func (.func 75) #[] #[.pointer (some ⟨ta, 0, none⟩), .pointer (some ⟨tb, 0, none⟩)] ∧ ToldAt wx (.slice na nk nc) ra rk rc n (Mc.state (Mc.parts p) s).is ta tb gi ∧ (wN.heap.size ≤ ta ∧ wN.heap.size ≤ tb ∧ wN.heap.size ≤ gi) ∧ Below wN.heap.size wN wx)
        case first =>
          go_region_held3 (fun W => W.cell? ⟨bm, 0, none⟩ = some (.slice na nk nc) ∧ W.cell? ⟨bm, 1, none⟩ = some (.slice ra rk rc)) ((refine HK2.out _ ?_; repeat (first | exact HB6.out | exact HDA.out | exact Below.refl _ _ | refine Below.alloc ?_ (by first | omega | (simp; omega)) _))) ((first
            | (go_at_call 14; (with_reducible refine (HSC.out _ HDA.out).mono ?_); rintro e w6 ⟨gi, gc, rfl, hrow6, hgi6, hb6⟩; have HB6 : Hid (Below wN.heap.size wN w6) := HDA.out.trans hb6; have hz6 := HB6.out.size; have HR6 := hide hrow6; clear hrow6 hb6)
            | (go_at_call 50; (with_reducible refine (ptold_any _ _ _ _ ⟨_, _, _, rfl⟩ ⟨_, _, _, rfl⟩ ⟨_, _, _, rfl⟩).mono ?_); rintro e w7 ⟨rfl, rfl⟩)))
          all_goals go_wp2_with fail
          all_goals go_meet
          exact ⟨_, _, gi, rfl, told_made _ _ _ _ _ _ _ _ HR6.out, ⟨hz6, by omega, hgi6⟩, (HB6.out.alloc hz6 _).alloc (by simp; omega) _⟩
        case rest =>
          obtain ⟨ta, tb, gi, rfl, htl, ⟨lta, ltb, lgi⟩, hbc⟩ := hcut
          have HTL := hide htl
          have HTC := hide (HTN.out.below hbc)
          have hzN : wN.heap.size = wo.heap.size + 1 := by rw [HWN.out]; simp [World.setCell]
          have hzc := hbc.size
          clear htl hbc HSC HK2 HDA HTN HBW
          go_wp2_with fail
          go_loopw [62] (fun x_ wr => ∃ i : Nat, i ≤ I ∧ x_ = .int .i64 (i : Int) ∧ Hid (GT w w1.heap.size S I (us ++ [wo.heap.size]) (fun t => if t = us.length then Rc.inTo (Pr.goodRow p x I s) i else Pr.goodRow p x I t) wr) ∧ Hid (ToldAt wr (.slice na nk nc) ra rk rc n (Mc.state (Mc.parts p) s).is ta tb gi)) (fun x_ _ => I - (intOf x_).toNat)
          case atStart => exact ⟨0, Nat.zero_le _, rfl, HTC.out, HTL.out⟩
          case round =>
            clear HTC HTL
            obtain ⟨i, hi, rfl, HTC, HTL⟩ := hrel
            by_cases hiI : i < I
            · have hii : (i : Int) < (I : Int) := by omega
              have HSE := hide (HSEE.out wr s i HTC.out.bel hlt hiI)
              unfold slV at HSE
              go_wp2_with fail
              refine HSE.out.mono ?_
              rintro e wE ⟨gb, rfl, hrE, hgE, hbE⟩
              have HRE := hide hrE
              have HBE := hide hbE
              have HTE := hide (HTC.out.below hbE)
              obtain ⟨l1, l2, l3⟩ := HTL.out.lt
              have HLE := hide (HTL.out.kept (hbE.block _ l1) (hbE.block _ l2) (hbE.block _ l3))
              clear hrE hbE HSE
              have hgE2 := HTE.out.top.lt
              have HKE : Hid (KG bm (.slice na nk nc) (.slice ra rk rc) w1.heap.size s wo.heap.size I wE) := by
                obtain ⟨k1, k2, _⟩ := HPR.out wE HTE.out.bel
                refine ⟨k1, k2, HTE.out.top.cell s _ ?_⟩
                rw [List.getElem?_append_left (by simp; omega), List.getElem?_map, List.getElem?_append_right (by omega), hus]
                simp [slV]
              obtain ⟨hrb, hgb⟩ := HTE.out.rows us.length wo.heap.size (by rw [List.getElem?_append_right (Nat.le_refl _)]; simp)
              rw [if_pos rfl] at hrb
              have HRB := hide hrb
              have hlo := hrb.lt
              have HDA : Hid (Below wE.heap.size wE wE.drew) := ⟨rfl, rfl, rfl, Nat.le_refl _, fun _ _ => rfl⟩
              have HLI := hide ((HMV.out.lens s i).2 (by rw [← HII.out]; exact hiI))
              rw [← HNN.out] at HLI
              have HEV : Hid (∀ (W : World) (a b : Nat), Below wE.heap.size wE W → ToldAt W (.slice na nk nc) ra rk rc n (Mc.after1 p (Ld.kindL p.names 1).length s i).is a b gb → Calls Tryz.prog 12 #[.iface tu yu, .func (.func 75) #[] #[.pointer (some ⟨a, 0, none⟩), .pointer (some ⟨b, 0, none⟩)], .func (.func 75) #[] #[.pointer (some ⟨ta, 0, none⟩), .pointer (some ⟨tb, 0, none⟩)]] W fun e w' => e = .returned (.bool (Pr.good p x s i)) ∧ Below wE.heap.size wE w') := fun W a b h7 ht => by
                have h8 := HTE.out.bel.trans (h7.mono HTE.out.bel.size)
                obtain ⟨q1, q2, q3⟩ := HLE.out.lt
                refine (E2.Eval_any (fun _ => True) x _ _ _ _ _ _ (HXS.out _ h8) (ht.tells (HPR.out _ h8).2.2 HLI.out HNN.out) ((HLE.out.kept (h7.block _ q1) (h7.block _ q2) (h7.block _ q3)).tells (HPR.out _ h8).2.2 HLS.out HNN.out)).mono ?_
                rintro e w' ⟨rfl, h9⟩
                exact ⟨rfl, h7.trans (h9.mono h7.size)⟩
              have HT7 : Hid (ToldAt ((wE.alloc (.cells #[.slice na nk nc, .slice ra rk rc] 40)).alloc (.cells #[.slice (some ⟨gb, 0, none⟩) n n] 35)).drew (.slice na nk nc) ra rk rc n (Mc.after1 p (Ld.kindL p.names 1).length s i).is wE.heap.size (wE.heap.size + 1) gb) := by
                obtain ⟨u1, u2, u3⟩ := told_made (.slice na nk nc) ra rk rc wE _ gb n HRE.out
                exact ⟨u1, u2, u3⟩
              have HB7 : Hid (Below wE.heap.size wE ((wE.alloc (.cells #[.slice na nk nc, .slice ra rk rc] 40)).alloc (.cells #[.slice (some ⟨gb, 0, none⟩) n n] 35)).drew) := by
                have h7 : Below wE.heap.size wE ((wE.alloc (.cells #[.slice na nk nc, .slice ra rk rc] 40)).alloc (.cells #[.slice (some ⟨gb, 0, none⟩) n n] 35)) := ((Below.refl _ wE).alloc (Nat.le_refl _) _).alloc (by simp) _
                exact h7.trans ⟨rfl, rfl, rfl, Nat.le_refl _, fun _ _ => rfl⟩
              have hnb : bm ≠ wo.heap.size := by omega
              have hng : w1.heap.size ≠ wo.heap.size := by omega
              have hlE : wo.heap.size < wE.heap.size := hlo
              clear hrb
              go_upto_region 13 with fail
              go_region_held3 (fun W => W.cell? ⟨bm, 0, none⟩ = some (.slice na nk nc) ∧ W.cell? ⟨bm, 1, none⟩ = some (.slice ra rk rc) ∧ W.cell? ⟨w1.heap.size, s, none⟩ = some (.slice (some ⟨wo.heap.size, 0, none⟩) I I)) ((show KG bm (.slice na nk nc) (.slice ra rk rc) w1.heap.size s wo.heap.size I _; repeat (first | exact HKE.out | exact HKE.out.below HDA.out | exact HKE.out.below HB8.out | refine KG.set _ _ _ hnb hng ?_ | refine KG.drew ?_ | (refine KG.below ?_ (Below.alloc (Below.refl _ _) (Nat.le_refl _) _))))) ((first
                | (go_at_call 50; (with_reducible refine (ptold_any _ _ _ _ ⟨_, _, _, rfl⟩ ⟨_, _, _, rfl⟩ ⟨_, _, _, rfl⟩).mono ?_); rintro e w7 ⟨rfl, rfl⟩)
                | (go_at_call 12; (with_reducible refine (HEV.out _ _ _ HB7.out HT7.out).mono ?_); rintro e w8 ⟨rfl, hb8⟩; have HB8 := hide hb8; have q3 := (hb8.cell (p := ⟨wo.heap.size, i, none⟩) hlE).trans (HRB.out.cell i false (Rc.inTo_at _ _ (by rw [Pr.goodRow_len]; exact hiI))); have q4 := (hb8.frozen (p := ⟨wo.heap.size, i, none⟩) hlE).trans (RowIs.frozen HRB.out i); clear hb8)))
              have HNX : Hid (GT w w1.heap.size S I (us ++ [wo.heap.size]) (fun t => if t = us.length then Rc.inTo (Pr.goodRow p x I s) (i + 1) else Pr.goodRow p x I t) (w8.setCell ⟨wo.heap.size, i, none⟩ (.bool (Pr.good p x s i)))) := (HTE.out.below HB8.out).set HD.out (Pr.goodRow_len ..) hiI (Pr.goodRow_at _ _ _ _ _ hiI)
              have HTX : Hid (ToldAt (w8.setCell ⟨wo.heap.size, i, none⟩ (.bool (Pr.good p x s i))) (.slice na nk nc) ra rk rc n (Mc.state (Mc.parts p) s).is ta tb gi) := by
                obtain ⟨q1, q2, q3⟩ := HLE.out.lt
                refine HLE.out.kept ?_ ?_ ?_
                · rw [Below.heap_setCell _ _ _ _ (by show ta ≠ wo.heap.size; omega)]; exact HB8.out.block _ q1
                · rw [Below.heap_setCell _ _ _ _ (by show tb ≠ wo.heap.size; omega)]; exact HB8.out.block _ q2
                · rw [Below.heap_setCell _ _ _ _ (by show gi ≠ wo.heap.size; omega)]; exact HB8.out.block _ q3
              clear q3 q4
              go_wp2_with fail
              go_roundw
              case rel => exact ⟨i + 1, by omega, by go_num, HNX.out, HTX.out⟩
              case measure => simp [intOf]; omega
            · have hiI' : i = I := by omega
              have HGE : Hid (GT w w1.heap.size S I (us ++ [wo.heap.size]) (Pr.goodRow p x I) wr) := by
                have h1 := HTC.out
                have e : (fun t => if t = us.length then Rc.inTo (Pr.goodRow p x I s) i else Pr.goodRow p x I t) = Pr.goodRow p x I := by
                  funext t
                  by_cases ht : t = us.length
                  · rw [if_pos ht, ht, hus]
                    have h2 := Rc.inTo_all (Pr.goodRow p x I s)
                    rw [Pr.goodRow_len] at h2
                    rw [hiI']; exact h2
                  · rw [if_neg ht]
                rw [e] at h1
                exact h1
              go_wp2_with fail
              exact ⟨⟨s + 1, us ++ [wo.heap.size], by omega, by go_num, by simp [hus], HGE.out⟩, by simp [intOf]; omega⟩
      · have hsS : s = S := by omega
        have HE := hide (HFN.out _ us wr (by omega) HT.out)
        go_wp2_with fail
        refine bodyPost_ret (results_tmp2 rfl _ _ _) rfl ?_
        exact HE.out
end
section
open Go.RowKit
namespace Pr
/-- how long one waits where nothing is asked for but always -/
def wtC (row : Nat → List Bool) (p : Nat × Nat) (i : Nat) : Nat := waits 0 true ((row p.1).getD i false)
end Pr
set_option maxHeartbeats 2000000 in
set_option maxRecDepth 100000 in
theorem check1_any (w0 : World) (bg g S I : Nat) (us : List Nat) (row : Nat → List Bool) (p : Nat × Nat) (i : Nat) (w : World) (hc : w.cell? ⟨bg, 0, none⟩ = some (.slice (some ⟨g, 0, none⟩) S S)) (h : GT w0 g S I us row w) (hus : us.length = S) (hp : p.1 < S) (hi : i < I) :
    Calls Tryz.prog 26 #[.agg #[.int .i64 (p.1 : Int), .int .i64 (p.2 : Int)], .int .i64 (i : Int), .pointer (some ⟨bg, 0, none⟩)] w fun e w' => e = .returned (.int .i64 (Pr.wtC row p i : Int)) ∧ Below w.heap.size w w' := by
  obtain ⟨b, hb⟩ : ∃ b, us[p.1]? = some b := ⟨_, List.getElem?_eq_getElem (by omega)⟩
  obtain ⟨hr, _⟩ := h.rows _ b hb
  have hl := h.len p.1 (by omega)
  have r0 := h.top.cell p.1 (.slice (some ⟨b, 0, none⟩) I I) (by rw [List.getElem?_append_left (by simp; omega), List.getElem?_map, hb]; rfl)
  have r1 := hr.cell i _ (show (row p.1)[i]? = some ((row p.1).getD i false) by rw [List.getD_eq_getElem?_getD, List.getElem?_eq_getElem (by omega)]; rfl)
  obtain ⟨x, hx⟩ : ∃ x, x = (row p.1).getD i false := ⟨_, rfl⟩
  rw [← hx] at r1
  have HWT : Hid (Pr.wtC row p i = Pr.waits 0 true x) := by show _ = _; rw [hx]; rfl
  have hbl : bg < w.heap.size := World.block_lt_of_cell? _ _ hc
  have hgl : g < w.heap.size := World.block_lt_of_cell? _ _ r0
  have hbl2 : b < w.heap.size := World.block_lt_of_cell? _ _ r1
  have hpi : (p.1 : Int) < (S : Int) := by omega
  have hii : (i : Int) < (I : Int) := by omega
  have HW := hide (fun W => waits_any 0 true x W (by omega))
  have HB : Hid (∀ o, Below w.heap.size w (w.alloc o)) := fun o => (Below.refl _ _).alloc (Nat.le_refl _) _
  clear hb hr hl hx h
  go_enter Tryz.func26, Tryz.ntmps26
  go_wp2_with fail
  refine (HW.out _).mono ?_
  rintro e w' ⟨rfl, rfl⟩
  go_wp2_with fail
  go_ret
  exact ⟨by rw [HWT.out]; rfl, HB.out _⟩
/-- what Check and Answers come to, where there is no error -/
def SaidT (w : World) (next : Nat → List Nat) (wt : Nat × Nat → Nat → Nat) (most : Nat) (e : Ending) (w' : World) : Prop := (e = .returned (.tuple #[.bool true, .slice none 0 0, .nilIface]) ∧ Pr.Held next wt most) ∨ ∃ l g c, e = .returned (.tuple #[.bool false, .slice (some ⟨g, 0, none⟩) l.length c, .nilIface]) ∧ Pr.Broke next wt most l ∧ Pr.Least next wt most l ∧ w'.ownsRow w.heap.size 3 1 (.slice (some ⟨g, 0, none⟩) l.length c) l.length (l.map natV) ∧ l.length ≤ 100001
/-- what Check comes to -/
def PChecked (w : World) (p : Ld.Prg) (x : Ex) (e : Ending) (w' : World) : Prop := Below w.heap.size w w' ∧ (if Pr.has p.names x then SaidT w (Mc.nexts p) (Pr.wtC (Pr.goodRow p x (2 ^ (Ld.kindL p.names 1).length))) 0 e w' else e = .returned (.tuple #[.bool false, .slice none 0 0, .iface 73 (.int .i64 7)]))
theorem SaidT.of {w w2 w3 : World} {next : Nat → List Nat} {wt : Nat × Nat → Nat → Nat} {most : Nat} {e : Ending} (hz : w.heap.size ≤ w2.heap.size) (h : Searched w2 next wt most e w3) : (e = .returned (.tuple #[.bool true, .slice none 0 0]) ∧ SaidT w next wt most (.returned (.tuple #[.bool true, .slice none 0 0, .nilIface])) w3) ∨ ∃ g n c, e = .returned (.tuple #[.bool false, .slice (some ⟨g, 0, none⟩) n c]) ∧ SaidT w next wt most (.returned (.tuple #[.bool false, .slice (some ⟨g, 0, none⟩) n c, .nilIface])) w3 := by
  obtain ⟨_, ⟨h1, h2⟩ | ⟨l, g, c, h1, h2, h5, h3, h4⟩⟩ := h
  · exact .inl ⟨h1, .inl ⟨rfl, h2⟩⟩
  · exact .inr ⟨g, l.length, c, h1, .inr ⟨l, g, c, rfl, h2, h5, own_mono h3 hz, h4⟩⟩
set_option maxHeartbeats 4000000 in
set_option maxRecDepth 100000 in
theorem PCheck_any (ok : Nat → Prop) (bm : Nat) (p : Ld.Prg) (x : Ex) (v : Value) (w : World) (hm : IsMach w bm p) (hck : Ld.check p = none) (hS : Mc.total (Mc.parts p) ≤ 4096) (hq : (Ld.kindL p.names 1).length ≤ 6) (h : IsEx ok w x v) (hlen : x.size ≤ 1000000) :
    Calls Tryz.prog 8 #[.pointer (some ⟨bm, 0, none⟩), v] w (PChecked w p x) := by
  have hmf : ∀ (fn : Fn) (first cap : Array Value) (w : World), (Instr.makeFunc fn first cap).run Tryz.prog w = .ok (.func fn first cap) w := fun _ _ _ _ => rfl
  have HG := hide (Good_any ok bm p x v w hm hck hS hq h hlen)
  obtain ⟨gN, uN, hna⟩ := hm.next
  have HNA := hide hna
  have hS1 := Mc.total_pos (Mc.parts p) (Mc.parts_ok p)
  have hI6 : 2 ^ (Ld.kindL p.names 1).length ≤ 64 := Nat.pow_le_pow_right (n := 2) (by decide) hq
  have HNL := hide (fun s => Mc.nexts_len p s)
  have HNX : Hid (∀ f s, f < Mc.total (Mc.parts p) → s ∈ Mc.nexts p f → s < Mc.total (Mc.parts p)) := fun f s _ hs => Mc.nexts_lt p hck f s hs
  have HPC : Hid (∀ e w', PChecked w p x e w' ↔ (Below w.heap.size w w' ∧ (if Pr.has p.names x then SaidT w (Mc.nexts p) (Pr.wtC (Pr.goodRow p x (2 ^ (Ld.kindL p.names 1).length))) 0 e w' else e = .returned (.tuple #[.bool false, .slice none 0 0, .iface 73 (.int .i64 7)])))) := fun _ _ => Iff.rfl
  have HGD : Hid (∀ e w', Gooded w p x e w' → (Below w.heap.size w w' ∧ (if Pr.has p.names x then ∃ g us, e = .returned (.tuple #[.slice (some ⟨g, 0, none⟩) (Mc.total (Mc.parts p)) (Mc.total (Mc.parts p)), .nilIface]) ∧ us.length = Mc.total (Mc.parts p) ∧ GT w g (Mc.total (Mc.parts p)) (2 ^ (Ld.kindL p.names 1).length) us (Pr.goodRow p x (2 ^ (Ld.kindL p.names 1).length)) w' else e = .returned (.tuple #[.slice none 0 0, .iface 73 (.int .i64 7)])))) := fun _ _ h => h
  obtain ⟨tu, yu, rfl⟩ := IsEx.iface x v h
  clear hna h hm hq hck
  generalize hrw : Pr.goodRow p x (2 ^ (Ld.kindL p.names 1).length) = row at *
  generalize Mc.total (Mc.parts p) = S at *
  generalize 2 ^ (Ld.kindL p.names 1).length = I at *
  clear hrw
  go_enter Tryz.func8, Tryz.ntmps8
  go_wp2_with fail
  refine HG.out.mono ?_
  intro e w1 hg
  obtain ⟨hb1, hres⟩ := HGD.out e w1 hg
  clear hg HG HGD
  cases hhas : Pr.has p.names x with
  | false =>
    rw [hhas, if_neg Bool.false_ne_true] at hres
    obtain rfl := hres
    have HFN : Hid (∀ o, PChecked w p x (.returned (.tuple #[.bool false, .slice none 0 0, .iface 73 (.int .i64 7)])) (w1.alloc o)) := fun o => by
      refine (HPC.out _ _).2 ⟨hb1.alloc hb1.size _, ?_⟩
      rw [hhas, if_neg Bool.false_ne_true]
    clear hb1
    go_wp2_with fail
    refine bodyPost_ret (results_tmp3 rfl _ _ _) rfl ?_
    exact HFN.out _
  | true =>
    rw [hhas, if_pos rfl] at hres
    obtain ⟨g, us, rfl, hul, hgt⟩ := hres
    obtain ⟨w2, hw2⟩ : ∃ w2, w2 = w1.alloc (.cells #[.slice (some ⟨g, 0, none⟩) S S] 80) := ⟨_, rfl⟩
    have hb12 : Below w1.heap.size w1 w2 := by rw [hw2]; exact (Below.refl _ _).alloc (Nat.le_refl _) _
    have hb2 : Below w.heap.size w w2 := by rw [hw2]; exact hb1.alloc hb1.size _
    have hc2 : w2.cell? ⟨w1.heap.size, 0, none⟩ = some (.slice (some ⟨g, 0, none⟩) S S) := by rw [hw2]; exact Lib.cell_of_heap (heap_alloc_new w1 _) 0
    have hl2 : w1.heap.size < w2.heap.size := by rw [hw2]; simp
    have hgt2 := hgt.below hb12
    have HWA : Hid (Waiting w2 S 0 I (.func (.func 26) #[] #[.pointer (some ⟨w1.heap.size, 0, none⟩)]) (Pr.wtC row)) :=
      ⟨26, _, rfl, fun _ _ => by kernel_rfl, fun q i W hW hq1 _ hi => check1_any w w1.heap.size g S I us row q i W ((hW.cell (p := ⟨w1.heap.size, 0, none⟩) hl2).trans hc2) (hgt2.below hW) hul hq1 hi⟩
    have HSR : Hid (Calls Tryz.prog 25 #[.pointer (some ⟨bm, 0, none⟩), .int .i64 0, .func (.func 26) #[] #[.pointer (some ⟨w1.heap.size, 0, none⟩)]] w2 (Searched w2 (Mc.nexts p) (Pr.wtC row) 0)) :=
      search_any bm S I gN 0 (Mc.nexts p) uN _ _ w2 (HNA.out.below hb2) hS1 hS hI6 (by decide) HNL.out HNX.out HWA.out (fun q i _ => by unfold Pr.wtC Pr.waits; split <;> omega)
    have HFN : Hid (∀ e w3, Searched w2 (Mc.nexts p) (Pr.wtC row) 0 e w3 → (e = .returned (.tuple #[.bool true, .slice none 0 0]) ∧ PChecked w p x (.returned (.tuple #[.bool true, .slice none 0 0, .nilIface])) w3) ∨ ∃ g n c, e = .returned (.tuple #[.bool false, .slice (some ⟨g, 0, none⟩) n c]) ∧ PChecked w p x (.returned (.tuple #[.bool false, .slice (some ⟨g, 0, none⟩) n c, .nilIface])) w3) := fun e w3 hs => by
      have hb3 : Below w.heap.size w w3 := hb2.trans (hs.1.mono hb2.size)
      rcases SaidT.of hb2.size hs with ⟨h1, h2⟩ | ⟨g, n, c, h1, h2⟩
      · refine .inl ⟨h1, (HPC.out _ _).2 ⟨hb3, ?_⟩⟩
        rw [hhas, if_pos rfl]; exact h2
      · refine .inr ⟨g, n, c, h1, (HPC.out _ _).2 ⟨hb3, ?_⟩⟩
        rw [hhas, if_pos rfl]; exact h2
    rw [hw2] at HSR
    have HW2 := hide hw2
    clear hw2 hb12 hb2 hc2 hl2 hgt2 HWA hgt hul hb1 HPC
    go_wp2_with fail
    refine HSR.out.mono ?_
    rw [← HW2.out]
    intro e w3 hs
    rcases HFN.out e w3 hs with ⟨rfl, h1⟩ | ⟨g3, n3, c3, rfl, h1⟩
    · have H1 := hide h1
      clear h1 hs HSR HFN
      go_wp2_with fail
      refine bodyPost_ret (results_tmp3 rfl _ _ _) rfl ?_
      exact H1.out
    · have H1 := hide h1
      clear h1 hs HSR HFN
      go_wp2_with fail
      refine bodyPost_ret (results_tmp3 rfl _ _ _) rfl ?_
      exact H1.out
end
section
namespace Pr
/-- behind each scan of those that are played: does it hold? -/
def shown (next : Nat → List Nat) (gd : Nat → Nat → Bool) : Nat → List Nat → List Bool
  | _, [] => []
  | s, i :: l => gd s i :: shown next gd ((next s).getD i 0) l
theorem shown_len (next : Nat → List Nat) (gd : Nat → Nat → Bool) : ∀ (s : Nat) (l : List Nat), (shown next gd s l).length = l.length
  | _, [] => rfl
  | s, i :: l => by simp [shown, shown_len next gd _ l]
theorem shown_snoc (next : Nat → List Nat) (gd : Nat → Nat → Bool) (i : Nat) : ∀ (s : Nat) (l : List Nat), shown next gd s (l ++ [i]) = shown next gd s l ++ [gd (Rc.go next s l) i]
  | _, [] => rfl
  | s, j :: l => by
    show gd s j :: shown next gd ((next s).getD j 0) (l ++ [i]) = gd s j :: (shown next gd ((next s).getD j 0) l ++ [gd (Rc.go next ((next s).getD j 0) l) i])
    rw [shown_snoc next gd i]
theorem go_fst (next : Nat → List Nat) (wt : Nat × Nat → Nat → Nat) : ∀ (l : List Nat) (p : Nat × Nat), (go next wt p l).1 = Rc.go next p.1 l
  | [], _ => rfl
  | i :: l, p => go_fst next wt l (step next wt p i)
theorem shown_fine {next : Nat → List Nat} {wt : Nat × Nat → Nat → Nat} {gd : Nat → Nat → Bool} (h : ∀ p i, i < (next p.1).length → wt p i ≤ 0 → gd p.1 i = true) : ∀ (l : List Nat) (p : Nat × Nat), Fine next wt 0 p l → shown next gd p.1 l = List.replicate l.length true
  | [], _, _ => rfl
  | i :: l, p, hf => by
    have ih := shown_fine h l (step next wt p i) hf.2.2
    show gd p.1 i :: shown next gd (step next wt p i).1 l = _
    rw [h p i hf.1 hf.2.1, ih]
    rfl
theorem Held.shows {next : Nat → List Nat} {wt : Nat × Nat → Nat → Nat} {gd : Nat → Nat → Bool} (hh : Held next wt 0) (h : ∀ p i, i < (next p.1).length → wt p i ≤ 0 → gd p.1 i = true) (l : List Nat) (hl : InR next 0 l) : shown next gd 0 l = List.replicate l.length true := shown_fine h l (0, 0) (hh l hl)
theorem fine_mono {next : Nat → List Nat} {wt : Nat × Nat → Nat → Nat} {a b : Nat} (hab : a ≤ b) : ∀ (l : List Nat) (p : Nat × Nat), Fine next wt a p l → Fine next wt b p l
  | [], _, _ => trivial
  | _ :: l, _, hf => ⟨hf.1, Nat.le_trans hf.2.1 hab, fine_mono hab l _ hf.2.2⟩
theorem Broke.inr {next : Nat → List Nat} {wt : Nat × Nat → Nat → Nat} {most : Nat} {l : List Nat} (h : Broke next wt most l) : InR next 0 l := by
  obtain ⟨m, i, rfl, h1, h2, h3⟩ := h
  have h4 : Fine next wt (wt (go next wt (0, 0) m) i + most) (0, 0) (m ++ [i]) := by
    rw [fine_append]
    exact ⟨fine_mono (by omega) m _ h1, h2, by omega, trivial⟩
  exact h4.inr
theorem Broke.shows {next : Nat → List Nat} {wt : Nat × Nat → Nat → Nat} {gd : Nat → Nat → Bool} {l : List Nat} (hb : Broke next wt 0 l) (h : ∀ p i, i < (next p.1).length → wt p i ≤ 0 → gd p.1 i = true) (h' : ∀ p i, i < (next p.1).length → 0 < wt p i → gd p.1 i = false) : ∃ n, l.length = n + 1 ∧ shown next gd 0 l = List.replicate n true ++ [false] := by
  obtain ⟨m, i, rfl, h1, h2, h3⟩ := hb
  refine ⟨m.length, by simp, ?_⟩
  rw [shown_snoc, shown_fine h m (0, 0) h1]
  have h4 := h' _ i h2 h3
  rw [go_fst] at h4
  rw [h4]
theorem inr_of {next : Nat → List Nat} {I : Nat} (hn : ∀ s, (next s).length = I) : ∀ (l : List Nat) (s : Nat), (∀ i, i ∈ l → i < I) → InR next s l
  | [], _, _ => trivial
  | i :: l, s, h => ⟨by rw [hn]; exact h i (by simp), inr_of hn l _ (fun j hj => h j (by simp [hj]))⟩
theorem InR.lt {next : Nat → List Nat} {I : Nat} (hn : ∀ s, (next s).length = I) : ∀ (l : List Nat) (s : Nat), InR next s l → ∀ i, i ∈ l → i < I
  | [], _, _, i, hi => by simp at hi
  | j :: l, s, h, i, hi => by
    rcases List.mem_cons.1 hi with rfl | hi
    · have := h.1; rwa [hn] at this
    · exact InR.lt hn l _ h.2 i hi
/-- where none waits, two that wait alike are alike -/
theorem fine_same {next : Nat → List Nat} {wt wt' : Nat × Nat → Nat → Nat} (h : ∀ s i, i < (next s).length → wt (s, 0) i = wt' (s, 0) i) : ∀ (l : List Nat) (s : Nat), Fine next wt 0 (s, 0) l → Fine next wt' 0 (s, 0) l ∧ go next wt (s, 0) l = go next wt' (s, 0) l ∧ (go next wt (s, 0) l).2 = 0
  | [], _, _ => ⟨trivial, rfl, rfl⟩
  | i :: l, s, hf => by
    have h0 : wt (s, 0) i = 0 := by have := hf.2.1; omega
    have h1 : wt' (s, 0) i = 0 := by rw [← h s i hf.1, h0]
    have e : step next wt (s, 0) i = ((next s).getD i 0, 0) := by unfold step; rw [h0]
    have e' : step next wt' (s, 0) i = ((next s).getD i 0, 0) := by unfold step; rw [h1]
    have hf2 := hf.2.2
    rw [e] at hf2
    obtain ⟨h2, h3, h4⟩ := fine_same h l _ hf2
    refine ⟨⟨hf.1, by rw [h1]; exact Nat.le_refl _, by rw [e']; exact h2⟩, ?_, ?_⟩
    · show go next wt (step next wt (s, 0) i) l = go next wt' (step next wt' (s, 0) i) l
      rw [e, e']; exact h3
    · show (go next wt (step next wt (s, 0) i) l).2 = 0
      rw [e]; exact h4
theorem Broke.same {next : Nat → List Nat} {wt wt' : Nat × Nat → Nat → Nat} {l : List Nat} (h : ∀ s i, i < (next s).length → wt (s, 0) i = wt' (s, 0) i) (hb : Broke next wt 0 l) : Broke next wt' 0 l := by
  obtain ⟨m, i, rfl, h1, h2, h3⟩ := hb
  obtain ⟨h4, h5, h6⟩ := fine_same h m 0 h1
  refine ⟨m, i, rfl, h4, by rw [← h5]; exact h2, ?_⟩
  rw [← h5]
  have e : go next wt (0, 0) m = ((go next wt (0, 0) m).1, 0) := Prod.ext rfl h6
  rw [e, ← h _ i h2, ← e]
  exact h3
/-- how long one waits, where one asks and is answered -/
def wtB (ask ans : Nat → Nat → Bool) (p : Nat × Nat) (i : Nat) : Nat := if ans p.1 i || (p.2 == 0 && !ask p.1 i) then 0 else p.2 + 1
theorem go_take {next : Nat → List Nat} {wt : Nat × Nat → Nat → Nat} {l : List Nat} {p : Nat × Nat} (j i : Nat) (h : l[j]? = some i) : go next wt p (l.take (j + 1)) = step next wt (go next wt p (l.take j)) i := by
  obtain ⟨hj, e⟩ := List.getElem?_eq_some_iff.1 h
  rw [List.take_succ_eq_append_getElem hj, go_append, e]
  rfl
/-- one that waits has waited one scan less before -/
theorem wtB_back {ask ans : Nat → Nat → Bool} {p : Nat × Nat} {i k : Nat} (h : wtB ask ans p i = k + 1) : p.2 = k ∧ ans p.1 i = false ∧ (k = 0 → ask p.1 i = true) := by
  unfold wtB at h
  split at h
  · omega
  · rename_i hn
    simp only [Bool.or_eq_true, Bool.and_eq_true, beq_iff_eq, Bool.not_eq_true', not_or, not_and] at hn
    obtain ⟨h1, h2⟩ := hn
    have hk : p.2 = k := by omega
    refine ⟨hk, by simpa using h1, fun h0 => ?_⟩
    have := h2 (by omega)
    simpa using this
/-- what an unanswered question looks like at its end -/
theorem Broke.ends {next : Nat → List Nat} {ask ans : Nat → Nat → Bool} {wt : Nat × Nat → Nat → Nat} {n : Nat} {l : List Nat} (hw : ∀ p i, i < (next p.1).length → wt p i = wtB ask ans p i) (hb : Broke next wt n l) : n < l.length ∧ (∀ (j i : Nat), l[j]? = some i → l.length ≤ j + n + 1 → ans (Rc.go next 0 (l.take j)) i = false) ∧ ∀ (j i : Nat), l[j]? = some i → l.length = j + n + 1 → ask (Rc.go next 0 (l.take j)) i = true := by
  have hin := hb.inr
  obtain ⟨m, x, rfl, h1, h2, h3⟩ := hb
  have hlen : (m ++ [x]).length = m.length + 1 := by simp
  -- each input is one
  have hin2 : ∀ (l : List Nat) (s : Nat), InR next s l → ∀ (j i : Nat), l[j]? = some i → i < (next (Rc.go next s (l.take j))).length := by
    intro l
    induction l with
    | nil => intro s _ j i h; simp at h
    | cons a l ih =>
      intro s hr j i h
      cases j with
      | zero => simp at h; subst h; exact hr.1
      | succ j => exact ih _ hr.2 j i (by simpa using h)
  have hst : ∀ (j i : Nat), (m ++ [x])[j]? = some i → (go next wt (0, 0) ((m ++ [x]).take (j + 1))).2 = wtB ask ans (go next wt (0, 0) ((m ++ [x]).take j)) i := fun j i h => by
    rw [go_take j i h]
    show wt _ i = _
    refine hw _ i ?_
    rw [go_fst]
    exact hin2 _ _ hin j i h
  have hlow : ∀ (l : List Nat) (p : Nat × Nat), p.2 ≤ n → Fine next wt n p l → (go next wt p l).2 ≤ n := by
    intro l
    induction l with
    | nil => intro p hp _; exact hp
    | cons a l ih => intro p hp hf; exact ih _ hf.2.1 hf.2.2
  have hx : (m ++ [x])[m.length]? = some x := by simp
  have hlast := hst m.length x hx
  have htm : (m ++ [x]).take m.length = m := by simp
  rw [htm] at hlast
  have hle := hlow m (0, 0) (Nat.zero_le _) h1
  have hwx : wt (go next wt (0, 0) m) x = wtB ask ans (go next wt (0, 0) m) x := hw _ _ h2
  have hub : ∀ p i, wtB ask ans p i ≤ p.2 + 1 := fun p i => by unfold wtB; split <;> omega
  have hend : (go next wt (0, 0) ((m ++ [x]).take (m.length + 1))).2 = n + 1 := by
    have := hub (go next wt (0, 0) m) x
    omega
  have key : ∀ t, t ≤ n → t ≤ m.length ∧ (go next wt (0, 0) ((m ++ [x]).take (m.length + 1 - t))).2 = n + 1 - t := by
    intro t
    induction t with
    | zero => intro _; exact ⟨Nat.zero_le _, hend⟩
    | succ t ih =>
      intro ht
      obtain ⟨h4, h5⟩ := ih (by omega)
      have hj : m.length - t < (m ++ [x]).length := by simp; omega
      have h6 := hst (m.length - t) _ (List.getElem?_eq_getElem hj)
      rw [show m.length - t + 1 = m.length + 1 - t by omega, h5] at h6
      have h7 := wtB_back (k := n - t) (by rw [← h6]; omega)
      have h8 : t + 1 ≤ m.length := by
        refine Classical.byContradiction fun hc => ?_
        have e : m.length - t = 0 := by omega
        have h9 := h7.1
        rw [e] at h9
        simp [go] at h9
        omega
      refine ⟨h8, ?_⟩
      rw [show m.length + 1 - (t + 1) = m.length - t by omega, h7.1]
      omega
  have key2 : ∀ (j i : Nat), (m ++ [x])[j]? = some i → (m ++ [x]).length ≤ j + n + 1 → ans (Rc.go next 0 ((m ++ [x]).take j)) i = false ∧ ((m ++ [x]).length = j + n + 1 → ask (Rc.go next 0 ((m ++ [x]).take j)) i = true) := fun j i hj hl => by
    have hjl := (List.getElem?_eq_some_iff.1 hj).1
    rw [hlen] at hjl hl
    obtain ⟨h4, h5⟩ := key (m.length - j) (by omega)
    rw [show m.length + 1 - (m.length - j) = j + 1 by omega] at h5
    have h6 := hst j i hj
    rw [h5] at h6
    have h7 := wtB_back (k := n - (m.length - j)) (by rw [← h6]; omega)
    rw [go_fst] at h7
    exact ⟨h7.2.1, fun e => h7.2.2 (by rw [hlen] at e; omega)⟩
  refine ⟨by rw [hlen]; have := (key n (Nat.le_refl _)).1; omega, fun j i hj hl => (key2 j i hj hl).1, fun j i hj hl => (key2 j i hj (by omega)).2 hl⟩
end Pr
end
end Go.Proofs.YtgblillplgdbaaaGreatDoor
