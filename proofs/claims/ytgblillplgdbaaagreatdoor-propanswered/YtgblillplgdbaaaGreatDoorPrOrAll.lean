/-
  The walk of the closure of the statement PropSound: what holds behind each scan that is played. What is answered within no scan holds always as an or: plain facts; and that or in memory.
-/
import Derived.Test.YtgblillplgdbaaaGreatDoorPrAnsAll
import Derived.Deep.RegionHeld3
namespace Go.Proofs.YtgblillplgdbaaaGreatDoor
section
open Go.RowKit
namespace Pr
/-- numbers as inputs -/
def picks (l : List Int) (I : Nat) : List Nat := l.map fun x => (x % 18446744073709551616 % (I : Int)).toNat
theorem picks_len (l : List Int) (I : Nat) : (picks l I).length = l.length := by simp [picks]
theorem picks_lt (l : List Int) (I : Nat) (h : 1 ≤ I) (i : Nat) (hi : i ∈ picks l I) : i < I := by
  unfold picks at hi
  obtain ⟨x, _, rfl⟩ := List.mem_map.1 hi
  have h1 := Int.emod_nonneg (x % 18446744073709551616) (show (I : Int) ≠ 0 by omega)
  have h2 := Int.emod_lt_of_pos (x % 18446744073709551616) (show (0 : Int) < (I : Int) by omega)
  omega
theorem picks_same (l : List Nat) (I : Nat) (hI : I ≤ 1000) (h : ∀ i, i ∈ l → i < I) : picks (l.map fun i : Nat => (i : Int)) I = l := by
  unfold picks
  rw [List.map_map]
  conv => rhs; rw [← List.map_id l]
  apply List.map_congr_left
  intro i hi
  have := h i hi
  show ((i : Int) % 18446744073709551616 % (I : Int)).toNat = i
  rw [Int.emod_eq_of_lt (by omega) (by omega), Int.emod_eq_of_lt (by omega) (by omega)]
  omega
end Pr
theorem drew_below {n : Nat} {w W : World} (h : Below n w W) : Below n w W.drew := ⟨h.os, h.tape, h.output, h.size, h.block⟩
theorem drewN_below {n : Nat} {w W : World} (k : Nat) (h : Below n w W) : Below n w (W.drewN k) := ⟨h.os, h.tape, h.output, h.size, h.block⟩
theorem ToldAt.drew {W : World} {nv : Value} {ra : Option Addr} {rk rc n : Nat} {is : List Bool} {a b gi : Nat} (h : ToldAt W nv ra rk rc n is a b gi) : ToldAt W.drew nv ra rk rc n is a b gi := ⟨h.prg, h.lst, h.row⟩
theorem ToldAt.below {W W' : World} {nv : Value} {ra : Option Addr} {rk rc n : Nat} {is : List Bool} {a b gi : Nat} (h : ToldAt W nv ra rk rc n is a b gi) (hb : Below W.heap.size W W') : ToldAt W' nv ra rk rc n is a b gi := by
  obtain ⟨l1, l2, l3⟩ := h.lt
  exact h.kept (hb.block _ l1) (hb.block _ l2) (hb.block _ l3)
theorem ToldAt.ktells {W : World} {nv : Value} {ra : Option Addr} {rk rc n : Nat} {is : List Bool} {a b gi : Nat} (h : ToldAt W nv ra rk rc n is a b gi) {ns : List Ld.Nme} (hn : NamesAt W nv ns) (hl : is.length = n) (hnn : n = ns.length) : E2.Tells (.func (.func 32) #[] #[.pointer (some ⟨a, 0, none⟩), .pointer (some ⟨b, 0, none⟩)]) (Sc.told ns is) W := by
  obtain ⟨a0, a1, _, _⟩ := two_cells h.prg
  refine ktells_told ns nv (.slice ra rk rc) is gi _ _ _ hn ⟨_, _, _, rfl⟩ (hl.trans hnn) a0 a1 ?_ h.row
  rw [Lib.cell_of_heap h.lst, hl]
  rfl
theorem kat_new (na : Option Addr) (nk nc : Nat) (ra : Option Addr) (rk rc : Nat) (W : World) (is : List Bool) (gi n : Nat) (hrow : RowIs W gi 4 (is.map boolV)) :
    Calls Tryz.prog 13 #[.agg #[.slice na nk nc, .slice ra rk rc], .slice (some ⟨gi, 0, none⟩) n n] W fun e w' => ∃ a b, e = .returned (.func (.func 32) #[] #[.pointer (some ⟨a, 0, none⟩), .pointer (some ⟨b, 0, none⟩)]) ∧ ToldAt w' (.slice na nk nc) ra rk rc n is a b gi ∧ Below W.heap.size W w' := by
  refine (ktold_any _ _ _ W ⟨_, _, _, rfl⟩ ⟨_, _, _, rfl⟩ ⟨_, _, _, rfl⟩).mono ?_
  rintro e w' ⟨rfl, rfl⟩
  exact ⟨_, _, rfl, told_made _ _ _ _ _ _ _ _ hrow, ((Below.refl _ W).alloc (Nat.le_refl _) _).alloc (by simp) _⟩
/-- a scan as the statements see it: what at tells of it, and what Eval says -/
structure SeeAt (w : World) (bm : Nat) (p : Ld.Prg) (na : Option Addr) (nk nc : Nat) (ra : Option Addr) (rk rc n S I : Nat) : Prop where
  prog : ∀ W, Below w.heap.size w W → W.cell? ⟨bm, 0, none⟩ = some (.slice na nk nc) ∧ W.cell? ⟨bm, 1, none⟩ = some (.slice ra rk rc)
  state : ∀ W (s : Nat), Below w.heap.size w W → s < S → Calls Tryz.prog 14 #[.pointer (some ⟨bm, 0, none⟩), .int .i64 (s : Int)] W fun e w' => ∃ gi gc, e = .returned (.agg #[.slice (some ⟨gi, 0, none⟩) n n, .slice (some ⟨gc, 0, none⟩) n n]) ∧ RowIs w' gi 4 ((Mc.state (Mc.parts p) s).is.map boolV) ∧ Below W.heap.size W w'
  sees : ∀ W (s i : Nat), Below w.heap.size w W → s < S → i < I → Calls Tryz.prog 11 #[.pointer (some ⟨bm, 0, none⟩), .int .i64 (s : Int), .int .i64 (i : Int)] W fun e w' => ∃ gb, e = .returned (.tuple #[.slice (some ⟨gb, 0, none⟩) n n, .nilIface]) ∧ RowIs w' gb 4 ((Mc.after1 p (Ld.kindL p.names 1).length s i).is.map boolV) ∧ Below W.heap.size W w'
  eval : ∀ (ok : Nat → Prop) (x : Ex) (v : Value), IsEx ok w x v → ∀ (W : World) (s i a b a2 b2 gb gi : Nat), Below w.heap.size w W → i < I → ToldAt W (.slice na nk nc) ra rk rc n (Mc.after1 p (Ld.kindL p.names 1).length s i).is a b gb → ToldAt W (.slice na nk nc) ra rk rc n (Mc.state (Mc.parts p) s).is a2 b2 gi → Calls Tryz.prog 12 #[v, .func (.func 32) #[] #[.pointer (some ⟨a, 0, none⟩), .pointer (some ⟨b, 0, none⟩)], .func (.func 32) #[] #[.pointer (some ⟨a2, 0, none⟩), .pointer (some ⟨b2, 0, none⟩)]] W fun e w' => e = .returned (.bool (Pr.good p x s i)) ∧ Below W.heap.size W w'
theorem IsMach.sees {w : World} {bm : Nat} {p : Ld.Prg} (hm : IsMach w bm p) (hck : Ld.check p = none) (hS : Mc.total (Mc.parts p) ≤ 4096) : ∃ na nk nc ra rk rc, SeeAt w bm p na nk nc ra rk rc p.names.length (Mc.total (Mc.parts p)) (2 ^ (Ld.kindL p.names 1).length) := by
  obtain ⟨na, nk, nc, ra, rk, rc, hmv⟩ := hm.view hck hS
  refine ⟨na, nk, nc, ra, rk, rc, fun W hW => ⟨(hmv.prog W hW).1, (hmv.prog W hW).2.1⟩, fun W s hW hs => ?_, fun W s i hW hs hi => ?_, fun ok x v hx W s i a b a2 b2 gb gi hW hi h1 h2 => ?_⟩
  · refine (hmv.state W s hW hs).mono ?_
    rintro e w' ⟨gi, gc, rfl, h1, h3, _, h2⟩
    rw [(hmv.lens s 0).1]
    exact ⟨gi, gc, rfl, h1.rowI, h2⟩
  · refine (hmv.sees W s i hW hs hi).mono ?_
    rintro e w' ⟨gb, rfl, h1, _, h2⟩
    exact ⟨gb, rfl, h1, h2⟩
  · have hn := (hmv.prog W hW).2.2
    exact E2.Eval_any (fun _ => True) x v _ _ _ _ W (IsEx.stay (Stay.below hW) (fun g _ => trivial) x v hx) (h1.ktells hn ((hmv.lens s i).2 hi) rfl) (h2.ktells hn (hmv.lens s i).1 rfl)
set_option maxHeartbeats 8000000 in
set_option maxRecDepth 100000 in
theorem play_any (ok : Nat → Prop) (bA bE bm : Nat) (p : Ld.Prg) (x : Ex) (v : Value) (l : List Int) (lv : Value) (w : World) (hA : w.cell? ⟨bA, 0, none⟩ = some (.pointer (some ⟨bm, 0, none⟩))) (hE : w.cell? ⟨bE, 0, none⟩ = some v) (hm : IsMach w bm p) (hck : Ld.check p = none) (hS : Mc.total (Mc.parts p) ≤ 4096) (hq : (Ld.kindL p.names 1).length ≤ 6) (hx : IsEx ok w x v) (hl : Ints w lv l) (hll : l.length ≤ 200000) :
    Calls Tryz.prog 9 #[lv, .pointer (some ⟨bA, 0, none⟩), .pointer (some ⟨bE, 0, none⟩)] w fun e w' => ∃ a c, e = .returned (.tuple #[.slice a l.length c, .bool true]) ∧ w'.ownsRow w.heap.size 4 1 (.slice a l.length c) l.length ((Pr.shown (Mc.nexts p) (Pr.good p x) 0 (Pr.picks l (2 ^ (Ld.kindL p.names 1).length))).map boolV) ∧ Below w.heap.size w w' := by
  obtain ⟨i0, hi0, hz0, hz1, hz2⟩ := info_parts Tryz.infoBool
  obtain ⟨na, nk, nc, ra, rk, rc, hsee⟩ := hm.sees hck hS
  obtain ⟨gN, uN, hna⟩ := hm.next
  obtain ⟨_, c3⟩ := hm.sizes
  have pn := fun w a => ptrNe w a
  have HSEE := hide hsee
  have HEV := hide (hsee.eval ok x v hx)
  have HNA := hide hna
  have hI1 : 1 ≤ 2 ^ (Ld.kindL p.names 1).length := Nat.pow_pos (by decide)
  have hI6 : 2 ^ (Ld.kindL p.names 1).length ≤ 64 := Nat.pow_le_pow_right (n := 2) (by decide) hq
  have hS1 := Mc.total_pos (Mc.parts p) (Mc.parts_ok p)
  have HNL := hide (fun s => Mc.nexts_len p s)
  have HNX : Hid (∀ f s, s ∈ Mc.nexts p f → s < Mc.total (Mc.parts p)) := fun f s hs => Mc.nexts_lt p hck f s hs
  obtain ⟨tu, yu, rfl⟩ := IsEx.iface x v hx
  clear hm hck hq hx hna hsee
  generalize p.names.length = n at *
  generalize Mc.total (Mc.parts p) = S at *
  generalize 2 ^ (Ld.kindL p.names 1).length = I at *
  obtain ⟨pk, hpk⟩ : ∃ pk, pk = Pr.picks l I := ⟨_, rfl⟩
  have HPK := hide hpk
  rw [← hpk]
  have hpl : pk.length = l.length := by rw [hpk, Pr.picks_len]
  have HPL := hide hpl
  clear hpk hpl
  have HKP : Hid (∀ W, Below w.heap.size w W → W.cell? ⟨bA, 0, none⟩ = some (.pointer (some ⟨bm, 0, none⟩)) ∧ W.cell? ⟨bE, 0, none⟩ = some (.iface tu yu) ∧ W.cell? ⟨bm, 0, none⟩ = some (.slice na nk nc) ∧ W.cell? ⟨bm, 1, none⟩ = some (.slice ra rk rc)) := fun W hW => ⟨(hW.cell (World.block_lt_of_cell? _ _ hA)).trans hA, (hW.cell (World.block_lt_of_cell? _ _ hE)).trans hE, HSEE.out.prog W hW⟩
  have HK3 : Hid (∀ W, Below w.heap.size w W → W.cell? ⟨bm, 3, none⟩ = some (.int .i64 (I : Int))) := fun W hW => (hW.cell (World.block_lt_of_cell? _ _ c3)).trans c3
  have HLV := hide hl
  obtain ⟨la, lc, rfl⟩ := hl.slice
  have hgoS : ∀ j, Rc.go (Mc.nexts p) 0 (pk.take j) < S := by
    have key : ∀ (l : List Nat) (s : Nat), s < S → (∀ i, i ∈ l → i < I) → Rc.go (Mc.nexts p) s l < S := by
      intro l
      induction l with
      | nil => intro s hs _; exact hs
      | cons i l ih =>
        intro s hs hi
        refine ih _ (HNX.out s _ ?_) (fun j hj => hi j (by simp [hj]))
        have hil : i < (Mc.nexts p s).length := by rw [HNL.out]; exact hi i (by simp)
        rw [List.getD_eq_getElem?_getD, List.getElem?_eq_getElem hil]
        exact List.getElem_mem hil
    intro j
    refine key _ 0 hS1 (fun i hi => Pr.picks_lt l I hI1 i ?_)
    rw [← HPK.out]
    exact List.mem_of_mem_take hi
  have HGO := hide hgoS
  obtain ⟨N, hN⟩ : ∃ N, N = l.length := ⟨_, rfl⟩
  rw [← hN] at HPL hll ⊢
  have HN := hide hN
  clear hA hE hl hgoS c3 hN
  go_enter Tryz.func9, Tryz.ntmps9
  go_wp2_with fail
  go_loopw [6, 7, 8] (fun sv ov iv wr => ∃ (j : Nat) (a : Option Addr) (c : Nat), j ≤ N ∧ iv = .int .i64 (j : Int) ∧ sv = .int .i64 (Rc.go (Mc.nexts p) 0 (pk.take j) : Int) ∧ ov = .slice a j c ∧ Hid (wr.ownsRow w.heap.size 4 1 (.slice a j c) j ((Pr.shown (Mc.nexts p) (Pr.good p x) 0 (pk.take j)).map boolV)) ∧ Hid (Below w.heap.size w wr)) (fun _ _ iv _ => N - (intOf iv).toNat)
  case atStart => exact ⟨0, none, 0, Nat.zero_le _, rfl, rfl, rfl, World.ownsRow_nil _ _ _ _, Below.refl _ _⟩
  case round =>
    obtain ⟨j, oa, oc, hj, rfl, rfl, rfl, HO, HB⟩ := hrel
    by_cases hlt : j < N
    · have hjl : j < l.length := by rw [← HN.out]; exact hlt
      have hjk : j < pk.length := by rw [HPL.out]; exact hlt
      obtain ⟨g1, o1, hla, d1⟩ := (HLV.out.below HB.out).cell j _ (List.getElem?_eq_getElem hjl)
      subst hla
      have hpkj : pk[j]? = some (l[j] % 18446744073709551616 % (I : Int)).toNat := by rw [HPK.out]; unfold Pr.picks; rw [List.getElem?_map, List.getElem?_eq_getElem hjl]; rfl
      have hti := Pr.picks_lt l I hI1 _ (by rw [← HPK.out]; exact List.mem_of_getElem? hpkj)
      obtain ⟨t, ht⟩ : ∃ t : Nat, (t : Int) = l[j] % 18446744073709551616 % (I : Int) := ⟨(l[j] % 18446744073709551616 % (I : Int)).toNat, by have := Int.emod_nonneg (l[j] % 18446744073709551616) (show (I : Int) ≠ 0 by omega); omega⟩
      rw [← ht, show ((t : Int)).toNat = t by omega] at hpkj hti
      have HPC : Hid (∀ W, Calls Tryz.prog 10 #[.int .i64 l[j], .int .i64 (I : Int)] W fun e w' => e = .returned (.int .i64 (t : Int)) ∧ w' = W) := fun W => by rw [ht]; exact pick_any l[j] I W hI1 (by omega)
      obtain ⟨s, hs⟩ : ∃ s, s = Rc.go (Mc.nexts p) 0 (pk.take j) := ⟨_, rfl⟩
      have hsS : s < S := by rw [hs]; exact HGO.out j
      have hstep : Rc.go (Mc.nexts p) 0 (pk.take (j + 1)) = (Mc.nexts p s).getD t 0 := by
        obtain ⟨_, e⟩ := List.getElem?_eq_some_iff.1 hpkj
        rw [List.take_succ_eq_append_getElem hjk, Rc.go_snoc, e, hs]
      have hshow : Pr.shown (Mc.nexts p) (Pr.good p x) 0 (pk.take (j + 1)) = Pr.shown (Mc.nexts p) (Pr.good p x) 0 (pk.take j) ++ [Pr.good p x s t] := by
        obtain ⟨_, e⟩ := List.getElem?_eq_some_iff.1 hpkj
        rw [List.take_succ_eq_append_getElem hjk, Pr.shown_snoc, e, hs]
      obtain ⟨xs, hxs⟩ : ∃ xs, xs = (Pr.shown (Mc.nexts p) (Pr.good p x) 0 (pk.take j)).map boolV := ⟨_, rfl⟩
      rw [← hs]
      rw [← hxs] at HO
      have HSTEP := hide hstep
      have HSHOW : Hid ((Pr.shown (Mc.nexts p) (Pr.good p x) 0 (pk.take (j + 1))).map boolV = xs ++ [.bool (Pr.good p x s t)]) := by
        show _ = _
        rw [hshow, List.map_append, ← hxs]; rfl
      obtain ⟨kA, _, _, _⟩ := HKP.out wr HB.out
      have k3 := HK3.out wr HB.out
      have hii : (j : Int) < (N : Int) := by omega
      clear ht hs hstep hshow hxs hpkj hjk
      generalize l[j] = lx at *
      go_wp2_with fail
      go_quiet (first | (go_at_call 10; refine Calls.quiet_of_same (HPC.out _)))
      obtain ⟨wq, hwq⟩ : ∃ wq, wq = wr.drewN nq := ⟨_, rfl⟩
      rw [← hwq]
      have HBQ : Hid (Below w.heap.size w wq) := by rw [hwq]; exact drewN_below _ HB.out
      have HOQ : Hid (wq.ownsRow w.heap.size 4 1 (.slice oa j oc) j xs) := by rw [hwq]; exact own_below HO.out (drewN_below _ (Below.refl _ _))
      obtain ⟨qA, _, _, _⟩ := HKP.out wq HBQ.out
      have HSE := hide (HSEE.out.sees wq s t HBQ.out hsS hti)
      clear hwq HO HB kA k3 d1 HPC
      go_wp2_with fail
      refine HSE.out.mono ?_
      rintro e wE ⟨gb, rfl, hrE, hbE⟩
      have HRE := hide hrE
      have HBE := hide (HBQ.out.trans (hbE.mono HBQ.out.size))
      have HOE := hide (own_below HOQ.out hbE)
      have HKE := hide (HKP.out wE HBE.out)
      clear hrE hbE HSE HOQ qA
      have hONE : ∀ u ∈ [Value.bool (Pr.good p x s t)], u.oneCell' = true := by
        intro u hu
        simp only [List.mem_cons, List.not_mem_nil, or_false] at hu
        subst hu; rfl
      have HONE := hide hONE
      clear hONE
      have HRD : Hid (RowIs wE.drew gb 4 ((Mc.after1 p (Ld.kindL p.names 1).length s t).is.map boolV)) := HRE.out
      have HBD := hide (drew_below HBE.out)
      have HOD : Hid (wE.drew.ownsRow w.heap.size 4 1 (.slice oa j oc) j xs) := own_below HOE.out (drew_below (Below.refl _ _))
      go_upto_region 10 with fail
      go_region_held3 (fun W => W.cell? ⟨bA, 0, none⟩ = some (.pointer (some ⟨bm, 0, none⟩)) ∧ W.cell? ⟨bE, 0, none⟩ = some (.iface tu yu) ∧ W.cell? ⟨bm, 0, none⟩ = some (.slice na nk nc) ∧ W.cell? ⟨bm, 1, none⟩ = some (.slice ra rk rc)) ((refine HKP.out _ ?_; repeat (first | exact HBE.out | exact HB7.out | exact HB6.out | exact HB8.out | exact HB9.out | exact HBC.out | refine drew_below ?_ | refine Below.alloc ?_ (by first | exact HB9.out.size) _))) ((first
        | (go_at_call 13; (with_reducible refine (kat_new _ _ _ _ _ _ _ _ gb n HRD.out).mono ?_); rintro e w7 ⟨a7, b7, rfl, ht7, hb7⟩; have HB7 := hide (HBD.out.trans (hb7.mono HBD.out.size)); have HB7E := hide hb7; have HT7 := hide ht7; clear ht7 hb7)
        | (go_at_call 14; (with_reducible refine (HSEE.out.state _ s HB7.out hsS).mono ?_); rintro e w6 ⟨gi, gc, rfl, hr6, hb6⟩; have HB6 := hide (HB7.out.trans (hb6.mono HB7.out.size)); have HB6E := hide hb6; have HR6 := hide hr6; clear hr6 hb6)
        | (go_at_call 13; (with_reducible refine (kat_new _ _ _ _ _ _ _ _ gi n HR6.out).mono ?_); rintro e w8 ⟨a8, b8, rfl, ht8, hb8⟩; have HB8 := hide (HB6.out.trans (hb8.mono HB6.out.size)); have HB8E := hide hb8; have HT8 := hide ht8; clear ht8 hb8)
        | (go_at_call 12; (with_reducible refine (HEV.out _ s t _ _ _ _ _ _ HB8.out hti ((HT7.out.below HB6E.out).below HB8E.out) HT8.out).mono ?_); rintro e w9 ⟨rfl, hb9⟩; have HB9 := hide (HB8.out.trans (hb9.mono HB8.out.size)); have HO9 := hide (own_below (own_below (own_below (own_below HOD.out HB7E.out) HB6E.out) HB8E.out) hb9); clear hb9)
        | (refine step_append_lies _ rfl (.tmp 36) (.tmp 54) 35 rfl w.heap.size 4 i0 _ 1 1 Tryz.underlying35 hi0 hz0 hz1 hz2 rfl (by decide) (.slice oa j oc) j xs rfl (HO9.out.alloc _) ⟨w9.heap.size, 0, none⟩ 1 1 [.bool (Pr.good p x s t)] rfl rfl (World.news_of_block (heap_alloc_new w9 _)) HONE.out (by decide) (by unfold maxLen; omega) (by omega) (by have := HB9.out.size; simp; omega) (w9.heap.size + 1) (by simp) ?_; intro g2 cap2 wC hown hgrow hat hltg; have HBC := hide ((HB9.out.alloc HB9.out.size _).grown hgrow (by have := HB9.out.size; simp; omega) (fun b e => (HO9.out.lt b e).1)); have HOC := hide hown; clear hown hgrow hat)))
      obtain ⟨q1, _, _, _⟩ := HKP.out wC HBC.out
      have hnaC := HNA.out.below HBC.out
      have htl : t < (Mc.nexts p s).length := by rw [HNL.out]; exact hti
      have hx2 : (Mc.nexts p s)[t]? = some (Rc.go (Mc.nexts p) 0 (pk.take (j + 1))) := by rw [HSTEP.out, List.getElem?_eq_getElem htl]; simp [htl]
      obtain ⟨bN, hbN⟩ : ∃ b, uN[s]? = some b := ⟨_, List.getElem?_eq_getElem (by rw [hnaC.2.1]; exact hsS)⟩
      have t0 := hnaC.1
      obtain ⟨t1, t2⟩ := hnaC.2.2 s bN hbN
      have t3 := t2 _ _ hx2
      have hsi : (s : Int) < (S : Int) := by omega
      have htI : (t : Int) < (I : Int) := by omega
      have hgj := HGO.out (j + 1)
      obtain ⟨s2, hs2⟩ : ∃ s2, s2 = Rc.go (Mc.nexts p) 0 (pk.take (j + 1)) := ⟨_, rfl⟩
      rw [← hs2] at t3 hgj
      have HS2 := hide hs2
      clear hnaC htl hx2 hbN t2 hs2 HSTEP
      go_wp2_with fail
      refine ⟨⟨j + 1, some ⟨g2, 0, none⟩, cap2, by omega, by go_num, by rw [HS2.out], rfl, ?_, HBC.out⟩, by simp [intOf]; omega⟩
      show World.ownsRow _ _ _ _ _ _ _
      rw [HSHOW.out]
      exact HOC.out
    · have hjN : j = N := by omega
      subst hjN
      have htk : pk.take j = pk := List.take_of_length_le (by rw [HPL.out]; exact Nat.le_refl _)
      rw [htk] at HO
      go_wp2_with fail
      refine bodyPost_ret (results_tmp2 rfl _ _ _) rfl ?_
      exact ⟨oa, oc, rfl, HO.out, HB.out⟩
end
section
open Go.RowKit
/-- !x | y -/
def prO (x y : Ex) : Ex := ⟨7, [], [⟨5, [], [x]⟩, y]⟩
theorem prO_eval (x y : Ex) (is was : List UInt8 → Bool) : (prO x y).eval is was = (!x.eval is was || y.eval is was) := by simp [prO, Ex.eval]
theorem prO_size (x y : Ex) : (prO x y).size = 2 + x.size + y.size := by simp [prO, Ex.size]; omega
theorem prO_named (x y : Ex) : (prO x y).named true = x.named true ++ y.named true := by simp [prO, Ex.named]
theorem prO_has (ns : List Ld.Nme) (x y : Ex) (hx : Pr.has ns x = true) (hy : Pr.has ns y = true) : Pr.has ns (prO x y) = true := by
  refine Pr.has_of fun s hs => ?_
  rw [prO_named] at hs
  rcases List.mem_append.1 hs with h | h
  · exact Pr.has_iff.1 hx s h
  · exact Pr.has_iff.1 hy s h
theorem prO_good (p : Ld.Prg) (x y : Ex) (s i : Nat) : Pr.good p (prO x y) s i = (!Pr.good p x s i || Pr.good p y s i) := by
  unfold Pr.good
  rw [prO_eval]
theorem goodRow_getD (p : Ld.Prg) (x : Ex) (I s i : Nat) (hi : i < I) : (Pr.goodRow p x I s).getD i false = Pr.good p x s i := by
  rw [List.getD_eq_getElem?_getD, Pr.goodRow_at p x I s i hi]; rfl
theorem wtA_eq (p : Ld.Prg) (x y : Ex) (I : Nat) (q : Nat × Nat) (i : Nat) (hi : i < I) : Pr.wtA (Pr.goodRow p x I) (Pr.goodRow p y I) q i = Pr.wtB (Pr.good p x) (Pr.good p y) q i := by
  unfold Pr.wtA Pr.wtB Pr.waits
  rw [goodRow_getD p x I q.1 i hi, goodRow_getD p y I q.1 i hi]
theorem wtA_or (p : Ld.Prg) (x y : Ex) (I s i : Nat) (hi : i < I) : Pr.wtA (Pr.goodRow p x I) (Pr.goodRow p y I) (s, 0) i = Pr.wtC (Pr.goodRow p (prO x y) I) (s, 0) i := by
  rw [wtA_eq p x y I _ i hi, Pr.wtC_eq p _ I _ i hi, prO_good]
  unfold Pr.wtB
  dsimp only
  cases Pr.good p x s i <;> cases Pr.good p y s i <;> rfl
/-- what Check and Answers come to, as one reads it -/
theorem SaidT.form {w w' : World} {next : Nat → List Nat} {wt : Nat × Nat → Nat → Nat} {most : Nat} {e : Ending} (h : SaidT w next wt most e w') : ∃ b a n c, e = .returned (.tuple #[.bool b, .slice a n c, .nilIface]) ∧ (b = true → Pr.Held next wt most) ∧ (b = false → ∃ l, Pr.Broke next wt most l) := by
  rcases h with ⟨rfl, h⟩ | ⟨l, g, c, rfl, h, _⟩
  · exact ⟨true, none, 0, 0, rfl, fun _ => h, (fun e => by cases e)⟩
  · exact ⟨false, _, _, _, rfl, (fun e => by cases e), fun _ => ⟨l, h⟩⟩
theorem SaidT.form2 {w w' : World} {next : Nat → List Nat} {wt : Nat × Nat → Nat → Nat} {most : Nat} {e : Ending} (h : SaidT w next wt most e w') : ∃ b a m c, e = .returned (.tuple #[.bool b, .slice a m c, .nilIface]) ∧ ((b = true ∧ m = 0 ∧ Pr.Held next wt most) ∨ (b = false ∧ ∃ l g, a = some ⟨g, 0, none⟩ ∧ m = l.length ∧ Pr.Broke next wt most l ∧ w'.ownsRow w.heap.size 3 1 (.slice (some ⟨g, 0, none⟩) l.length c) l.length (l.map natV) ∧ l.length ≤ 100001)) := by
  rcases h with ⟨rfl, h⟩ | ⟨l, g, c, rfl, h, _, h2, h3⟩
  · exact ⟨true, none, 0, 0, rfl, .inl ⟨rfl, rfl, h⟩⟩
  · exact ⟨false, _, _, _, rfl, .inr ⟨rfl, l, g, rfl, rfl, h, h2, h3⟩⟩
theorem now_or {next : Nat → List Nat} {wt wt' : Nat × Nat → Nat → Nat} (h : ∀ s i, i < (next s).length → wt (s, 0) i = wt' (s, 0) i) {b b' : Bool} (h1 : b = true → Pr.Held next wt 0) (h2 : b = false → ∃ l, Pr.Broke next wt 0 l) (h1' : b' = true → Pr.Held next wt' 0) (h2' : b' = false → ∃ l, Pr.Broke next wt' 0 l) : b' = b := by
  cases b <;> cases b'
  · rfl
  · obtain ⟨l, hl⟩ := h2 rfl
    exact ((hl.same h).not (Nat.le_refl _) (h1' rfl)).elim
  · obtain ⟨l, hl⟩ := h2' rfl
    exact ((hl.same (fun s i hi => (h s i hi).symm)).not (Nat.le_refl _) (h1 rfl)).elim
  · rfl
/-- what Parse comes to, as one reads it -/
theorem Parsed.form {w w' : World} {r : (Nat × Option Nat) ⊕ Ex} {e : Ending} (h : Parsed w r e w') : Below w.heap.size w w' ∧ ((∃ x t y, r = .inr x ∧ e = .returned (.tuple #[.iface t y, .nilIface]) ∧ IsEx (fun g => w.heap.size ≤ g) w' x (.iface t y)) ∨ ∃ t y, e = .returned (.tuple #[.nilIface, .iface t y])) := by
  obtain ⟨h1, h2⟩ := h
  refine ⟨h1, ?_⟩
  match r, h2 with
  | .inl (err, none), h2 => exact .inr ⟨_, _, h2⟩
  | .inl (err, some pl), h2 =>
    obtain ⟨v, rfl, a, _, rfl, _⟩ := h2
    exact .inr ⟨_, _, rfl⟩
  | .inr x, h2 =>
    obtain ⟨v, rfl, hx⟩ := h2
    obtain ⟨t, y, rfl⟩ := IsEx.iface _ v hx
    exact .inl ⟨x, t, y, rfl, rfl, hx⟩
theorem or_is {ok ok' : Nat → Prop} {w : World} {x y : Ex} {u v : Value} (hx : IsEx ok w x u) (hy : IsEx ok' w y v) : IsEx (fun _ => True) (w.alloc (.cells #[.iface 59 (.agg #[u]), v] 28)) (prO x y) (.iface 61 (.slice (some ⟨w.heap.size, 0, none⟩) 2 2)) := by
  obtain ⟨w', hw'⟩ : ∃ w', w' = w.alloc (.cells #[.iface 59 (.agg #[u]), v] 28) := ⟨_, rfl⟩
  have hb : Below w.heap.size w w' := by rw [hw']; exact (Below.refl _ _).alloc (Nat.le_refl _) _
  have hX : IsEx (fun _ => True) w' x u := IsEx.stay (Stay.below hb) (fun g _ => trivial) x u hx
  have hY : IsEx (fun _ => True) w' y v := IsEx.stay (Stay.below hb) (fun g _ => trivial) y v hy
  have c0 : w'.cell? ⟨w.heap.size, 0, none⟩ = some (.iface 59 (.agg #[u])) := by rw [hw']; exact Lib.cell_of_heap (heap_alloc_new w _) 0
  have c1 : w'.cell? ⟨w.heap.size, 1, none⟩ = some v := by rw [hw']; exact Lib.cell_of_heap (heap_alloc_new w _) 1
  rw [← hw']
  unfold prO
  rw [IsEx]
  have hN : IsEx (fun _ => True) w' ⟨5, [], [x]⟩ (.iface 59 (.agg #[u])) := by
    rw [IsEx]
    exact ⟨rfl, rfl, u, rfl, fun P hP => by simp at hP; subst hP; exact hX⟩
  refine ⟨rfl, by simp, by simp, w.heap.size, 2, rfl, Nat.le_refl _, trivial, fun i P hP => ?_⟩
  match i, hP with
  | 0, hP => simp only [List.map_cons, List.getElem?_cons_zero, Option.some.injEq] at hP; subst hP; exact ⟨_, c0, hN⟩
  | 1, hP => simp only [List.map_cons, List.getElem?_cons_succ, List.getElem?_cons_zero, Option.some.injEq] at hP; subst hP; exact ⟨_, c1, hY⟩
  | i + 2, hP => simp at hP
end
end Go.Proofs.YtgblillplgdbaaaGreatDoor
