/-
  The document's Start, and the closures by which its Step asks what names are, and were; what stands while two maps turn. The walk of the document's Number of a state. How great a machine is, in plain words: parts multiplied one by one. A block of two cells, read. The walk of slices.Clone at names. (Out of McCopied.) Rows in memory that are filled cell by cell, and what 'make' lays; the walks of package machine's toBools, fromBools and told. The walk of Edges: the names of which an expression asks what they were, in order of bytes, each once.
-/
import Derived.Test.YtgldbliohpfljaaGreatDoorRwEvalAll
import Derived.Test.YtgldbliohpfljaaGreatDoorNaNamesAll
import Derived.Test.YtgldbliohpfljaaGreatDoorRlEdgesAll
import Derived.Test.YtgldbliohpfljaaGreatDoorRows
import Derived.WalkKit
import Derived.Lib.Builder
import Derived.Test.YtgldbliohpfljaaGreatDoorLdCheckAll
import Derived.Test.YtgldbliohpfljaaGreatDoorRlStayAll
import Derived.Test.YtgldbliohpfljaaGreatDoorRdListAll
import Derived.Laws.MakeOwn
namespace Go.Proofs.YtgldbliohpfljaaGreatDoor
section
namespace Rf
open Go.RowKit Go.Maps
theorem then_ {a b c : World} (h : Below a.heap.size a b) (k : Below b.heap.size b c) : Below a.heap.size a c := h.trans (k.mono h.size)
/-- a state of the document's: its two maps -/
def StIs (W : World) (v : Value) (n : Nat) (st : St) : Prop := ∃ b1 b2, v = .agg #[.map (some b1), .map (some b2)] ∧ BM W b1 n st.is ∧ IM W b2 n st.ct ∧ ∀ s, -9223372036854775808 ≤ st.ct s ∧ st.ct s ≤ 9223372036854775807
theorem StIs.below {W W' : World} {v : Value} {n : Nat} {st : St} (h : StIs W v n st) (hb : Below W.heap.size W W') : StIs W' v n st := by
  obtain ⟨b1, b2, h1, h2, h3, h4⟩ := h
  exact ⟨b1, b2, h1, h2.below hb, h3.below hb, h4⟩
theorem StIs.more {W : World} {v : Value} {n n' : Nat} {st : St} (h : StIs W v n st) (hn : n ≤ n') : StIs W v n' st := by
  obtain ⟨b1, b2, h1, h2, h3, h4⟩ := h
  exact ⟨b1, b2, h1, h2.more hn, h3.more hn, h4⟩
theorem om_below {W W' : World} {ty : TypeId} {pe : Value → Option (DataW Unit × List MemPlace)} {b n : Nat} {D : DataW Unit} (h : W.ownsMap Tryz.prog ty pe b n D) (hb : Below W.heap.size W W') : W'.ownsMap Tryz.prog ty pe b n D := by
  have hl := h.lt
  obtain ⟨es, clock, h1, h2⟩ := h
  exact ⟨es, clock, (hb.block b hl).trans h1, h2⟩
theorem om_block {W W' : World} {ty : TypeId} {pe : Value → Option (DataW Unit × List MemPlace)} {b n : Nat} {D : DataW Unit} (h : W.ownsMap Tryz.prog ty pe b n D) (hb : W'.heap[b]? = W.heap[b]?) : W'.ownsMap Tryz.prog ty pe b n D := by
  obtain ⟨es, clock, h1, h2⟩ := h
  exact ⟨es, clock, hb.trans h1, h2⟩
/-- a map is no row of cells -/
theorem BM.obj {W : World} {b n : Nat} {f : List UInt8 → Bool} (h : BM W b n f) : ∃ es clock, W.heap[b]? = some (.map es clock) := by
  obtain ⟨D, ⟨es, clock, h1, _⟩, _⟩ := h
  exact ⟨es, clock, h1⟩
theorem IM.obj {W : World} {b n : Nat} {f : List UInt8 → Int} (h : IM W b n f) : ∃ es clock, W.heap[b]? = some (.map es clock) := by
  obtain ⟨D, ⟨es, clock, h1, _⟩, _⟩ := h
  exact ⟨es, clock, h1⟩
/-- two blocks may turn: all else stands -/
structure Fr (a b : Nat) (W W' : World) : Prop where
  os : W'.os = W.os
  tape : W'.tape = W.tape
  output : W'.output = W.output
  size : W.heap.size ≤ W'.heap.size
  block : ∀ k, k < W.heap.size → k ≠ a → k ≠ b → W'.heap[k]? = W.heap[k]?
theorem Fr.refl (a b : Nat) (W : World) : Fr a b W W := ⟨rfl, rfl, rfl, Nat.le_refl _, fun _ _ _ _ => rfl⟩
theorem Fr.trans {a b : Nat} {A B C : World} (h : Fr a b A B) (k : Fr a b B C) : Fr a b A C :=
  ⟨k.os.trans h.os, k.tape.trans h.tape, k.output.trans h.output, Nat.le_trans h.size k.size, fun i hi h1 h2 => (k.block i (Nat.lt_of_lt_of_le hi h.size) h1 h2).trans (h.block i hi h1 h2)⟩
theorem Fr.of_below {a b : Nat} {A B : World} (h : Below A.heap.size A B) : Fr a b A B := ⟨h.os, h.tape, h.output, h.size, fun i hi _ _ => h.block i hi⟩
theorem Fr.turned1 {a b : Nat} {A B : World} (h : A.mapTurned B a) : Fr a b A B := by
  obtain ⟨h1, h2, h3, h4, h5⟩ := turned_two h
  exact ⟨h1, h2, h3, by rw [h4]; exact Nat.le_refl _, fun i _ h6 _ => h5 i h6⟩
theorem Fr.turned2 {a b : Nat} {A B : World} (h : A.mapTurned B b) : Fr a b A B := by
  obtain ⟨h1, h2, h3, h4, h5⟩ := turned_two h
  exact ⟨h1, h2, h3, by rw [h4]; exact Nat.le_refl _, fun i _ _ h6 => h5 i h6⟩
theorem Fr.below {a b q : Nat} {A B : World} (h : Fr a b A B) (hq : q ≤ A.heap.size) (ha : q ≤ a) (hb : q ≤ b) : Below q A B := ⟨h.os, h.tape, h.output, h.size, fun i hi => h.block i (by omega) (by omega) (by omega)⟩
theorem map_nocell {W : World} {b : Nat} {es : Array MapEntry} {clock : Nat} (h : W.heap[b]? = some (.map es clock)) (i : Nat) (v : Value) : W.cell? ⟨b, i, none⟩ ≠ some v := by
  simp [World.cell?, h]
/-- cells stand -/
theorem Fr.cell {a b : Nat} {A B : World} (h : Fr a b A B) {e1 e2 : Array MapEntry} {c1 c2 : Nat} (ha : A.heap[a]? = some (.map e1 c1)) (hb : A.heap[b]? = some (.map e2 c2)) {g i : Nat} {v : Value} (hc : A.cell? ⟨g, i, none⟩ = some v) : B.cell? ⟨g, i, none⟩ = some v := by
  have n1 : g ≠ a := fun e => by subst e; exact map_nocell ha i v hc
  have n2 : g ≠ b := fun e => by subst e; exact map_nocell hb i v hc
  rw [World.cell?_of_block (h.block g (World.block_lt_of_cell? _ _ hc) n1 n2)]
  exact hc
theorem Fr.bm {a b c n : Nat} {A B : World} {f : List UInt8 → Bool} (h : Fr a b A B) (hm : BM A c n f) (h1 : c ≠ a) (h2 : c ≠ b) : BM B c n f := hm.kept (h.block c hm.lt h1 h2)
theorem Fr.im {a b c n : Nat} {A B : World} {f : List UInt8 → Int} (h : Fr a b A B) (hm : IM A c n f) (h1 : c ≠ a) (h2 : c ≠ b) : IM B c n f := hm.kept (h.block c hm.lt h1 h2)
set_option maxHeartbeats 2000000 in
set_option maxRecDepth 100000 in
theorem Start_any (w : World) : Calls Tryz.prog 97 #[] w fun e w' => Below w.heap.size w w' ∧ ∃ b1 b2, e = .returned (.agg #[.map (some b1), .map (some b2)]) ∧ w.heap.size ≤ b1 ∧ w.heap.size ≤ b2 ∧ b1 ≠ b2 ∧ w'.ownsMap Tryz.prog 9 (plainElem Tryz.prog 4) b1 0 (.map [] : DataW Unit) ∧ w'.ownsMap Tryz.prog 9 (plainElem Tryz.prog 3) b2 0 (.map [] : DataW Unit) := by
  have hmm := @run_makeMap Tryz.prog
  go_enter Tryz.func97, Tryz.ntmps97
  go_wp2_with fail
  obtain ⟨wA, hwA⟩ : ∃ wA, wA = w.alloc (.cells #[.map (some (w.heap.size + 1)), .map (some (w.heap.size + 1 + 1))] 123) := ⟨_, rfl⟩
  obtain ⟨wB, hwB⟩ : ∃ wB, wB = wA.alloc (.map #[] 0) := ⟨_, rfl⟩
  obtain ⟨wC, hwC⟩ : ∃ wC, wC = wB.alloc (.map #[] 0) := ⟨_, rfl⟩
  have zA : wA.heap.size = w.heap.size + 1 := by rw [hwA]; simp
  have zB : wB.heap.size = w.heap.size + 1 + 1 := by rw [hwB]; simp [zA]
  have bA : Below w.heap.size w wA := by rw [hwA]; exact (Below.refl _ _).alloc (Nat.le_refl _) _
  have bB : Below wA.heap.size wA wB := by rw [hwB]; exact (Below.refl _ _).alloc (Nat.le_refl _) _
  have bC : Below wB.heap.size wB wC := by rw [hwC]; exact (Below.refl _ _).alloc (Nat.le_refl _) _
  have hb : Below w.heap.size w wC := then_ bA (then_ bB bC)
  have h0 : wC.heap[w.heap.size]? = some (.cells #[.map (some (w.heap.size + 1)), .map (some (w.heap.size + 1 + 1))] 123 (0, 0)) := by
    rw [(then_ bB bC).block _ (by omega), hwA]; exact heap_alloc_new _ _
  have z0 : wC.cell? ⟨w.heap.size, 0, none⟩ = some (.map (some (w.heap.size + 1))) := by rw [Lib.cell_of_heap h0]; rfl
  have z1 : wC.cell? ⟨w.heap.size, 1, none⟩ = some (.map (some (w.heap.size + 1 + 1))) := by rw [Lib.cell_of_heap h0]; rfl
  have m1 : wC.ownsMap Tryz.prog 9 (plainElem Tryz.prog 4) (w.heap.size + 1) 0 (.map [] : DataW Unit) := by
    rw [hwC]
    refine World.ownsMap.alloc ?_ _
    have h := World.ownsMap_made (H := Unit) wA Tryz.prog 9 (plainElem Tryz.prog 4)
    rw [zA, ← hwB] at h
    exact h
  have m2 : wC.ownsMap Tryz.prog 9 (plainElem Tryz.prog 3) (w.heap.size + 1 + 1) 0 (.map [] : DataW Unit) := by
    have h := World.ownsMap_made (H := Unit) wB Tryz.prog 9 (plainElem Tryz.prog 3)
    rw [zB, ← hwC] at h
    exact h
  rw [← hwA, ← hwB, ← hwC]
  refine bodyPost_ret_by (v := .agg #[.map (some (w.heap.size + 1)), .map (some (w.heap.size + 1 + 1))]) ?_ rfl ⟨hb, _, _, rfl, by omega, by omega, by omega, m1, m2⟩
  simp [results, Tryz.results97, go_sem, z0, z1]
/-- what names are, or were: the closure over a state's box -/
theorem ask_any (K : Nat) (hK : K = 98 ∨ K = 99) (g b1 n : Nat) (f : List UInt8 → Bool) (w : World) (hc : w.cell? ⟨g, 0, none⟩ = some (.map (some b1))) (hm : BM w b1 n f) (nm : List UInt8) (hn : nm.length ≤ maxLen) :
    Calls Tryz.prog K #[.string ⟨nm.toArray⟩, .pointer (some ⟨g, 0, none⟩)] w fun e w' => e = .returned (.bool (f nm)) ∧ Below w.heap.size w w' := by
  have hl := hm.look nm hn
  clear hm
  generalize f nm = y at *
  rcases hK with rfl | rfl
  · go_enter Tryz.func98, Tryz.ntmps98
    go_wp2_with fail
    go_ret
    exact ⟨rfl, Below.refl _ _⟩
  · go_enter Tryz.func99, Tryz.ntmps99
    go_wp2_with fail
    go_ret
    exact ⟨rfl, Below.refl _ _⟩
end Rf
end
section
namespace Rf
open Go.RowKit
/-- from place j on -/
def numAt (p : Ld.Prg) (st : St) (j : Nat) : Nat := (List.range' j (p.names.length - j)).foldr (fun k n => if part p k = 0 then n else n * part p k + val p st k) 0
theorem numAt_zero (p : Ld.Prg) (st : St) : numAt p st 0 = number p st := by unfold numAt number; rw [Nat.sub_zero, ← List.range_eq_range']
theorem numAt_end (p : Ld.Prg) (st : St) : numAt p st p.names.length = 0 := by unfold numAt; rw [Nat.sub_self]; rfl
theorem numAt_step (p : Ld.Prg) (st : St) (j : Nat) (h : j < p.names.length) : numAt p st j = if part p j = 0 then numAt p st (j + 1) else numAt p st (j + 1) * part p j + val p st j := by
  unfold numAt
  rw [show p.names.length - j = (p.names.length - (j + 1)) + 1 by omega, List.range'_succ, List.foldr_cons]
theorem total_drop (l : List (Nat × Bool)) (h : ∀ x, x ∈ l → Mc.okP x) : ∀ j, Mc.total (l.drop j) ≤ Mc.total l := by
  intro j
  induction j generalizing l with
  | zero => exact Nat.le_refl _
  | succ j ih =>
    cases l with
    | nil => exact Nat.le_refl _
    | cons x r =>
      have h1 := ih r (fun y hy => h y (by simp [hy]))
      have h2 := (h x (by simp)).1
      have e : Mc.total (x :: r) = x.1 * Mc.total r := rfl
      rw [List.drop_succ_cons, e]
      exact Nat.le_trans h1 (Nat.le_mul_of_pos_left _ h2)
theorem numAt_le (p : Ld.Prg) (hck : Ld.check p = none) (s : Sc.St) (hb : Sc.Bd p s) (j : Nat) (hj : j ≤ p.names.length) : numAt p (of p.names s) j ≤ Mc.total (Mc.parts p) := by
  have h1 := number_from p hck s (p.names.length - j) j (by omega)
  unfold numAt
  rw [h1]
  refine Nat.le_trans (Nat.le_of_lt (Mc.number_lt ((Mc.parts p).drop j) _ _ (fun x hx => Mc.parts_ok p x (List.mem_of_mem_drop hx)) ?_ ?_ (fun k x c hx hc => ?_))) (total_drop _ (Mc.parts_ok p) j)
  · rw [List.length_drop, List.length_drop, Mc.parts_len, hb.li]
  · rw [List.length_drop, List.length_drop, Mc.parts_len, hb.lc]
  · rw [List.getElem?_drop] at hx hc
    exact Mc.ok_bd p s hb _ _ _ hx hc
set_option maxHeartbeats 8000000 in
set_option maxRecDepth 100000 in
theorem RNumber_any (bm : Nat) (p : Ld.Prg) (nv rv nx sv : Value) (S I n : Nat) (st : St) (w : World) (h : RMachAt w bm nv rv S I nx) (hp : IsRPrg w p (.agg #[nv, rv])) (hL : RLaid w) (hck : Ld.check p = none) (hs : StIs w sv n st)
    (hb : ∀ j, j ≤ p.names.length → numAt p st j ≤ 1000000) (hc : ∀ k (hk : k < p.names.length), 3 ≤ p.names[k].kind → 0 ≤ st.ct p.names[k].name) :
    Calls Tryz.prog 79 #[.pointer (some ⟨bm, 0, none⟩), sv] w fun e w' => e = .returned (.int .i64 (number p st : Int)) ∧ Below w.heap.size w w' := by
  obtain ⟨m1, m2, rfl, hm1, hm2, _⟩ := hs
  obtain ⟨nv', rv', he, hn, hr⟩ := id hp
  simp only [Value.agg.injEq, List.toArray_eq_iff, List.cons.injEq, and_true] at he
  obtain ⟨rfl, rfl⟩ := he
  have HNA := hide hn
  have HM1 := hide hm1
  have HM2 := hide hm2
  have HB := hide hb
  have HC := hide hc
  have HMA := hide h
  have HMAY : Hid (∀ k (hk : k < p.names.length), 1 ≤ p.names[k].kind ∧ p.names[k].kind ≤ 4) := fun k hk => by
    obtain ⟨h1, h2, h3, h4⟩ := Sc.may p hck k hk
    exact ⟨by omega, by omega⟩
  have hle12 := (Ld.check_names p hck).1
  have HPLE : Hid (∀ k, k < p.names.length → part p k ≤ 8) := fun k hk => part_le p hck k hk
  obtain ⟨na, nc, rfl, hln⟩ := hn.slice
  obtain ⟨ra, rc, rfl, hlr⟩ := hr.slice
  obtain ⟨wA, hwA⟩ : ∃ wA, wA = w.alloc (.cells #[.map (some m1), .map (some m2)] 123) := ⟨_, rfl⟩
  have hbA : Below w.heap.size w wA := by rw [hwA]; exact (Below.refl _ _).alloc (Nat.le_refl _) _
  have hzA : wA.heap.size = w.heap.size + 1 := by rw [hwA]; simp
  have HST : Hid (wA.heap[w.heap.size]? = some (.cells #[.map (some m1), .map (some m2)] 123 (0, 0))) := by show _ = _; rw [hwA]; exact heap_alloc_new _ _
  have HPA := hide (Parts_any p _ wA (hp.below hbA) (hL.below hbA) hck)
  have hbm := h.lt
  have HX : Hid (∀ W, Below wA.heap.size wA W → (W.cell? ⟨w.heap.size, 0, none⟩ = some (.map (some m1)) ∧ W.cell? ⟨w.heap.size, 1, none⟩ = some (.map (some m2))) ∧ (W.cell? ⟨bm, 0, none⟩ = some (.slice na p.names.length nc) ∧ W.cell? ⟨bm, 1, none⟩ = some (.slice ra p.rungs.length rc)) ∧ Below w.heap.size w W) := fun W hW => by
    have e0 := (hW.block w.heap.size (by omega)).trans HST.out
    have hw := hbA.trans (hW.mono (by omega))
    obtain ⟨⟨y0, y1⟩, _⟩ := (HMA.out.below hw).cells
    exact ⟨⟨by rw [Lib.cell_of_heap e0]; rfl, by rw [Lib.cell_of_heap e0]; rfl⟩, ⟨y0, y1⟩, hw⟩
  obtain ⟨L, hLn⟩ : ∃ L, L = p.names.length := ⟨_, rfl⟩
  have HLN := hide hLn
  obtain ⟨_, ⟨y0, y1⟩, _⟩ := HX.out wA (Below.refl _ _)
  rw [← hLn] at HX HNA hln HPA hle12 y0
  rw [hwA] at HPA y0 y1
  have HWA := hide hwA
  clear hn hr hL hck hwA hbA hm1 hm2 hb hc h hp hLn
  go_enter Tryz.func79, Tryz.ntmps79
  go_wp2_with fail
  refine HPA.out.mono ?_
  rintro e wE ⟨ev, rfl, hev, hbE⟩
  rw [← HWA.out] at hev hbE
  obtain ⟨ea, ec, rfl⟩ := own_slice hev
  have HEV := hide hev
  have HBE := hide hbE
  clear HPA hev hbE HWA y0 y1
  go_wp2_with fail
  go_loopw [5, 7] (fun nvv iv wr => ∃ (j : Nat) (E : Int), j ≤ L ∧ iv = .int .i64 E ∧ Hid (E = (j : Int) - 1) ∧ nvv = .int .i64 (numAt p st j : Int) ∧ Hid (Below wE.heap.size wE wr)) (fun _ iv _ => (intOf iv + 1).toNat)
  case atStart => exact ⟨L, _, Nat.le_refl _, rfl, rfl, by rw [HLN.out, numAt_end]; rfl, Below.refl _ _⟩
  case round =>
    obtain ⟨j, E, hj, rfl, HE, rfl, HBR⟩ := hrel
    have hbr : Below wA.heap.size wA wr := HBE.out.trans (HBR.out.mono HBE.out.size)
    obtain ⟨⟨x0, x1⟩, ⟨x2, x3⟩, hbw⟩ := HX.out wr hbr
    have HBW := hide hbw
    cases j with
    | succ j =>
      obtain rfl : E = (j : Int) := by have := HE.out; omega
      have hjl : j < p.names.length := by rw [← HLN.out]; omega
      obtain ⟨g, hga, hcap, e1, e2, e3, hnl, _, _⟩ := (HNA.out.below hbw).at_ (List.getElem?_eq_getElem hjl)
      subst hga
      have hpl : j < (partsL p).length := by rw [partsL_len]; exact hjl
      obtain ⟨ge, hge, _, hec, _, ce⟩ := own_int (l := partsL p) (k := j) (by have h := own_below HEV.out HBR.out; rw [HLN.out] at h; rw [partsL_len]; exact h) hpl
      subst hge
      have hpe : (partsL p)[j] = part p j := by
        have h1 := partsL_at p j hjl
        rw [List.getElem?_eq_getElem hpl] at h1
        exact Option.some.inj h1
      rw [hpe] at ce
      have hpk := HPLE.out j hjl
      have hmay := HMAY.out j hjl
      have hnb := HB.out j (by omega)
      have hstep := numAt_step p st j hjl
      have hval : val p st j = if 3 ≤ p.names[j].kind then (st.ct p.names[j].name).toNat else if st.is p.names[j].name then 1 else 0 := by
        unfold val; rw [List.getElem?_eq_getElem hjl]
      have hc0 := HC.out j hjl
      have l1 := (HM1.out.below hbw).look p.names[j].name hnl
      have l2 := (HM2.out.below hbw).look p.names[j].name hnl
      have L1 : ∀ o, (Instr.lookup 120 (.map (some m1)) (.string ⟨p.names[j].name.toArray⟩) false).run Tryz.prog (wr.alloc o) = .ok (.bool (st.is p.names[j].name)) (wr.alloc o) := fun o => (HM1.out.below (HBW.out.alloc HBW.out.size o)).look _ hnl
      have L2 : ∀ o, (Instr.lookup 121 (.map (some m2)) (.string ⟨p.names[j].name.toArray⟩) false).run Tryz.prog (wr.alloc o) = .ok (.int .i64 (st.ct p.names[j].name)) (wr.alloc o) := fun o => (HM2.out.below (HBW.out.alloc HBW.out.size o)).look _ hnl
      have HBA : Hid (∀ o, Below wE.heap.size wE (wr.alloc o)) := fun o => HBR.out.alloc HBR.out.size o
      have hji : (j : Int) < (L : Int) := by omega
      have ceA := fun o => (World.cell?_alloc_some wr ⟨ge, j, none⟩ o (by rw [ce]; rfl)).trans ce
      have x0A := fun o => (World.cell?_alloc_some wr ⟨w.heap.size, 0, none⟩ o (by rw [x0]; rfl)).trans x0
      have x1A := fun o => (World.cell?_alloc_some wr ⟨w.heap.size, 1, none⟩ o (by rw [x1]; rfl)).trans x1
      clear hpe hpl l1 l2
      generalize p.names[j] = y at *
      obtain ⟨nm, kd, ct⟩ := y
      dsimp only at e1 e2 e3 hmay hval hc0 L1 L2
      generalize part p j = pk at *
      generalize val p st j = vl at *
      generalize numAt p st (j + 1) = a at *
      by_cases hp0 : pk = 0
      · rw [if_pos hp0] at hstep
        subst hp0
        have HST := hide hstep
        clear hstep hval hc0 hnb L1 L2
        go_wp2_with fail
        go_roundw
        case rel => exact ⟨j, _, by omega, rfl, rfl, by rw [HST.out], HBA.out _⟩
        case measure => simp [intOf]
      · rw [if_neg hp0] at hstep
        obtain ⟨t, ht⟩ : ∃ t : Nat, t = a * pk := ⟨_, rfl⟩
        rw [← ht] at hstep
        have hti : (a : Int) * (pk : Int) = (t : Int) := by rw [ht]; push_cast; rfl
        have hp0i : ((pk : Int) == 0) = false := by simp; omega
        by_cases hk3 : 3 ≤ kd
        · rw [if_pos hk3] at hval
          have hc1 := hc0 hk3
          generalize st.ct nm = c at *
          have hs2 : (t : Int) + c = (numAt p st j : Int) := by omega
          have htb : (t : Int) ≤ 1000000 := by omega
          have hs3 : (numAt p st j : Int) ≤ 1000000 := by omega
          obtain ⟨b, hbq⟩ : ∃ b, b = numAt p st j := ⟨_, rfl⟩
          have HBQ := hide hbq
          rw [← hbq] at hs2 hs3 hstep hnb
          clear hbq
          have HS2 := hide hs2
          clear hstep hval ht hc0 hnb L1
          go_wp2_with fail
          go_roundw
          case rel => exact ⟨j, _, by omega, rfl, rfl, by rw [← HBQ.out], HBA.out _⟩
          case measure => simp [intOf]
        · rw [if_neg hk3] at hval
          have htb : (t : Int) ≤ 1000000 := by omega
          cases hsn : st.is nm with
          | true =>
            rw [hsn] at L1
            rw [hsn, if_pos rfl] at hval
            have hs2 : (t : Int) + 1 = (numAt p st j : Int) := by omega
            have HS2 := hide hs2
            clear hstep hval ht hc0 hnb L2 hs2
            go_wp2_with fail
            go_roundw
            case rel => exact ⟨j, _, by omega, rfl, rfl, by first | rw [HS2.out] | rfl, HBA.out _⟩
            case measure => simp [intOf]
          | false =>
            rw [hsn] at L1
            rw [hsn] at hval
            simp at hval
            have hs2 : (t : Int) = (numAt p st j : Int) := by omega
            have HS2 := hide hs2
            clear hstep hval ht hc0 hnb L2 hs2
            go_wp2_with fail
            go_roundw
            case rel => exact ⟨j, _, by omega, rfl, rfl, by first | rw [HS2.out] | rfl, HBA.out _⟩
            case measure => simp [intOf]
    | zero =>
      obtain rfl : E = -1 := by have := HE.out; omega
      have HZ := hide (numAt_zero p st)
      go_wp2_with fail
      go_ret
      exact ⟨by rw [HZ.out]; rfl, HBW.out⟩
end Rf
end
section
namespace Rf
theorem tot_snoc : ∀ (l : List (Nat × Bool)) (x : Nat × Bool), Mc.total (l ++ [x]) = Mc.total l * x.1
  | [], x => by simp [Mc.total]
  | y :: l, x => by
    have ih := tot_snoc l x
    unfold Mc.total at ih ⊢
    simp only [List.cons_append, List.foldr_cons]
    rw [ih, Nat.mul_assoc]
theorem tot_succ (p : Ld.Prg) (hck : Ld.check p = none) (k : Nat) (hk : k < p.names.length) : Mc.total ((Mc.parts p).take (k + 1)) = if part p k = 0 then Mc.total ((Mc.parts p).take k) else Mc.total ((Mc.parts p).take k) * part p k := by
  have hkl : k < (Mc.parts p).length := by rw [Mc.parts_len]; exact hk
  have e := Mc.parts_at p k hk
  rw [List.getElem?_eq_getElem hkl] at e
  rw [List.take_succ_eq_append_getElem hkl, tot_snoc, Option.some.inj e]
  rcases part_is p hck k hk with ⟨h1, h2⟩ | ⟨h1, h2, _⟩
  · rw [if_pos h1, h2, Nat.mul_one]
  · rw [if_neg h1, h2]
theorem tot_mono (p : Ld.Prg) (hck : Ld.check p = none) : ∀ (m k : Nat), k + m ≤ p.names.length → Mc.total ((Mc.parts p).take k) ≤ Mc.total ((Mc.parts p).take (k + m))
  | 0, k, _ => Nat.le_refl _
  | m + 1, k, h => by
    have h1 := tot_mono p hck m k (by omega)
    have h2 := tot_succ p hck (k + m) (by omega)
    rw [show k + (m + 1) = k + m + 1 by omega, h2]
    split
    · exact h1
    · rename_i h0
      exact Nat.le_trans h1 (Nat.le_mul_of_pos_right _ (by omega))
theorem tot_le (p : Ld.Prg) (hck : Ld.check p = none) (k : Nat) (hk : k ≤ p.names.length) : Mc.total ((Mc.parts p).take k) ≤ Mc.total (Mc.parts p) := by
  have h := tot_mono p hck (p.names.length - k) k (by omega)
  have e : (Mc.parts p).take (k + (p.names.length - k)) = Mc.parts p := List.take_of_length_le (by rw [Mc.parts_len]; omega)
  rw [e] at h
  exact h
/-- multiplied as far as it is not too much -/
def capT (p : Ld.Prg) : Nat → Nat
  | 0 => 1
  | k + 1 => if 0 < part p k ∧ capT p k ≤ 4096 then capT p k * part p k else capT p k
theorem capT_is (p : Ld.Prg) (hck : Ld.check p = none) : ∀ k, k ≤ p.names.length → (capT p k ≤ 4096 ∧ capT p k = Mc.total ((Mc.parts p).take k)) ∨ (4096 < capT p k ∧ 4096 < Mc.total ((Mc.parts p).take k) ∧ capT p k ≤ 40000)
  | 0, _ => .inl ⟨by simp [capT], by simp [capT, Mc.total]⟩
  | k + 1, h => by
    have h2 := tot_succ p hck k (by omega)
    have h8 := part_le p hck k (by omega)
    rw [h2]
    unfold capT
    rcases capT_is p hck k (by omega) with ⟨h3, h4⟩ | ⟨h3, h4, h5⟩
    · by_cases h0 : part p k = 0
      · rw [if_neg (by omega), if_pos h0]
        exact .inl ⟨h3, h4⟩
      · rw [if_pos ⟨by omega, h3⟩, if_neg h0, ← h4]
        have h6 : capT p k * part p k ≤ 4096 * 8 := Nat.mul_le_mul h3 h8
        by_cases h7 : capT p k * part p k ≤ 4096
        · exact .inl ⟨h7, rfl⟩
        · exact .inr ⟨by omega, by omega, by omega⟩
    · rw [if_neg (by omega)]
      refine .inr ⟨h3, ?_, h5⟩
      split
      · exact h4
      · rename_i h0
        exact Nat.lt_of_lt_of_le h4 (Nat.le_mul_of_pos_right _ (by omega))
theorem capT_all (p : Ld.Prg) (hck : Ld.check p = none) : (capT p p.names.length ≤ 4096 ∧ capT p p.names.length = Mc.total (Mc.parts p)) ∨ (4096 < capT p p.names.length ∧ 4096 < Mc.total (Mc.parts p) ∧ capT p p.names.length ≤ 40000) := by
  have h := capT_is p hck p.names.length (Nat.le_refl _)
  rw [List.take_of_length_le (by rw [Mc.parts_len]; exact Nat.le_refl _)] at h
  exact h
end Rf
end
section
open Go.RowKit
theorem two_cells {W : World} {b : Nat} {x y : Value} {t : TypeId} (h : W.heap[b]? = some (.cells #[x, y] t (0, 0))) : W.cell? ⟨b, 0, none⟩ = some x ∧ W.cell? ⟨b, 1, none⟩ = some y ∧ W.frozen? ⟨b, 0, none⟩ = false ∧ W.frozen? ⟨b, 1, none⟩ = false :=
  ⟨by rw [Lib.cell_of_heap h]; rfl, by rw [Lib.cell_of_heap h]; rfl, Lib.frozen_of_heap h 0, Lib.frozen_of_heap h 1⟩
end
section
open Go.RowKit
theorem own_zero (W : World) (q : Nat) (e : TypeId) (s : Nat) (hq : q ≤ W.heap.size) : (W.alloc (.cells #[] e)).ownsRow q e s (.slice (some ⟨W.heap.size, 0, none⟩) 0 0) 0 [] :=
  ⟨by simp, .inr ⟨W.heap.size, 0, #[], rfl, hq, heap_alloc_new W _, Nat.le_refl _, by decide, by simp, by simp⟩⟩
theorem names_cells {W : World} {g : Nat} {ns : List Ld.Nme} (h : ∀ (i : Nat) (n : Ld.Nme), ns[i]? = some n → NameAt W g i n) : ∀ j u, (ns.flatMap nmCells)[j]? = some u → W.cell? ((⟨g, 0, none⟩ : Addr).add j) = some u := by
  intro j u hu
  have e : (⟨g, 0, none⟩ : Addr).add j = ⟨g, j, none⟩ := by unfold Addr.add; split <;> simp_all
  rw [e]
  have hl : ∀ l : List Ld.Nme, (l.flatMap nmCells).length = l.length * 3 := fun l => by
    induction l with
    | nil => rfl
    | cons a r ih => rw [List.flatMap_cons, List.length_append, ih, List.length_cons]; simp [nmCells]; omega
  have hj : j < ns.length * 3 := by rw [← hl]; exact (List.getElem?_eq_some_iff.1 hu).1
  have hi : j / 3 < ns.length := by omega
  have hn := List.getElem?_eq_getElem hi
  obtain ⟨h1, h2, h3, _⟩ := h (j / 3) _ hn
  have hf := flat3 nmCells (fun _ => rfl) ns (j / 3) _ hn (j % 3) (by omega)
  rw [show j / 3 * 3 + j % 3 = j by omega, hu] at hf
  have hm : j % 3 = 0 ∨ j % 3 = 1 ∨ j % 3 = 2 := by omega
  rcases hm with hm | hm | hm
  · rw [hm] at hf
    rw [show j = j / 3 * 3 by omega, h1]; exact hf.symm
  · rw [hm] at hf
    rw [show j = j / 3 * 3 + 1 by omega, h2]; exact hf.symm
  · rw [hm] at hf
    rw [show j = j / 3 * 3 + 2 by omega, h3]; exact hf.symm
theorem eqNil_none (w : World) (n c : Nat) : (binOp BinOp.eql 80 (.slice none n c) (.slice none 0 0)).run Tryz.prog w = .ok (.bool true) w := by kernel_rfl
theorem eqNil_some (w : World) (a : Addr) (n c : Nat) : (binOp BinOp.eql 80 (.slice (some a) n c) (.slice none 0 0)).run Tryz.prog w = .ok (.bool false) w := by kernel_rfl
set_option maxHeartbeats 2000000 in
set_option maxRecDepth 100000 in
theorem cloneN_any (ns : List Ld.Nme) (nv : Value) (w : World) (h : NamesAt w nv ns) :
    Calls Tryz.prog 123 #[nv] w fun e w' => ∃ v, e = .returned v ∧ NamesAt w' v ns ∧ Below w.heap.size w w' := by
  obtain ⟨i0, hi0, hz0, hz1, hz2⟩ := info_parts Tryz.infoName
  have q0 := fun n c => eqNil_none w n c
  have q1 := fun a n c => eqNil_some w a n c
  have HBA : Hid (Below w.heap.size w (w.alloc (.cells #[] 201))) := (Below.refl _ w).alloc (Nat.le_refl _) _
  rcases h with ⟨rfl, a, cap, rfl⟩ | ⟨g, cap, rfl, hcap, hlen, hat⟩
  · cases a with
    | none =>
      go_enter Tryz.func123, Tryz.ntmps123
      go_wp2_with fail
      go_ret
      exact ⟨_, rfl, .inl ⟨rfl, _, _, rfl⟩, Below.refl _ _⟩
    | some ad =>
      go_enter Tryz.func123, Tryz.ntmps123
      go_wp2_with (at_builtin; refine Lib.wpList_append_run _ rfl (.tmp 5) (.tmp 6) 80 80 rfl _ _ rfl rfl _ _ (append_zero w.heap.size _ _ _ i0 3 Tryz.underlying80 hi0 _ 0 [] (own_zero w w.heap.size 201 3 (Nat.le_refl _)) _ _) ?_)
      go_ret
      exact ⟨_, rfl, .inl ⟨rfl, _, _, rfl⟩, HBA.out⟩
  · by_cases hne : ns.length = 0
    · obtain rfl := List.length_eq_zero_iff.1 hne
      go_enter Tryz.func123, Tryz.ntmps123
      go_wp2_with (at_builtin; refine Lib.wpList_append_run _ rfl (.tmp 5) (.tmp 6) 80 80 rfl _ _ rfl rfl _ _ (append_zero w.heap.size _ _ _ i0 3 Tryz.underlying80 hi0 _ 0 [] (own_zero w w.heap.size 201 3 (Nat.le_refl _)) _ _) ?_)
      go_ret
      exact ⟨_, rfl, .inl ⟨rfl, _, _, rfl⟩, HBA.out⟩
    · have hlc : (ns.flatMap nmCells).length = ns.length * 3 := by
        clear hat hlen hcap hne
        induction ns with
        | nil => rfl
        | cons a r ih => rw [List.flatMap_cons, List.length_append, ih, List.length_cons]; simp [nmCells]; omega
      have HOWN : Hid ((w.alloc (.cells #[] 201)).ownsRow w.heap.size 201 3 (.slice (some ⟨w.heap.size, 0, none⟩) 0 0) 0 []) := own_zero w w.heap.size 201 3 (Nat.le_refl _)
      have HNEW : Hid (∀ j u, (ns.flatMap nmCells)[j]? = some u → (w.alloc (.cells #[] 201)).cell? ((⟨g, 0, none⟩ : Addr).add j) = some u) := names_cells (fun i n hi => (hat i n hi).below HBA.out)
      have HONE : Hid (∀ u ∈ ns.flatMap nmCells, u.oneCell' = true) := by
        intro u hu
        obtain ⟨n, _, hn⟩ := List.mem_flatMap.1 hu
        simp only [nmCells, List.mem_cons, List.not_mem_nil, or_false] at hn
        rcases hn with rfl | rfl | rfl <;> rfl
      have HAT := hide hat
      obtain ⟨n, hnn⟩ : ∃ n, n = ns.length := ⟨_, rfl⟩
      have HN := hide hnn
      have HLC := hide hlc
      rw [← hnn] at hlen hcap hne HLC ⊢
      clear hat hnn hlc
      have hn0 : 0 < n := by omega
      go_enter Tryz.func123, Tryz.ntmps123
      go_wp2_with (at_builtin; refine wpList_append_lies _ rfl (.tmp 5) (.tmp 6) 80 rfl w.heap.size 201 i0 _ 3 32 Tryz.underlying80 hi0 hz0 hz1 hz2 rfl (by decide) (.slice (some ⟨w.heap.size, 0, none⟩) 0 0) 0 [] rfl HOWN.out ⟨g, 0, none⟩ n cap (ns.flatMap nmCells) rfl HLC.out HNEW.out HONE.out hn0 (by unfold maxLen; omega) (by omega) (by simp) (w.heap.size + 1) (by simp) ?_; intro g2 cap2 wC hown hgrow hat2 hltg)
      go_ret
      refine ⟨_, rfl, ?_, HBA.out.grown hgrow (by simp) (fun j e => by simp only [Value.ownBlock, Option.some.injEq] at e; omega)⟩
      rcases hown.2 with ⟨hx, _⟩ | ⟨g3, cap3, cur, hx, _, hcur, hc3, _, _, htk⟩
      · cases hx
      · simp only [Value.slice.injEq, Option.some.injEq, Addr.mk.injEq] at hx
        obtain ⟨⟨rfl, _⟩, _, rfl⟩ := hx
        refine .inr ⟨g2, cap2, by rw [← HN.out]; rfl, by rw [← HN.out]; omega, by rw [← HN.out]; exact hlen, fun i y hy => ?_⟩
        have hc := fun j hj => flat3 nmCells (fun _ => rfl) ns i y hy j hj
        obtain ⟨_, _, _, k4⟩ := HAT.out i y hy
        exact ⟨row_cell hcur htk (hc 0 (by omega)), row_cell hcur htk (hc 1 (by omega)), row_cell hcur htk (hc 2 (by omega)), k4⟩
end
section
open Go.RowKit
/-- block g is this row -/
def RowIs (W : World) (g : Nat) (t : TypeId) (l : List Value) : Prop := W.heap[g]? = some (.cells ⟨l⟩ t (0, 0))
theorem RowIs.lt {W : World} {g : Nat} {t : TypeId} {l : List Value} (h : RowIs W g t l) : g < W.heap.size := (Array.getElem?_eq_some_iff.1 h).1
theorem RowIs.below {W W' : World} {g : Nat} {t : TypeId} {l : List Value} (h : RowIs W g t l) (hb : Below W.heap.size W W') : RowIs W' g t l := (hb.block _ h.lt).trans h
theorem RowIs.belowN {n : Nat} {W W' : World} {g : Nat} {t : TypeId} {l : List Value} (h : RowIs W g t l) (hb : Below n W W') (hg : g < n) : RowIs W' g t l := (hb.block _ hg).trans h
theorem RowIs.cell {W : World} {g : Nat} {t : TypeId} {l : List Value} (h : RowIs W g t l) (i : Nat) (v : Value) (hi : l[i]? = some v) : W.cell? ⟨g, i, none⟩ = some v := by
  rw [Lib.cell_of_heap h]; simpa using hi
theorem RowIs.frozen {W : World} {g : Nat} {t : TypeId} {l : List Value} (h : RowIs W g t l) (i : Nat) : W.frozen? ⟨g, i, none⟩ = false := Lib.frozen_of_heap h i
theorem RowIs.set {W : World} {g : Nat} {t : TypeId} {l : List Value} (h : RowIs W g t l) (i : Nat) (v : Value) : RowIs (W.setCell ⟨g, i, none⟩ v) g t (l.set i v) := by
  unfold RowIs at *
  simp [World.setCell, Array.getElem?_modify, h]
theorem RowIs.other {W : World} {g : Nat} {t : TypeId} {l : List Value} (h : RowIs W g t l) (b i : Nat) (v : Value) (hb : g ≠ b) : RowIs (W.setCell ⟨b, i, none⟩ v) g t l := (Below.heap_setCell _ _ _ _ (fun e => hb e)).trans h
theorem RowIs.new (W : World) (t : TypeId) (l : List Value) : RowIs (W.alloc (.cells ⟨l⟩ t)) W.heap.size t l := heap_alloc_new _ _
theorem RowIs.alloc {W : World} {g : Nat} {t : TypeId} {l : List Value} (h : RowIs W g t l) (o : Obj) : RowIs (W.alloc o) g t l := (Below.heap_alloc _ _ _ h.lt).trans h
theorem RowIs.drew {W : World} {g : Nat} {t : TypeId} {l : List Value} (h : RowIs W g t l) : RowIs W.drew g t l := h
/-- the next one of a row that is filled from the head -/
theorem fill_set {α : Type} (a : List α) (z v : α) (n : Nat) (h : a.length < n) : (a ++ List.replicate (n - a.length) z).set a.length v = (a ++ [v]) ++ List.replicate (n - (a ++ [v]).length) z := by
  obtain ⟨d, hd⟩ : ∃ d, n - a.length = d + 1 := ⟨n - a.length - 1, by omega⟩
  have e : n - (a ++ [v]).length = d := by simp; omega
  rw [e, hd, List.set_append_right _ _ (Nat.le_refl _), Nat.sub_self, List.replicate_succ, List.set_cons_zero]
  simp
theorem mcells_one (z : Value) (n : Nat) : madeCells #[z] (n * 1) = ⟨List.replicate n z⟩ := by
  apply Array.ext'
  simp only [madeCells, Nat.mul_one, Array.toList_map, Array.toList_range]
  apply List.ext_getElem
  · simp
  · intro i h1 h2
    simp [Nat.mod_one]
/-- 'make' of so many of one cell each -/
theorem make_one {t e : TypeId} {z : Value} {bytes : Nat} (hu : Tryz.prog.underlying t = some (.slice e)) (hinfo : (Tryz.prog.info? e).map (fun i => (i.zero, i.size, i.bytes)) = some (some z, 1, bytes)) (hz : z.cells = #[z]) (hb : bytes ≤ 1000) (n : Nat) (hn : n ≤ 1000000) (w : World) :
    (Instr.makeSlice t (.int .i64 (n : Int)) (.int .i64 (n : Int))).run Tryz.prog w = .ok (.slice (some ⟨w.heap.size, 0, none⟩) n n) (w.alloc (.cells ⟨List.replicate n z⟩ e)) := by
  obtain ⟨i0, hi0, hz0, hz1, hz2⟩ := info_parts hinfo
  have hbb : (i0.bytes : Int) * (n : Int) ≤ 281474976710656 := by
    rw [hz2]
    have : bytes * n ≤ 1000 * 1000000 := Nat.mul_le_mul hb hn
    have h2 : ((bytes * n : Nat) : Int) ≤ 1000 * 1000000 := by omega
    rw [Int.natCast_mul] at h2
    omega
  have h := run_makeSlice (P := Tryz.prog) w t e i0 z hu hi0 hz0 .i64 .i64 n n (by omega) (Int.le_refl _) (by rw [hz1]; omega) hbb (by omega)
  rw [hz, hz1, show ((n : Int)).toNat = n by omega, mcells_one] at h
  exact h
theorem makeBs (n : Nat) (hn : n ≤ 1000000) (w : World) : (Instr.makeSlice 51 (.int .i64 (n : Int)) (.int .i64 (n : Int))).run Tryz.prog w = .ok (.slice (some ⟨w.heap.size, 0, none⟩) n n) (w.alloc (.cells ⟨List.replicate n (.bool false)⟩ 4)) :=
  make_one Tryz.underlying51 Tryz.infoBool rfl (by decide) n hn w
theorem makeIs (n : Nat) (hn : n ≤ 1000000) (w : World) : (Instr.makeSlice 36 (.int .i64 (n : Int)) (.int .i64 (n : Int))).run Tryz.prog w = .ok (.slice (some ⟨w.heap.size, 0, none⟩) n n) (w.alloc (.cells ⟨List.replicate n (.int .i64 0)⟩ 3)) :=
  make_one Tryz.underlying36 Tryz.infoInt rfl (by decide) n hn w
set_option maxHeartbeats 4000000 in
set_option maxRecDepth 100000 in
theorem toBools_any (x : Int) (many : Nat) (w : World) (hm : many ≤ 60) :
    Calls Tryz.prog 89 #[.int .i64 x, .int .i64 (many : Int)] w fun e w' => ∃ g, e = .returned (slV g many) ∧ RowIs w' g 4 ((bitsTo x many).map boolV) ∧ w.heap.size ≤ g ∧ Below w.heap.size w w' := by
  have mk := fun w => makeBs many (by omega) w
  obtain ⟨cb, hcb⟩ : ∃ cb, cb = List.replicate many (Value.bool false) := ⟨_, rfl⟩
  obtain ⟨w1, hw1⟩ : ∃ w1, w1 = w.alloc (.cells ⟨cb⟩ 4) := ⟨_, rfl⟩
  have HR1 : Hid (RowIs w1 w.heap.size 4 (((bitsTo x 0).map boolV) ++ List.replicate (many - ((bitsTo x 0).map boolV).length) (.bool false))) := by
    show RowIs w1 w.heap.size 4 (List.replicate many (.bool false))
    rw [hw1, ← hcb]; exact RowIs.new _ _ _
  rw [← hcb] at mk
  clear hcb
  have HB1 : Hid (Below w.heap.size w w1) := by rw [hw1]; exact (Below.refl _ _).alloc (Nat.le_refl _) _
  go_enter Tryz.func89, Tryz.ntmps89
  go_wp2_with fail
  rw [← hw1]
  clear hw1
  go_loopw [10] (fun i wr => ∃ k : Nat, k ≤ many ∧ i = .int .i64 (k : Int) ∧ Hid (RowIs wr w.heap.size 4 (((bitsTo x k).map boolV) ++ List.replicate (many - ((bitsTo x k).map boolV).length) (.bool false))) ∧ Hid (Below w.heap.size w wr)) (fun i _ => many - (intOf i).toNat)
  case atStart => exact ⟨0, Nat.zero_le _, rfl, HR1.out, HB1.out⟩
  case round =>
    obtain ⟨k, hk, rfl, HR, HB⟩ := hrel
    have hlk : ((bitsTo x k).map boolV).length = k := by simp [bitsTo_len]
    by_cases hlt : k < many
    · have c0 : wr.cell? ⟨w.heap.size, k, none⟩ = some (.bool false) := HR.out.cell k _ (by rw [List.getElem?_append_right (by omega), List.getElem?_replicate, if_pos (by omega)])
      have f0 := HR.out.frozen k
      have HN : Hid (RowIs (wr.setCell ⟨w.heap.size, k, none⟩ (.bool (bitB x k))) w.heap.size 4 (((bitsTo x (k + 1)).map boolV) ++ List.replicate (many - ((bitsTo x (k + 1)).map boolV).length) (.bool false))) := by
        have h1 := HR.out.set k (.bool (bitB x k))
        have h2 := fill_set ((bitsTo x k).map boolV) (.bool false) (.bool (bitB x k)) many (by omega)
        rw [hlk] at h2
        rw [hlk, h2] at h1
        rw [bitsTo_succ, List.map_append]
        exact h1
      have HBN : Hid (Below w.heap.size w (wr.setCell ⟨w.heap.size, k, none⟩ (.bool (bitB x k)))) := HB.out.setCell (p := ⟨w.heap.size, k, none⟩) (Nat.le_refl _) _
      unfold bitB at HN HBN
      clear hlk
      go_wp2_with fail
      go_roundw
      case rel => exact ⟨k + 1, by omega, by go_num, HN.out, HBN.out⟩
      case measure => simp [intOf]; omega
    · have hkm : k = many := by omega
      subst hkm
      go_wp2_with fail
      go_ret
      refine ⟨w.heap.size, rfl, ?_, Nat.le_refl _, HB.out⟩
      have h1 := HR.out
      rw [hlk, Nat.sub_self, List.replicate_zero, List.append_nil] at h1
      exact h1
set_option linter.unusedSimpArgs false
set_option maxHeartbeats 4000000 in
set_option maxRecDepth 100000 in
theorem fromBools_any (l : List Bool) (g : Nat) (w : World) (hr : RowIs w g 4 (l.map boolV)) (hl : l.length ≤ 60) :
    Calls Tryz.prog 128 #[slV g l.length] w fun e w' => e = .returned (.int .i64 (Mc.val l : Int)) ∧ w' = w := by
  have HR := hide hr
  obtain ⟨n, hn⟩ : ∃ n, n = l.length := ⟨_, rfl⟩
  have HN := hide hn
  have hg := hr.lt
  rw [← hn] at hl ⊢
  clear hn hr
  unfold slV
  go_enter Tryz.func128, Tryz.ntmps128
  go_wp2_with fail
  go_loopw [3, 8] (fun m i wr => ∃ k : Nat, k ≤ n ∧ i = .int .i64 (k : Int) ∧ m = .int .i64 (Mc.val (l.take k) : Int) ∧ wr = w) (fun _ i _ => n - (intOf i).toNat)
  case atStart => exact ⟨0, Nat.zero_le _, rfl, rfl, rfl⟩
  case round =>
    obtain ⟨k, hk, rfl, rfl, rfl⟩ := hrel
    by_cases hlt : k < n
    · have hkl : k < l.length := by rw [← HN.out]; exact hlt
      have c0 : wr.cell? ⟨g, k, none⟩ = some (.bool l[k]) := HR.out.cell k _ (by rw [List.getElem?_map, List.getElem?_eq_getElem hkl]; rfl)
      have HT := hide (List.take_succ_eq_append_getElem hkl)
      have hlk : (l.take k).length = k := by simp; omega
      have hv := Mc.val_lt (l.take k)
      rw [hlk] at hv
      have HV := hide (Mc.val_snoc (l.take k) l[k])
      have HOR := hide (Mc.or_pow (Mc.val (l.take k)) k hv (by omega))
      have hp : (2 : Nat) ^ k ≤ 2 ^ 60 := Nat.pow_le_pow_right (by decide) (by omega)
      have HP : Hid (wrap64 ((2 : Int) ^ k) = ((2 ^ k : Nat) : Int)) := by
        show wrap64 _ = _
        unfold wrap64
        have e : ((2 : Int) ^ k) = ((2 ^ k : Nat) : Int) := by rw [Int.natCast_pow]; rfl
        rw [e]
        omega
      have HLK := hide hlk
      clear hlk
      generalize l[k] = b at *
      cases b with
      | true =>
        go_wp2_with fail
        go_roundw
        case rel => exact ⟨k + 1, by omega, by go_num, by rw [HP.out, HOR.out, HT.out, HV.out, if_pos rfl, HLK.out], trivial⟩
        case measure => simp [intOf]; omega
      | false =>
        go_wp2_with fail
        go_roundw
        case rel => exact ⟨k + 1, by omega, by go_num, by rw [HT.out, HV.out]; simp, trivial⟩
        case measure => simp [intOf]; omega
    · have hkn : k = n := by omega
      subst hkn
      go_wp2_with fail
      go_ret
      rw [List.take_of_length_le (by rw [← HN.out]; exact Nat.le_refl _)]
      exact ⟨rfl, rfl⟩
theorem told_any' (of : Int) (cnt is : Bool) (ct : Int) (w : World) :
    Calls Tryz.prog 165 #[.agg #[.int .i64 of, .bool cnt], .bool is, .int .i64 ct] w fun e w' => e = .returned (.int .i64 (if cnt then ct else if is && decide (1 < of) then 1 else 0)) ∧ w' = w.alloc (.cells #[.int .i64 of, .bool cnt] 234) := by
  by_cases h : 1 < of
  all_goals
    cases cnt <;> cases is
  all_goals
    go_enter Tryz.func165, Tryz.ntmps165
    go_wp2_with fail
    go_ret
    first | exact ⟨by simp [h], rfl⟩ | exact ⟨by simp, rfl⟩
end
section
open Go.RowKit
open Go.Sort
set_option maxHeartbeats 1000000 in
set_option maxRecDepth 100000 in
theorem edges1_any : Gathers 197 (fun e => e) := by
  refine ⟨fun _ _ => by kernel_rfl, ?_⟩
  intro p nm edge ns w h hlen
  cases edge with
  | false =>
    have H := hide h
    clear h
    go_enter Tryz.func197, Tryz.ntmps197
    go_wp2_with fail
    go_end0
    exact ⟨rfl, by simpa using H.out, Kn.refl _ _⟩
  | true =>
    obtain ⟨i0, hi0, hz0, hz1, hz2⟩ := info_parts Tryz.infoStr
    obtain ⟨v, hp, ho⟩ := h.ex
    have HP := hide hp
    have HO := hide ho
    have HO2 := hide (ho.alloc (.cells #[.string ⟨nm.toArray⟩] 9))
    have hlt := h.lt
    have c0 : w.cell? ⟨p, 0, none⟩ = some v := by rw [Lib.cell_of_heap hp]; rfl
    have hv0 : ∃ a n c, v = .slice a n c := by
      rcases ho.2 with ⟨hv, _⟩ | ⟨g, cap, cur, hv, _⟩
      · exact ⟨_, _, _, hv⟩
      · exact ⟨_, _, _, hv⟩
    clear h hp ho
    obtain ⟨a, n, c, rfl⟩ := hv0
    go_enter Tryz.func197, Tryz.ntmps197
    go_wp2_with (at_builtin; refine wpList_append_own _ rfl _ _ 65 rfl (p + 1) 9 i0 (.string ⟨#[]⟩) 1 16 Tryz.underlying65 hi0 hz0 hz1 hz2 rfl (by decide) _ ns.length (ns.map strV) rfl HO2.out ⟨w.heap.size, 0, none⟩ 1 1 [.string ⟨nm.toArray⟩] rfl rfl (cell_one_new _ _ _) ?c2 ?c3 ?c4 ?c5 ?_)
    case c2 => intro z hz; simp at hz; subst hz; rfl
    case c3 => unfold maxLen; omega
    case c4 => omega
    case c5 => simp; omega
    intro v' w2 hown' hgrow _
    have hput := St.put HP.out HO.out hown' hgrow
    have HB2 := hide hput.1
    have HK2 := hide hput.2.1
    have HS2 := hide hput.2.2
    have d0 : w2.cell? ⟨p, 0, none⟩ = some (.slice a n c) := by rw [Lib.cell_of_heap hput.1]; rfl
    have f0 : w2.frozen? ⟨p, 0, none⟩ = false := Lib.frozen_of_heap hput.1 0
    obtain ⟨g, cap, hv'⟩ : ∃ g cap, v' = .slice (some ⟨g, 0, none⟩) (ns.length + 1) cap := by
      rcases hown'.2 with ⟨_, h0⟩ | ⟨g, cap, cur, hv, _⟩
      · omega
      · exact ⟨g, cap, hv⟩
    rw [hv'] at HS2
    rw [hv']
    clear hown' hgrow hv' hput HO HO2 HP c0 HB2
    go_wp2_with fail
    go_end0
    exact ⟨rfl, HS2.out, HK2.out.setCell ⟨p, 0, none⟩ rfl _⟩
set_option maxHeartbeats 1000000 in
set_option maxRecDepth 100000 in
theorem Edges_any (ok : Nat → Prop) (x : Ex) (v : Value) (w : World) (h : IsEx ok w x v) (hlen : x.size ≤ 1000000) :
    Calls Tryz.prog 160 #[v] w fun e w' => ∃ sv, e = .returned sv ∧ Strs w' sv ((ordered (x.named false)).map toBA) ∧ Below w.heap.size w w' := by
  have hmf : ∀ (fn : Fn) (first cap : Array Value) (w : World), (Instr.makeFunc fn first cap).run Tryz.prog w = .ok (.func fn first cap) w := fun _ _ _ _ => rfl
  have hb : Below w.heap.size w (w.alloc (.cells #[.slice none 0 0] 65)) := (Below.refl _ w).alloc (Nat.le_refl _) _
  have hx : IsEx (fun g => g < w.heap.size) (w.alloc (.cells #[.slice none 0 0] 65)) x v := IsEx.stay (Stay.below hb) (fun g hg => hg.2) x v (IsEx.lt x v h)
  have hst : St w.heap.size [] (w.alloc (.cells #[.slice none 0 0] 65)) := ⟨_, heap_alloc_new w _, World.ownsRow_nil _ _ _ _⟩
  have HC := hide (each_any 197 false _ edges1_any rfl rfl x w.heap.size v [] _ hx hst (by simpa using hlen))
  have HB := hide hb
  have HNL := hide (Ex.named_le false x)
  obtain ⟨tu, yu, hiu⟩ := IsEx.iface x v h
  subst hiu
  clear h hb hx hst
  go_enter Tryz.func160, Tryz.ntmps160
  go_wp2_with fail
  refine HC.out.mono ?_
  rintro e w1 ⟨rfl, hs, hk⟩
  rw [List.nil_append] at hs
  obtain ⟨sv, hp, ho⟩ := hs.ex
  have HO := hide ho
  have c0 : w1.cell? ⟨w.heap.size, 0, none⟩ = some sv := by rw [Lib.cell_of_heap hp]; rfl
  have HI := hide (inOrder_any _ sv _ w1 ho (by have := HNL.out; omega))
  have HB1 := hide (HB.out.trans hk.1)
  obtain ⟨a, n, c, hsv⟩ : ∃ a n c, sv = .slice a n c := by
    rcases ho.2 with ⟨hv, _⟩ | ⟨g, cap, cur, hv, _⟩
    · exact ⟨_, _, _, hv⟩
    · exact ⟨_, _, _, hv⟩
  subst hsv
  clear hs hk hp ho HC
  go_wp2_with fail
  refine HI.out.mono ?_
  rintro e w2 ⟨sv2, rfl, hs2, hg2⟩
  have HS2 := hide hs2
  have HB2 := hide (HB1.out.grown hg2 HB1.out.size (fun k hk => by have := (HO.out.lt k hk).1; omega))
  obtain ⟨a2, n2, c2, hsv2⟩ : ∃ a n c, sv2 = .slice a n c := by
    rcases hs2 with ⟨_, a, cap, h⟩ | ⟨g, o, cap, h, _⟩
    · exact ⟨_, _, _, h⟩
    · exact ⟨_, _, _, h⟩
  subst hsv2
  clear hs2 hg2 HI
  go_wp2_with fail
  go_ret
  exact ⟨.slice a2 n2 c2, rfl, HS2.out, HB2.out⟩
end
end Go.Proofs.YtgldbliohpfljaaGreatDoor
