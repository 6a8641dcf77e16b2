/-
  The walk of the document's ProgramParse.
-/
import Derived.Test.YtgldbliohpfljaaGreatDoorRlStayAll
import Derived.Deep.RegionHeld3
namespace Go.Proofs.YtgldbliohpfljaaGreatDoor
open Go.RowKit
/-- the two results' blocks, as they are made -/
structure RBox (N : Nat) (W : World) : Prop where
  p : W.heap[N]? = some (.cells #[.slice none 0 0, .slice none 0 0] 45 (0, 0))
  f : W.heap[N + 1]? = some (.cells #[.int .i64 0, .int .i64 0] 93 (0, 0))
/-- both results, stored -/
def put4 (W : World) (N : Nat) (a b c d : Value) : World := (((W.setCell ⟨N, 0, none⟩ a).setCell ⟨N, 1, none⟩ b).setCell ⟨N + 1, 0, none⟩ c).setCell ⟨N + 1, 1, none⟩ d
theorem put4_below {w W : World} (h : Below w.heap.size w W) (a b c d : Value) : Below w.heap.size w (put4 W w.heap.size a b c d) :=
  (((h.setCell (p := ⟨w.heap.size, 0, none⟩) (Nat.le_refl _) _).setCell (p := ⟨w.heap.size, 1, none⟩) (Nat.le_refl _) _).setCell (p := ⟨w.heap.size + 1, 0, none⟩) (by show w.heap.size ≤ w.heap.size + 1; omega) _).setCell (p := ⟨w.heap.size + 1, 1, none⟩) (by show w.heap.size ≤ w.heap.size + 1; omega) _
theorem put4_heap (W : World) (N : Nat) (a b c d : Value) (k : Nat) (h : N + 2 ≤ k) : (put4 W N a b c d).heap[k]? = W.heap[k]? := by
  unfold put4
  rw [Below.heap_setCell _ _ _ _ (fun e => by have e2 : k = N + 1 := e; omega), Below.heap_setCell _ _ _ _ (fun e => by have e2 : k = N + 1 := e; omega), Below.heap_setCell _ _ _ _ (fun e => by have e2 : k = N := e; omega), Below.heap_setCell _ _ _ _ (fun e => by have e2 : k = N := e; omega)]
/-- the frame of ProgramParse at its loop: what the loop leaves alone, its four variables, and all else -/
def pframe (s : ByteArray) (n N : Nat) (pv gv av iv : Value) (U : Nat → Value) : Act := ⟨[Value.string s, undef, Value.pointer (some ⟨n, 0, none⟩), Value.pointer (some ⟨n + 1, 0, none⟩), Value.pointer (some ⟨n + 1 + 1, 0, none⟩), pv, gv, av, undef, U 9, U 10, U 11, U 12, U 13, U 14, U 15, U 16, U 17, U 18, U 19, undef, Value.string s, Value.int IntKind.i64 (s.size : Int), Value.bool false, undef, undef, Value.string s, Value.slice (some ⟨n + 2 + 1, 0, none⟩) N N, Value.int IntKind.i64 (N : Int), iv, U 30, U 31, U 32, U 33, U 34, U 35, U 36, U 37, U 38, U 39, U 40, U 41, U 42, U 43, U 44, U 45, U 46, U 47, U 48, U 49, U 50, U 51, U 52, U 53, U 54, U 55, U 56, U 57, U 58, U 59, U 60, U 61, U 62, U 63, U 64, U 65, U 66, U 67, U 68, U 69, U 70, U 71, U 72, U 73, U 74, U 75, U 76, U 77, U 78, U 79, U 80, U 81, U 82, U 83, U 84, U 85, U 86, U 87, U 88, U 89, U 90, U 91, U 92, U 93, U 94, U 95, U 96, U 97, U 98, U 99, U 100, U 101, U 102, U 103, U 104, U 105, U 106, U 107, U 108, U 109, U 110, U 111, U 112, U 113, U 114, U 115, U 116, U 117, U 118, U 119, U 120, U 121, U 122, U 123, U 124, U 125, U 126, U 127, U 128, U 129, U 130, U 131, U 132, U 133, U 134, U 135, U 136, U 137, U 138, U 139, U 140, U 141, U 142, U 143, U 144, U 145, U 146, U 147, U 148, U 149, U 150, U 151, U 152, U 153, U 154, U 155, U 156, U 157, U 158, U 159, U 160, U 161, U 162, U 163, U 164, U 165, U 166, U 167, U 168, U 169, U 170, U 171, U 172, U 173, U 174, U 175, U 176, U 177, U 178, U 179, U 180, U 181, U 182, U 183, U 184, U 185, U 186, U 187, U 188, U 189, U 190, U 191, U 192, U 193, U 194, undef, undef, undef, undef, undef, undef, undef, undef, undef, undef, undef, undef, undef, undef, undef, undef, undef, undef, undef, undef].toArray, []⟩
theorem pframe_back {s : ByteArray} {n N : Nat} {pv gv av iv : Value} (l : List Value) (P : Value → Value → Value → Value → Prop) (hP : P pv gv av iv) (he : Act.mk l.toArray [] = pframe s n N pv gv av iv (fun k => l.getD k undef)) : ∃ pv gv av iv U, P pv gv av iv ∧ Act.mk l.toArray [] = pframe s n N pv gv av iv U := ⟨_, _, _, _, _, hP, he⟩
set_option maxHeartbeats 16000000 in
set_option maxRecDepth 100000 in
theorem rparse_any (s : ByteArray) (w : World) (hL : PLaid w) :
    Calls Tryz.prog 69 #[.string s] w (RParsed w (Ld.parse s.data.toList)) := by
  obtain ⟨wA, hwA⟩ : ∃ wA, wA = (w.alloc (.cells #[.slice none 0 0, .slice none 0 0] 45)).alloc (.cells #[.int .i64 0, .int .i64 0] 93) := ⟨_, rfl⟩
  have hbA : Below w.heap.size w wA := by rw [hwA]; exact ((Below.refl _ _).alloc (Nat.le_refl _) _).alloc (by simp) _
  have hzA : wA.heap.size = w.heap.size + 2 := by rw [hwA]; simp
  have HLA := hide (hL.below hbA)
  have HBX : Hid (∀ W, Below wA.heap.size wA W → RBox w.heap.size W) := by
    intro W hW
    refine ⟨(hW.block _ (by omega)).trans ?_, (hW.block _ (by omega)).trans ?_⟩
    · rw [hwA, Below.heap_alloc _ _ _ (by simp)]; exact heap_alloc_new _ _
    · rw [hwA]
      have h1 := heap_alloc_new (w.alloc (.cells #[.slice none 0 0, .slice none 0 0] 45)) (.cells #[.int .i64 0, .int .i64 0] 93)
      rw [World.size_alloc] at h1
      exact h1
  have HBA := hide hbA
  obtain ⟨T, hT⟩ : ∃ T, T = s.data.toList := ⟨_, rfl⟩
  have hTl : T.length = s.size := by rw [hT]; simp
  have HST : Hid (s = ⟨T.toArray⟩) := by show _ = _; rw [hT]
  rw [← hT]
  have HWA := hide hwA
  clear hT hwA hbA hL
  by_cases hlong : 20000 < s.size
  · have HPA : Hid (Ld.parse T = .inl (4, none)) := by show _ = _; unfold Ld.parse; rw [if_pos (by omega)]
    have hli : (20000 : Int) < (s.size : Int) := by omega
    have HBR := hide (rbare_any 4 wA)
    rw [HWA.out] at HBR
    unfold faultV at HBR
    have HFN : Hid (∀ W a b c d, Below wA.heap.size wA W → RParsed w (Ld.parse T) (.returned (.tuple #[.agg #[.slice none 0 0, .slice none 0 0], .agg #[.int .i64 4, .int .i64 (-1)]])) (put4 W w.heap.size a b c d)) := fun W a b c d hW => by
      rw [HPA.out]
      exact ⟨put4_below (HBA.out.trans (hW.mono HBA.out.size)) a b c d, rfl, by decide⟩
    go_enter Tryz.func69, Tryz.ntmps69
    go_wp2_with fail
    refine HBR.out.mono ?_
    rw [← HWA.out]
    rintro e w1 ⟨rfl, hb1⟩
    have hbx := HBX.out w1 hb1
    have z0 : w1.cell? ⟨w.heap.size, 0, none⟩ = some (.slice none 0 0) := by rw [Lib.cell_of_heap hbx.p]; rfl
    have z1 : w1.cell? ⟨w.heap.size, 1, none⟩ = some (.slice none 0 0) := by rw [Lib.cell_of_heap hbx.p]; rfl
    have z2 : w1.cell? ⟨w.heap.size + 1, 0, none⟩ = some (.int .i64 0) := by rw [Lib.cell_of_heap hbx.f]; rfl
    have z3 : w1.cell? ⟨w.heap.size + 1, 1, none⟩ = some (.int .i64 0) := by rw [Lib.cell_of_heap hbx.f]; rfl
    have y0 : w1.frozen? ⟨w.heap.size, 0, none⟩ = false := Lib.frozen_of_heap hbx.p 0
    have y1 : w1.frozen? ⟨w.heap.size, 1, none⟩ = false := Lib.frozen_of_heap hbx.p 1
    have y2 : w1.frozen? ⟨w.heap.size + 1, 0, none⟩ = false := Lib.frozen_of_heap hbx.f 0
    have y3 : w1.frozen? ⟨w.heap.size + 1, 1, none⟩ = false := Lib.frozen_of_heap hbx.f 1
    have HFI := hide (fun a b c d => HFN.out w1 a b c d hb1)
    unfold put4 at HFI
    clear hb1 hbx HBR HFN
    go_wp2_with fail
    refine bodyPost_ret_by (v := .tuple #[.agg #[.slice none 0 0, .slice none 0 0], .agg #[.int .i64 4, .int .i64 (-1)]]) ?_ rfl ?_
    · simp [results, Tryz.results69, go_sem, z0, z1, z2, z3]
    · exact HFI.out _ _ _ _
  · have hli : ¬ (20000 : Int) < (s.size : Int) := by omega
    obtain ⟨wB, hwB⟩ : ∃ wB, wB = wA.alloc (.cells #[.slice none 0 0, .slice none 0 0] 45) := ⟨_, rfl⟩
    have hbB : Below wA.heap.size wA wB := by rw [hwB]; exact (Below.refl _ _).alloc (Nat.le_refl _) _
    have hzB : wB.heap.size = w.heap.size + 3 := by rw [hwB]; simp; omega
    have hkB : wB.heap[wA.heap.size]? = some (.cells #[.slice none 0 0, .slice none 0 0] 45 (0, 0)) := by rw [hwB]; exact heap_alloc_new _ _
    obtain ⟨L, hL⟩ : ∃ L, L = Ld.split 10 T := ⟨_, rfl⟩
    have hsp := Ld.splitB_one 10 s
    have hTs : s.data.toList = T := by rw [HST.out]
    rw [hTs, ← hL] at hsp
    have hN : Lib.countB s ⟨#[10]⟩ + 1 = L.length := by rw [← hsp, List.length_map, Lib.splitB_all _ (by decide) 0 _ _ rfl]
    obtain ⟨m, hm⟩ := (HLA.out.below hbB).r.len
    have HSP := hide (Tryz.strings_Split s ⟨#[10]⟩ m wB (by omega) hm (by decide))
    obtain ⟨wS, hwS⟩ : ∃ wS, wS = wB.alloc (.cells ((Lib.splitB ⟨#[10]⟩ 0 (Lib.countB s ⟨#[10]⟩) s).map Value.string).toArray 9) := ⟨_, rfl⟩
    have HCE : Hid (∀ (k : Nat) x, L[k]? = some x → wS.cell? ⟨wB.heap.size, k, none⟩ = some (.string ⟨x.toArray⟩)) := fun k x hx => by
      rw [hwS, Lib.cell_of_heap (heap_alloc_new wB _) k, List.getElem?_toArray, List.getElem?_map]
      rw [← hsp, List.getElem?_map, Option.map_eq_some_iff] at hx
      obtain ⟨y, hy, rfl⟩ := hx
      rw [hy]
      simp
    have hbS : Below wB.heap.size wB wS := by rw [hwS]; exact (Below.refl _ _).alloc (Nat.le_refl _) _
    have hzS : wS.heap.size = w.heap.size + 4 := by rw [hwS]; simp; omega
    rw [hN, ← hwS] at HSP
    obtain ⟨N, hNN⟩ : ∃ N, N = L.length := ⟨_, rfl⟩
    rw [← hNN] at HSP
    have HN := hide hNN
    have hN2 : N ≤ 20001 := by
      have h1 : ∀ l : List UInt8, (Ld.split 10 l).length ≤ l.length + 1 := by
        intro l
        induction l with
        | nil => simp [Ld.split]
        | cons a r ih =>
          unfold Ld.split
          by_cases h : a = 10
          · rw [if_pos h]; simp; omega
          · rw [if_neg h]
            cases hs : Ld.split 10 r with
            | nil => simp
            | cons x t => rw [hs] at ih; simp at ih ⊢; omega
      have := h1 T
      rw [← hL] at this
      omega
    have HTOT : Hid (∀ j, Ld.total (L.take j) ≤ 20001) := fun j => by
      have h1 := Ld.total_take L j
      have h2 := Ld.total_split T
      rw [← hL] at h2
      omega
    have HLEN : Hid (∀ (j : Nat) x, L[j]? = some x → x.length ≤ 20000) := fun j x hx => by
      have h1 := Ld.total_next L j x hx
      have h2 := Ld.total_take L (j + 1)
      have h3 := Ld.total_split T
      rw [← hL] at h3
      omega
    have HLN : Hid (Ld.lns T = Ld.linesOf L) := by show _ = _; rw [hL]; rfl
    have HZ : Hid (∀ W, Below wA.heap.size wA W → (W.cell? ⟨w.heap.size, 0, none⟩ = some (.slice none 0 0) ∧ W.cell? ⟨w.heap.size, 1, none⟩ = some (.slice none 0 0) ∧ W.cell? ⟨w.heap.size + 1, 0, none⟩ = some (.int .i64 0) ∧ W.cell? ⟨w.heap.size + 1, 1, none⟩ = some (.int .i64 0)) ∧ W.frozen? ⟨w.heap.size, 0, none⟩ = false ∧ W.frozen? ⟨w.heap.size, 1, none⟩ = false ∧ W.frozen? ⟨w.heap.size + 1, 0, none⟩ = false ∧ W.frozen? ⟨w.heap.size + 1, 1, none⟩ = false) := fun W hW => by
      have hbx := HBX.out W hW
      exact ⟨⟨by rw [Lib.cell_of_heap hbx.p]; rfl, by rw [Lib.cell_of_heap hbx.p]; rfl, by rw [Lib.cell_of_heap hbx.f]; rfl, by rw [Lib.cell_of_heap hbx.f]; rfl⟩, Lib.frozen_of_heap hbx.p 0, Lib.frozen_of_heap hbx.p 1, Lib.frozen_of_heap hbx.f 0, Lib.frozen_of_heap hbx.f 1⟩
    have HX0 : Hid (RdY (w.heap.size + 1 + 1) (w.heap.size + 4) wA [] [] [] [] (.slice none 0 0) (.slice none 0 0) (.slice none 0 0) (.slice none 0 0) [] wS) := by
      have e : w.heap.size + 1 + 1 = wA.heap.size := by omega
      rw [e]
      exact RdY.start ((hbS.block _ (by omega)).trans hkB) (hbB.trans (hbS.mono (by omega)))
    have HSB : Hid (wS.heap[wB.heap.size]? = wS.heap[wB.heap.size]?) := by show _ = _; rfl
    rw [hwB, HWA.out] at HSP
    have HWB := hide hwB
    clear hwS hsp hN hm hkB hNN hTs
    go_enter Tryz.func69, Tryz.ntmps69
    go_wp2_with fail
    refine HSP.out.mono ?_
    rintro e w1 ⟨rfl, rfl⟩
    rw [← HWA.out, ← HWB.out]
    go_wp2_with fail
    clear HSP
    have HREL : Hid (∃ R : Value → Value → Value → Value → World → Prop, R = fun pv gv av iv wr => ∃ (j : Nat) (ns : List Ld.Nme) (rs : List Ld.Rng) (ps gs : List Nat) (nv rv : Value) (vs : List Value), j ≤ N ∧ iv = .int .i64 (j : Int) ∧ av = .int .i64 ((Ld.total (L.take j) : Nat) : Int) ∧ (∃ a c, pv = .slice a ps.length c) ∧ (∃ a c, gv = .slice a gs.length c) ∧ Hid (RdY (w.heap.size + 1 + 1) (w.heap.size + 4) wA ns rs ps gs nv rv pv gv vs wr) ∧ Hid (Ld.takes ⟨[], [], []⟩ (Ld.linesOf (L.take j)) = .inr ⟨ns, rs, ps ++ gs⟩) ∧ Hid (ns.length = ps.length ∧ rs.length = gs.length) ∧ Hid (wr.heap[wB.heap.size]? = w1.heap[wB.heap.size]? ∧ w.heap.size + 4 ≤ wr.heap.size)) := ⟨_, rfl⟩
    obtain ⟨R, hR⟩ := HREL.out
    have HR := hide hR
    clear hR HREL
    obtain ⟨INV, hINV⟩ : ∃ I : Act → World → Prop, I = fun a' wr => ∃ pv gv av iv U, R pv gv av iv wr ∧ a' = pframe s w.heap.size N pv gv av iv U := ⟨_, rfl⟩
    have HINV : Hid (∀ a' wr, INV a' wr ↔ ∃ pv gv av iv U, R pv gv av iv wr ∧ a' = pframe s w.heap.size N pv gv av iv U) := by rw [hINV]; exact fun _ _ => Iff.rfl
    clear hINV
    refine wp_loop INV (fun a' _ => N - (intOf (a'.tmps.getD 29 undef)).toNat) ?atStart ?round
    case atStart =>
      refine (HINV.out _ _).2 ?_
      exact pframe_back _ (fun pv gv av iv => R pv gv av iv w1) (by rw [HR.out]; exact ⟨0, [], [], [], [], _, _, [], Nat.zero_le _, rfl, rfl, ⟨_, _, rfl⟩, ⟨_, _, rfl⟩, HX0.out, (rfl : _ = _), ⟨rfl, rfl⟩, rfl, by omega⟩) rfl
    case round =>
      intro a' wr hinv
      replace hinv := (HINV.out _ _).1 hinv
      obtain ⟨pv, gv, av, iv, U, hrel, rfl⟩ := hinv
      rw [HR.out] at hrel
      unfold pframe
      clear HX0 HSB
      obtain ⟨j, ns, rs, ps, gs, nv, rv, vs, hj, rfl, rfl, ⟨pa, pc, rfl⟩, ⟨ga, gc, rfl⟩, HX, HT, HLL, HK⟩ := hrel
      have HBW : Hid (Below wA.heap.size wA wr) := by rw [hzA]; exact HX.out.lo
      have HCN : Hid (ns.length + rs.length ≤ 20001) := by
        have h1 := (Ld.takes_len _ _ _ HT.out).1
        have h2 := Ld.linesOf_len (L.take j)
        rw [List.length_take] at h2
        simp at h1
        show _ ≤ _
        omega
      by_cases hlt : j < N
      · have hjL : j < L.length := by rw [← HN.out]; exact hlt
        obtain ⟨ln, hln⟩ : ∃ ln, L[j]? = some ln := ⟨_, List.getElem?_eq_getElem hjL⟩
        have hl2 := HLEN.out j ln hln
        have c0 : wr.cell? ⟨w.heap.size + 2 + 1, j, none⟩ = some (.string ⟨ln.toArray⟩) := by
          have e : w.heap.size + 2 + 1 = wB.heap.size := by omega
          rw [e, World.cell?_of_block HK.out.1]
          exact HCE.out j ln hln
        have htl := HTOT.out j
        have HTN := hide (Ld.total_next L j ln hln)
        have HWD := hide (rwords2 ln wr hl2 (HLA.out.below HBW.out))
        have HWN := hide (Ld.words_blank ln)
        have HWC := hide (words_count ln hl2)
        have HNX := hide (fun r h hb => Ld.takes_next L j ln r hln h hb)
        have HBL := hide (fun hb => Ld.takes_blank L j ln hln hb)
        have hji : (j : Int) < (N : Int) := by omega
        have hsz : (⟨ln.toArray⟩ : ByteArray).size = ln.length := by simp [ByteArray.size]
        generalize Ld.total (L.take j) = st at *
        clear hln
        go_wp2_with fail
        refine HWD.out.mono ?_
        rintro e w2 ⟨wa, wc, rfl, hwat, hb2⟩
        have HB2 := hide hb2
        have HLP := hide (HLA.out.below (HBW.out.trans (hb2.mono HBW.out.size)))
        have HX2 := hide (HX.out.below hb2)
        have HK2 : Hid (w2.heap[wB.heap.size]? = w1.heap[wB.heap.size]? ∧ w.heap.size + 4 ≤ w2.heap.size) := ⟨(hb2.block _ (by have := HK.out.2; omega)).trans HK.out.1, Nat.le_trans HK.out.2 hb2.size⟩
        obtain ⟨wn, hwn⟩ : ∃ wn, wn = (Ld.words ln).length := ⟨_, rfl⟩
        rw [← hwn]
        have HWNN := hide hwn
        clear hb2 HWD hwat c0 hwn
        cases hwl : Ld.words ln with
        | nil =>
          have HBB := hide (HBL.out (HWN.out.1 hwl))
          have hn0 : wn = 0 := by rw [HWNN.out, hwl]; rfl
          subst hn0
          clear hwl
          go_wp2_with fail
          refine ⟨?inv, ?measure⟩
          case inv =>
            refine (HINV.out _ _).2 ?_
            refine pframe_back _ _ ?_ rfl
            rw [HR.out]
            exact ⟨j + 1, ns, rs, ps, gs, nv, rv, vs, by omega, by go_num, by rw [HTN.out]; go_num, ⟨_, _, rfl⟩, ⟨_, _, rfl⟩, HX2.out, by rw [HBB.out]; exact HT.out, HLL.out, HK2.out⟩
          case measure => simp [intOf]; omega
        | cons w0 wrest =>
          have HIB := hide (Tryz.strings_IndexByte ⟨ln.toArray⟩ 61 w2)
          have e0 : (⟨ln.toArray⟩ : ByteArray).data.toList = ln := rfl
          rw [e0, show (61 : Int).toNat.toUInt8 = 61 from rfl] at HIB
          have HNB : Hid (Ld.isBlank ln = false) := by
            show _ = _
            rw [← Bool.not_eq_true]
            intro h
            rw [HWN.out.2 h] at hwl
            cases hwl
          have HN1 := hide (HNX.out _ HT.out HNB.out)
          have HFE : Hid (∀ (er p : Nat) (W : World) (a b c d : Value), er ≠ 0 → Ld.take ⟨ns, rs, ps ++ gs⟩ st ln = .inl (er, p) → Below wA.heap.size wA W → RParsed w (Ld.parse T) (.returned (.tuple #[.agg #[.slice none 0 0, .slice none 0 0], .agg #[.int .i64 (er : Int), .int .i64 (p : Int)]])) (put4 W w.heap.size a b c d)) := fun er p W a b c d he ht hW => by
            have h1 : Ld.parse T = .inl (er, some p) := Ld.parse_stops T (by omega) er p (by rw [HLN.out]; exact Ld.takes_stop L (j + 1) _ (by rw [HN1.out]; exact ht))
            rw [h1]
            exact ⟨put4_below (HBA.out.trans (hW.mono HBA.out.size)) a b c d, rfl, he⟩
          have HWL := hide hwl
          have hwn0 : wn = wrest.length + 1 := by rw [HWNN.out, hwl]; rfl
          have hwp : wn ≠ 0 := by omega
          have hwc := HWC.out
          rw [← HWNN.out] at hwc
          have hwi : ¬ (wn : Int) = 0 := by omega
          clear hwl hwn0 e0 HBL HNB HNX
          rcases Ld.index_split 61 ln with ⟨hi, hno⟩ | ⟨hd, tl, hat, hno, hi⟩
          · rw [hi] at HIB
            have HNO := hide hno
            clear hi hno
            go_wp2_with fail
            refine HIB.out.mono ?_
            rintro e w2' ⟨rfl, rfl⟩
            have HWD := hide (rwords2 ln w2' hl2 HLP.out)
            rw [← HWNN.out] at HWD
            clear HIB
            go_wp2_with fail
            refine HWD.out.mono ?_
            rintro e w3 ⟨wa3, wc3, rfl, hwat, hb3⟩
            have HB3 := hide hb3
            have HL3 := hide (HLP.out.below hb3)
            have HX3 := hide (HX2.out.below hb3)
            have HK3 : Hid (w3.heap[wB.heap.size]? = w1.heap[wB.heap.size]? ∧ w.heap.size + 4 ≤ w3.heap.size) := ⟨(hb3.block _ (by have := HK2.out.2; omega)).trans HK2.out.1, Nat.le_trans HK2.out.2 hb3.size⟩
            have HW3 := hide hwat
            obtain ⟨g3, rfl, hwc3, d0⟩ := hwat 0 w0 (by rw [HWL.out]; rfl)
            rw [← HWNN.out] at hwc3
            obtain ⟨sv, n0, ⟨sa, sn, sc, rfl⟩, hstr⟩ := HL3.out.wd.names
            have HIX : Hid (∀ W, Below w3.heap.size w3 W → Calls Tryz.prog 111 #[.slice sa sn sc, .string ⟨w0.toArray⟩] W fun e w' => e = .returned (.int .i64 (Ld.idx Ld.nameL w0)) ∧ W = w') := fun W hW => by
              refine (rindex_any Ld.nameL _ w0 W (hstr.below hW)).mono ?_
              rintro e w' ⟨h1, h2⟩
              exact ⟨h1, h2.symm⟩
            have HDA : Hid (Below w3.heap.size w3 w3.drew) := ⟨rfl, rfl, rfl, Nat.le_refl _, fun _ _ => rfl⟩
            have hg3 : g3 < w3.heap.size := World.block_lt_of_cell? _ _ d0
            have hgn : 2 < w3.heap.size := World.block_lt_of_cell? _ _ n0
            clear hb3 HWD hwat hstr HX2 HK2
            go_upto_region 29 with fail
            have hw0i : (0 : Int) < (wn : Int) := by omega
            have hw0n : 0 < wn := by omega
            have HDB : Hid (∀ o, Below w3.heap.size w3 (w3.alloc o).drew) := fun o => ⟨rfl, rfl, rfl, by simp, fun k hk => Below.heap_alloc _ _ _ hk⟩
            go_cut [17] (fun t wx => t = .pointer (some ⟨w3.heap.size, 0, none⟩) ∧ Hid (wx.heap[w3.heap.size]? = some (.cells #[.string ⟨#[]⟩, .int .i64 (Ld.idx Ld.nameL w0), .int .i64 0] 144 (0, 0)) ∧ Below w3.heap.size w3 wx))
            case first =>
              go_region_held3 (fun W => W.cell? ⟨2, 0, none⟩ = some (.slice sa sn sc) ∧ W.cell? ⟨g3, 0, none⟩ = some (.string ⟨w0.toArray⟩)) (go_keep) ((go_at_call 111; (with_reducible refine (HIX.out _ (by first | exact HDA.out | exact HDA.out.alloc (Nat.le_refl _) _ | exact HDB.out _)).mono ?_); rintro e w4 ⟨rfl, rfl⟩))
              all_goals go_wp2_with fail
              all_goals go_meet
              all_goals exact ⟨rfl, heap_alloc_new w3 _, HDB.out _⟩
            case rest =>
              obtain ⟨rfl, HCUT⟩ := hcut
              have k0 : wc.cell? ⟨w3.heap.size, 0, none⟩ = some (.string ⟨#[]⟩) := by rw [Lib.cell_of_heap HCUT.out.1]; rfl
              have k1 : wc.cell? ⟨w3.heap.size, 1, none⟩ = some (.int .i64 (Ld.idx Ld.nameL w0)) := by rw [Lib.cell_of_heap HCUT.out.1]; rfl
              have k2 : wc.cell? ⟨w3.heap.size, 2, none⟩ = some (.int .i64 0) := by rw [Lib.cell_of_heap HCUT.out.1]; rfl
              have q0 : wc.frozen? ⟨w3.heap.size, 0, none⟩ = false := Lib.frozen_of_heap HCUT.out.1 0
              have q2 : wc.frozen? ⟨w3.heap.size, 2, none⟩ = false := Lib.frozen_of_heap HCUT.out.1 2
              have HBZ : Hid (Below wA.heap.size wA wc) := HBW.out.trans ((HB2.out.trans ((HB3.out.trans (HCUT.out.2.mono HB3.out.size)).mono HB2.out.size)).mono HBW.out.size)
              have hw0 : w0 ≠ [] := (words_len ln hl2 w0 (by rw [HWL.out]; simp)).2
              have hix := Ld.idx_names w0 hw0
              have hkl := Ld.kindN_le w0
              rw [hix] at k1
              have HBC := hide HCUT.out.2
              clear hix HIX HDA HDB n0 d0
              by_cases hk0 : Ld.kindN w0 = 0
              · rw [if_pos hk0] at k1
                have HTK : Hid (Ld.take ⟨ns, rs, ps ++ gs⟩ st ln = .inl (3, st)) := Ld.take_none _ _ _ HNO.out (by rw [HWL.out]; exact Ld.rdName_bad _ _ hk0)
                obtain ⟨⟨z0, z1, z2, z3⟩, y0, y1, y2, y3⟩ := HZ.out wc HBZ.out
                have HFI := hide (fun a b c d => HFE.out 3 st wc a b c d (by decide) HTK.out HBZ.out)
                unfold put4 at HFI
                clear HFE
                go_wp2_with fail
                refine bodyPost_ret_by (v := .tuple #[.agg #[.slice none 0 0, .slice none 0 0], .agg #[.int .i64 3, .int .i64 (st : Int)]]) ?_ rfl ?_
                · simp [results, Tryz.results69, go_sem, z0, z1, z2, z3]
                · exact HFI.out _ _ _ _
              · rw [if_neg hk0] at k1
                by_cases hk3 : Ld.kindN w0 < 3
                · have hk1i : ¬ ((Ld.kindN w0 : Nat) : Int) < 1 := by omega
                  have hk3i : ((Ld.kindN w0 : Nat) : Int) < 3 := by omega
                  have hk3j : ¬ (3 : Int) ≤ ((Ld.kindN w0 : Nat) : Int) := by omega
                  by_cases hw2 : wn = 2
                  · subst hw2
                    obtain ⟨nm, hnm⟩ : ∃ nm, wrest = [nm] := by
                      have h1 := HWNN.out
                      rw [HWL.out] at h1
                      match wrest, h1 with
                      | [nm], _ => exact ⟨nm, rfl⟩
                      | [], h => simp at h
                      | _ :: _ :: _, h => simp at h
                    subst hnm
                    have hnl := (words_len ln hl2 nm (by rw [HWL.out]; simp)).1
                    have HRD : Hid (Ld.rdName (Ld.words ln) = some ⟨nm, ((Ld.kindN w0 : Nat) : Int), 0⟩) := by show _ = _; rw [HWL.out]; exact Ld.rdName_two _ _ hk0 hk3
                    have HNB : Hid (nm.length ≤ 20000 ∧ I64 ((Ld.kindN w0 : Nat) : Int) ∧ I64 0) := ⟨hnl, ⟨by omega, by omega⟩, ⟨by omega, by omega⟩⟩
                    obtain ⟨g4, hg4, _, d1⟩ := HW3.out 1 nm (by rw [HWL.out]; rfl)
                    simp only [Option.some.injEq, Addr.mk.injEq, and_true] at hg4
                    subst hg4
                    have d1' := (HBC.out.cell (World.block_lt_of_cell? _ _ d1)).trans d1
                    generalize ((Ld.kindN w0 : Nat) : Int) = K at *
                    obtain ⟨C, hC⟩ : ∃ C : Int, C = 0 := ⟨_, rfl⟩
                    rw [← hC] at k2 HRD HNB
                    obtain ⟨wE, hwE⟩ : ∃ wE, wE = wc.setCell ⟨w3.heap.size, 0, none⟩ (.string ⟨nm.toArray⟩) := ⟨_, rfl⟩
                    have HBE : Hid (Below w3.heap.size w3 wE) := by rw [hwE]; exact HBC.out.setCell (p := ⟨w3.heap.size, 0, none⟩) (Nat.le_refl _) _
                    have e0 : wE.cell? ⟨w3.heap.size, 0, none⟩ = some (.string ⟨nm.toArray⟩) := by rw [hwE]; exact World.cell?_setCell_same _ _ _ k0
                    have e1 : wE.cell? ⟨w3.heap.size, 1, none⟩ = some (.int .i64 K) := by rw [hwE, World.cell?_setCell_other _ _ _ _ (by simp)]; exact k1
                    have e2 : wE.cell? ⟨w3.heap.size, 2, none⟩ = some (.int .i64 C) := by rw [hwE, World.cell?_setCell_other _ _ _ _ (by simp)]; exact k2
                    clear d1 hC
                    go_upto_region 38 with fail
                    rw [← hwE]
                    clear hwE k0 k1 k2 q0 q2
                    have HXE := hide (HX3.out.below HBE.out)
                    have HKE : Hid (wE.heap[wB.heap.size]? = w1.heap[wB.heap.size]? ∧ w.heap.size + 4 ≤ wE.heap.size) := ⟨(HBE.out.block _ (by have := HK3.out.2; omega)).trans HK3.out.1, Nat.le_trans HK3.out.2 HBE.out.size⟩
                    have HBZ : Hid (Below wA.heap.size wA wE) := HBW.out.trans ((HB2.out.trans ((HB3.out.trans (HBE.out.mono HB3.out.size)).mono HB2.out.size)).mono HBW.out.size)
                    cases hgs : gs with
                    | cons g0 gr =>
                      have hrs : rs ≠ [] := fun e => by have := HLL.out.2; rw [e, hgs] at this; simp at this
                      have HTK : Hid (Ld.take ⟨ns, rs, ps ++ gs⟩ st ln = .inl (3, st)) := Ld.take_late _ _ _ HNO.out hrs
                      rw [← hgs]
                      have hgl : 0 < gs.length := by rw [hgs]; simp
                      have hgi : (0 : Int) < (gs.length : Int) := by omega
                      clear hgs hrs
                      obtain ⟨⟨z0, z1, z2, z3⟩, y0, y1, y2, y3⟩ := HZ.out wE HBZ.out
                      have HFI := hide (fun a b c d => HFE.out 3 st wE a b c d (by decide) HTK.out HBZ.out)
                      unfold put4 at HFI
                      clear HFE
                      go_wp2_with fail
                      refine bodyPost_ret_by (v := .tuple #[.agg #[.slice none 0 0, .slice none 0 0], .agg #[.int .i64 3, .int .i64 (st : Int)]]) ?_ rfl ?_
                      · simp [results, Tryz.results69, go_sem, z0, z1, z2, z3]
                      · exact HFI.out _ _ _ _
                    | nil =>
                      subst hgs
                      have hrs : rs = [] := List.length_eq_zero_iff.1 HLL.out.2
                      have HTK := hide (Ld.take_name ⟨ns, rs, ps ++ []⟩ st ln _ HNO.out HRD.out hrs)
                      obtain ⟨na, nc, hnv⟩ := own_slice HXE.out.on
                      subst hnv
                      have hqe := HKE.out.2
                      have b0 : wE.cell? ⟨w.heap.size + 1 + 1, 0, none⟩ = some (.slice na ns.length nc) := by rw [Lib.cell_of_heap HXE.out.blk]; rfl
                      obtain ⟨i0, hi0, hz0, hz1, hz2⟩ := info_parts Tryz.infoRName
                      obtain ⟨i1, hi1, hy0, hy1, hy2⟩ := info_parts Tryz.infoInt
                      have hcn := HCN.out
                      have hcp : ps.length ≤ 20001 := by have := HLL.out.1; omega
                      have HOWN : Hid (∀ o, (wE.alloc o).ownsRow (w.heap.size + 4) 144 3 (.slice na ns.length nc) ns.length (ns.flatMap nmCells)) := fun o => HXE.out.on.alloc o
                      have HONE : Hid (∀ u ∈ nmCells ⟨nm, K, C⟩, u.oneCell' = true) := by
                        intro u hu
                        simp only [nmCells, List.mem_cons, List.not_mem_nil, or_false] at hu
                        rcases hu with rfl | rfl | rfl <;> rfl
                      have HONI : Hid (∀ u ∈ [Value.int .i64 (st : Int)], u.oneCell' = true) := by
                        intro u hu
                        simp only [List.mem_cons, List.not_mem_nil, or_false] at hu
                        subst hu; rfl
                      have hbe : w.heap.size + 1 + 1 < wE.heap.size := by omega
                      have h3e : w3.heap.size < wE.heap.size := World.block_lt_of_cell? _ _ e0
                      clear hrs HFE
                      go_wp2_with (first
                        | (at_builtin; refine wpList_append_lies _ rfl (.tmp 185) (.tmp 187) 42 rfl (w.heap.size + 4) 144 i0 _ 3 32 Tryz.underlying42 hi0 hz0 hz1 hz2 rfl (by decide) (.slice na ns.length nc) ns.length (ns.flatMap nmCells) rfl (HOWN.out _) ⟨wE.heap.size, 0, none⟩ 1 1 (nmCells ⟨nm, K, C⟩) rfl rfl (World.news_of_block (heap_alloc_new wE _)) HONE.out (by decide) (by unfold maxLen; omega) (by omega) (by simp; omega) (wE.heap.size + 1) (by simp) ?_; intro g cap wF hown hgrow hat hltg; have HOW2 := hide (HXE.out.midP _ hgrow); have hzF := hgrow.size; rw [World.size_alloc] at hzF; have HOW1 := hide hown; have HGR1 := hide hgrow; have HAT1 := hide hat; clear hown hgrow hat)
                        | (at_builtin; refine wpList_append_lies _ rfl (.tmp 189) (.tmp 191) 36 rfl (w.heap.size + 4) 3 i1 _ 1 8 Tryz.underlying36 hi1 hy0 hy1 hy2 rfl (by decide) (.slice pa ps.length pc) ps.length (ps.map intV) rfl (HOW2.out.alloc _) ⟨wF.heap.size, 0, none⟩ 1 1 [.int .i64 (st : Int)] rfl rfl (World.news_of_block (heap_alloc_new wF _)) HONI.out (by decide) (by unfold maxLen; omega) (by omega) (by simp; omega) (wF.heap.size + 1) (by simp) ?_; intro g' cap' wG hown hgrow hat hltg'; have hzG := hgrow.size; rw [World.size_alloc] at hzG; have HNE := hide (HXE.out.name (by omega) hqe ⟨nm, K, C⟩ HNB.out st g cap g' cap' _ _ HOW1.out HGR1.out HAT1.out hown hgrow hat); have HKP := hide (HXE.out.keepN hqe _ _ HGR1.out hgrow); have hbk := (HKP.out (w.heap.size + 1 + 1) (by omega)).trans HXE.out.blk; have bA : wG.cell? ⟨w.heap.size + 1 + 1, 0, none⟩ = some (.slice na ns.length nc) := (by rw [Lib.cell_of_heap hbk]; rfl); have bF : wG.frozen? ⟨w.heap.size + 1 + 1, 0, none⟩ = false := Lib.frozen_of_heap hbk 0; clear hbk hown hgrow hat))
                      refine ⟨?inv, ?measure⟩
                      case inv =>
                        refine (HINV.out _ _).2 ?_
                        refine pframe_back _ _ ?_ rfl
                        rw [HR.out]
                        refine ⟨j + 1, ns ++ [⟨nm, K, C⟩], rs, ps ++ [st], [], .slice (some ⟨g, 0, none⟩) (ns.length + 1) cap, rv, vs, ?_⟩
                        refine ⟨by omega, by go_num, by rw [HTN.out]; go_num, ⟨some ⟨g', 0, none⟩, cap', by rw [List.length_append]; rfl⟩, ⟨ga, gc, rfl⟩, HNE.out, ?_, ⟨by simp [HLL.out.1], HLL.out.2⟩, ?_, ?_⟩
                        · show _ = _
                          rw [HN1.out, HTK.out]
                          simp
                        · rw [Below.heap_setCell _ _ _ _ (fun e => by have e2 : wB.heap.size = w.heap.size + 1 + 1 := e; omega), HKP.out _ (by omega)]
                          exact HKE.out.1
                        · skip
                          simp [World.setCell]
                          omega
                      case measure => simp [intOf]; omega
                  · have HTK : Hid (Ld.take ⟨ns, rs, ps ++ gs⟩ st ln = .inl (3, st)) := Ld.take_none _ _ _ HNO.out (by rw [HWL.out]; exact Ld.rdName_few _ _ hk3 (by have := HWNN.out; rw [HWL.out] at this; omega))
                    have hw2i : ¬ (wn : Int) = 2 := by omega
                    generalize ((Ld.kindN w0 : Nat) : Int) = K at *
                    obtain ⟨⟨z0, z1, z2, z3⟩, y0, y1, y2, y3⟩ := HZ.out wc HBZ.out
                    have HFI := hide (fun a b c d => HFE.out 3 st wc a b c d (by decide) HTK.out HBZ.out)
                    unfold put4 at HFI
                    clear HFE
                    go_wp2_with fail
                    refine bodyPost_ret_by (v := .tuple #[.agg #[.slice none 0 0, .slice none 0 0], .agg #[.int .i64 3, .int .i64 (st : Int)]]) ?_ rfl ?_
                    · simp [results, Tryz.results69, go_sem, z0, z1, z2, z3]
                    · exact HFI.out _ _ _ _
                · have hk1i : ¬ ((Ld.kindN w0 : Nat) : Int) < 1 := by omega
                  have hk3i : ¬ ((Ld.kindN w0 : Nat) : Int) < 3 := by omega
                  have hk3j : (3 : Int) ≤ ((Ld.kindN w0 : Nat) : Int) := by omega
                  by_cases hw3 : wn = 3
                  · subst hw3
                    obtain ⟨nm, cw, hnm⟩ : ∃ nm cw, wrest = [nm, cw] := by
                      have h1 := HWNN.out
                      rw [HWL.out] at h1
                      match wrest, h1 with
                      | [nm, cw], _ => exact ⟨nm, cw, rfl⟩
                      | [], h => simp at h
                      | [_], h => simp at h
                      | _ :: _ :: _ :: _, h => simp at h
                    subst hnm
                    have hnl := (words_len ln hl2 nm (by rw [HWL.out]; simp)).1
                    have hcl := (words_len ln hl2 cw (by rw [HWL.out]; simp)).1
                    have HRT : Hid (Ld.rdName (Ld.words ln) = (Ld.rdCount cw).map fun n => ⟨nm, ((Ld.kindN w0 : Nat) : Int), n⟩) := by show _ = _; rw [HWL.out]; exact Ld.rdName_three _ _ _ (by omega)
                    have HKI : Hid (I64 ((Ld.kindN w0 : Nat) : Int)) := ⟨by omega, by omega⟩
                    obtain ⟨g4, hg4, _, d1⟩ := HW3.out 1 nm (by rw [HWL.out]; rfl)
                    simp only [Option.some.injEq, Addr.mk.injEq, and_true] at hg4
                    subst hg4
                    obtain ⟨g5, hg5, _, d2⟩ := HW3.out 2 cw (by rw [HWL.out]; rfl)
                    simp only [Option.some.injEq, Addr.mk.injEq, and_true] at hg5
                    subst hg5
                    have d1' := (HBC.out.cell (World.block_lt_of_cell? _ _ d1)).trans d1
                    generalize ((Ld.kindN w0 : Nat) : Int) = K at *
                    obtain ⟨wN, hwN⟩ : ∃ wN, wN = wc.setCell ⟨w3.heap.size, 0, none⟩ (.string ⟨nm.toArray⟩) := ⟨_, rfl⟩
                    have hbN : Below w3.heap.size w3 wN := by rw [hwN]; exact HBC.out.setCell (p := ⟨w3.heap.size, 0, none⟩) (Nat.le_refl _) _
                    have HBN := hide hbN
                    have m0 : wN.cell? ⟨w3.heap.size, 0, none⟩ = some (.string ⟨nm.toArray⟩) := by rw [hwN]; exact World.cell?_setCell_same _ _ _ k0
                    have m1 : wN.cell? ⟨w3.heap.size, 1, none⟩ = some (.int .i64 K) := by rw [hwN, World.cell?_setCell_other _ _ _ _ (by simp)]; exact k1
                    have m2 : wN.cell? ⟨w3.heap.size, 2, none⟩ = some (.int .i64 0) := by rw [hwN, World.cell?_setCell_other _ _ _ _ (by simp)]; exact k2
                    have mz : wN.frozen? ⟨w3.heap.size, 2, none⟩ = false := by rw [hwN, World.frozen?_setCell]; exact q2
                    have d2' := (hbN.cell (World.block_lt_of_cell? _ _ d2)).trans d2
                    have hln := HL3.out.below hbN
                    have HNU := hide (rcount_any cw wN hcl hln.errs hln.pows hln.low)
                    clear d1 d2 hbN hln
                    go_upto_region 34 with fail
                    rw [← hwN]
                    have HWN1 := hide hwN
                    clear hwN k0 k1 k2 q0 q2 d1'
                    go_wp2_with fail
                    refine HNU.out.mono ?_
                    rintro e wO ⟨C, hC64, rfl, hCs, hbO⟩
                    have HBO := hide (HBN.out.trans (hbO.mono HBN.out.size))
                    have m0' := (hbO.cell (World.block_lt_of_cell? _ _ m0)).trans m0
                    have m1' := (hbO.cell (World.block_lt_of_cell? _ _ m1)).trans m1
                    have m2' := (hbO.cell (World.block_lt_of_cell? _ _ m2)).trans m2
                    have mz' := (hbO.frozen (World.block_lt_of_cell? _ _ m2)).trans mz
                    clear HNU m0 m1 m2 mz hbO
                    cases hrc : Ld.rdCount cw with
                    | none =>
                      have HTK : Hid (Ld.take ⟨ns, rs, ps ++ gs⟩ st ln = .inl (3, st)) := Ld.take_none _ _ _ HNO.out (by rw [HRT.out, hrc]; rfl)
                      rw [show (none : Option Int).isSome = false from rfl]
                      have HBZ : Hid (Below wA.heap.size wA wO) := HBW.out.trans ((HB2.out.trans ((HB3.out.trans (HBO.out.mono HB3.out.size)).mono HB2.out.size)).mono HBW.out.size)
                      clear hrc hCs
                      obtain ⟨⟨z0, z1, z2, z3⟩, y0, y1, y2, y3⟩ := HZ.out wO HBZ.out
                      have HFI := hide (fun a b c d => HFE.out 3 st wO a b c d (by decide) HTK.out HBZ.out)
                      unfold put4 at HFI
                      clear HFE
                      go_wp2_with fail
                      refine bodyPost_ret_by (v := .tuple #[.agg #[.slice none 0 0, .slice none 0 0], .agg #[.int .i64 3, .int .i64 (st : Int)]]) ?_ rfl ?_
                      · simp [results, Tryz.results69, go_sem, z0, z1, z2, z3]
                      · exact HFI.out _ _ _ _
                    | some C' =>
                      obtain rfl := hCs C' hrc
                      rw [show (some C').isSome = true from rfl]
                      have HRD : Hid (Ld.rdName (Ld.words ln) = some ⟨nm, K, C'⟩) := by show _ = _; rw [HRT.out, hrc]; rfl
                      have HNB : Hid (nm.length ≤ 20000 ∧ I64 K ∧ I64 C') := ⟨hnl, HKI.out, hC64⟩
                      obtain ⟨wE, hwE⟩ : ∃ wE, wE = wO.setCell ⟨w3.heap.size, 2, none⟩ (.int .i64 C') := ⟨_, rfl⟩
                      have HBE : Hid (Below w3.heap.size w3 wE) := by rw [hwE]; exact HBO.out.setCell (p := ⟨w3.heap.size, 2, none⟩) (Nat.le_refl _) _
                      have e0 : wE.cell? ⟨w3.heap.size, 0, none⟩ = some (.string ⟨nm.toArray⟩) := by rw [hwE, World.cell?_setCell_other _ _ _ _ (by simp)]; exact m0'
                      have e1 : wE.cell? ⟨w3.heap.size, 1, none⟩ = some (.int .i64 K) := by rw [hwE, World.cell?_setCell_other _ _ _ _ (by simp)]; exact m1'
                      have e2 : wE.cell? ⟨w3.heap.size, 2, none⟩ = some (.int .i64 C') := by rw [hwE]; exact World.cell?_setCell_same _ _ _ m2'
                      clear hrc hCs hC64
                      go_upto_region 38 with fail
                      rw [← hwE]
                      clear hwE m0' m1' m2' mz'
                      have HXE := hide (HX3.out.below HBE.out)
                      have HKE : Hid (wE.heap[wB.heap.size]? = w1.heap[wB.heap.size]? ∧ w.heap.size + 4 ≤ wE.heap.size) := ⟨(HBE.out.block _ (by have := HK3.out.2; omega)).trans HK3.out.1, Nat.le_trans HK3.out.2 HBE.out.size⟩
                      have HBZ : Hid (Below wA.heap.size wA wE) := HBW.out.trans ((HB2.out.trans ((HB3.out.trans (HBE.out.mono HB3.out.size)).mono HB2.out.size)).mono HBW.out.size)
                      cases hgs : gs with
                      | cons g0 gr =>
                        have hrs : rs ≠ [] := fun e => by have := HLL.out.2; rw [e, hgs] at this; simp at this
                        have HTK : Hid (Ld.take ⟨ns, rs, ps ++ gs⟩ st ln = .inl (3, st)) := Ld.take_late _ _ _ HNO.out hrs
                        rw [← hgs]
                        have hgl : 0 < gs.length := by rw [hgs]; simp
                        have hgi : (0 : Int) < (gs.length : Int) := by omega
                        clear hgs hrs
                        obtain ⟨⟨z0, z1, z2, z3⟩, y0, y1, y2, y3⟩ := HZ.out wE HBZ.out
                        have HFI := hide (fun a b c d => HFE.out 3 st wE a b c d (by decide) HTK.out HBZ.out)
                        unfold put4 at HFI
                        clear HFE
                        go_wp2_with fail
                        refine bodyPost_ret_by (v := .tuple #[.agg #[.slice none 0 0, .slice none 0 0], .agg #[.int .i64 3, .int .i64 (st : Int)]]) ?_ rfl ?_
                        · simp [results, Tryz.results69, go_sem, z0, z1, z2, z3]
                        · exact HFI.out _ _ _ _
                      | nil =>
                        subst hgs
                        have hrs : rs = [] := List.length_eq_zero_iff.1 HLL.out.2
                        have HTK := hide (Ld.take_name ⟨ns, rs, ps ++ []⟩ st ln _ HNO.out HRD.out hrs)
                        obtain ⟨na, nc, hnv⟩ := own_slice HXE.out.on
                        subst hnv
                        have hqe := HKE.out.2
                        have b0 : wE.cell? ⟨w.heap.size + 1 + 1, 0, none⟩ = some (.slice na ns.length nc) := by rw [Lib.cell_of_heap HXE.out.blk]; rfl
                        obtain ⟨i0, hi0, hz0, hz1, hz2⟩ := info_parts Tryz.infoRName
                        obtain ⟨i1, hi1, hy0, hy1, hy2⟩ := info_parts Tryz.infoInt
                        have hcn := HCN.out
                        have hcp : ps.length ≤ 20001 := by have := HLL.out.1; omega
                        have HOWN : Hid (∀ o, (wE.alloc o).ownsRow (w.heap.size + 4) 144 3 (.slice na ns.length nc) ns.length (ns.flatMap nmCells)) := fun o => HXE.out.on.alloc o
                        have HONE : Hid (∀ u ∈ nmCells ⟨nm, K, C'⟩, u.oneCell' = true) := by
                          intro u hu
                          simp only [nmCells, List.mem_cons, List.not_mem_nil, or_false] at hu
                          rcases hu with rfl | rfl | rfl <;> rfl
                        have HONI : Hid (∀ u ∈ [Value.int .i64 (st : Int)], u.oneCell' = true) := by
                          intro u hu
                          simp only [List.mem_cons, List.not_mem_nil, or_false] at hu
                          subst hu; rfl
                        have hbe : w.heap.size + 1 + 1 < wE.heap.size := by omega
                        have h3e : w3.heap.size < wE.heap.size := World.block_lt_of_cell? _ _ e0
                        clear hrs HFE
                        go_wp2_with (first
                          | (at_builtin; refine wpList_append_lies _ rfl (.tmp 185) (.tmp 187) 42 rfl (w.heap.size + 4) 144 i0 _ 3 32 Tryz.underlying42 hi0 hz0 hz1 hz2 rfl (by decide) (.slice na ns.length nc) ns.length (ns.flatMap nmCells) rfl (HOWN.out _) ⟨wE.heap.size, 0, none⟩ 1 1 (nmCells ⟨nm, K, C'⟩) rfl rfl (World.news_of_block (heap_alloc_new wE _)) HONE.out (by decide) (by unfold maxLen; omega) (by omega) (by simp; omega) (wE.heap.size + 1) (by simp) ?_; intro g cap wF hown hgrow hat hltg; have HOW2 := hide (HXE.out.midP _ hgrow); have hzF := hgrow.size; rw [World.size_alloc] at hzF; have HOW1 := hide hown; have HGR1 := hide hgrow; have HAT1 := hide hat; clear hown hgrow hat)
                          | (at_builtin; refine wpList_append_lies _ rfl (.tmp 189) (.tmp 191) 36 rfl (w.heap.size + 4) 3 i1 _ 1 8 Tryz.underlying36 hi1 hy0 hy1 hy2 rfl (by decide) (.slice pa ps.length pc) ps.length (ps.map intV) rfl (HOW2.out.alloc _) ⟨wF.heap.size, 0, none⟩ 1 1 [.int .i64 (st : Int)] rfl rfl (World.news_of_block (heap_alloc_new wF _)) HONI.out (by decide) (by unfold maxLen; omega) (by omega) (by simp; omega) (wF.heap.size + 1) (by simp) ?_; intro g' cap' wG hown hgrow hat hltg'; have hzG := hgrow.size; rw [World.size_alloc] at hzG; have HNE := hide (HXE.out.name (by omega) hqe ⟨nm, K, C'⟩ HNB.out st g cap g' cap' _ _ HOW1.out HGR1.out HAT1.out hown hgrow hat); have HKP := hide (HXE.out.keepN hqe _ _ HGR1.out hgrow); have hbk := (HKP.out (w.heap.size + 1 + 1) (by omega)).trans HXE.out.blk; have bA : wG.cell? ⟨w.heap.size + 1 + 1, 0, none⟩ = some (.slice na ns.length nc) := (by rw [Lib.cell_of_heap hbk]; rfl); have bF : wG.frozen? ⟨w.heap.size + 1 + 1, 0, none⟩ = false := Lib.frozen_of_heap hbk 0; clear hbk hown hgrow hat))
                        refine ⟨?inv, ?measure⟩
                        case inv =>
                          refine (HINV.out _ _).2 ?_
                          refine pframe_back _ _ ?_ rfl
                          rw [HR.out]
                          refine ⟨j + 1, ns ++ [⟨nm, K, C'⟩], rs, ps ++ [st], [], .slice (some ⟨g, 0, none⟩) (ns.length + 1) cap, rv, vs, ?_⟩
                          refine ⟨by omega, by go_num, by rw [HTN.out]; go_num, ⟨some ⟨g', 0, none⟩, cap', by rw [List.length_append]; rfl⟩, ⟨ga, gc, rfl⟩, HNE.out, ?_, ⟨by simp [HLL.out.1], HLL.out.2⟩, ?_, ?_⟩
                          · show _ = _
                            rw [HN1.out, HTK.out]
                            simp
                          · rw [Below.heap_setCell _ _ _ _ (fun e => by have e2 : wB.heap.size = w.heap.size + 1 + 1 := e; omega), HKP.out _ (by omega)]
                            exact HKE.out.1
                          · skip
                            simp [World.setCell]
                            omega
                        case measure => simp [intOf]; omega
                  · have HTK : Hid (Ld.take ⟨ns, rs, ps ++ gs⟩ st ln = .inl (3, st)) := Ld.take_none _ _ _ HNO.out (by rw [HWL.out]; exact Ld.rdName_many _ _ (by omega) (by have := HWNN.out; rw [HWL.out] at this; omega))
                    have hw3i : ¬ (wn : Int) = 3 := by omega
                    generalize ((Ld.kindN w0 : Nat) : Int) = K at *
                    obtain ⟨⟨z0, z1, z2, z3⟩, y0, y1, y2, y3⟩ := HZ.out wc HBZ.out
                    have HFI := hide (fun a b c d => HFE.out 3 st wc a b c d (by decide) HTK.out HBZ.out)
                    unfold put4 at HFI
                    clear HFE
                    go_wp2_with fail
                    refine bodyPost_ret_by (v := .tuple #[.agg #[.slice none 0 0, .slice none 0 0], .agg #[.int .i64 3, .int .i64 (st : Int)]]) ?_ rfl ?_
                    · simp [results, Tryz.results69, go_sem, z0, z1, z2, z3]
                    · exact HFI.out _ _ _ _
          · rw [hi] at HIB
            have HAT := hide hat
            have HNO := hide hno
            have hlr : ln.length = hd.length + 1 + tl.length := by rw [hat]; simp; omega
            have hx1 : (⟨ln.toArray⟩ : ByteArray).extract 0 hd.length = ⟨hd.toArray⟩ := by
              apply ByteArray.ext
              rw [ByteArray.data_extract]
              show ln.toArray.extract 0 hd.length = hd.toArray
              rw [List.extract_toArray, hat]
              simp [List.extract]
            have hx2 : (⟨ln.toArray⟩ : ByteArray).extract (hd.length + 1) ln.length = ⟨tl.toArray⟩ := by
              apply ByteArray.ext
              rw [ByteArray.data_extract]
              show ln.toArray.extract (hd.length + 1) ln.length = tl.toArray
              rw [List.extract_toArray, hlr, hat]
              have e1 : (hd ++ 61 :: tl) = (hd ++ [61]) ++ tl := by simp
              have e2 : hd.length + 1 = (hd ++ [61]).length := by simp
              rw [e1, e2, List.extract, List.drop_left, Nat.add_sub_cancel_left, List.take_length]
            have HX1 := hide hx1
            have HX2B := hide hx2
            have hdl : hd.length ≤ ln.length := by omega
            have hdi : (hd.length : Int) ≤ (ln.length : Int) := by omega
            have HLR : Hid (tl.length ≤ 20000 ∧ hd.length + 1 ≤ ln.length ∧ hd.length ≤ 20000) := ⟨by omega, by omega, by omega⟩
            clear hi hno hat hlr hx1 hx2
            go_wp2_with fail
            refine HIB.out.mono ?_
            rintro e w2' ⟨rfl, rfl⟩
            have HWD := hide (rwords2 hd w2' HLR.out.2.2 HLP.out)
            rw [← HX1.out] at HWD
            obtain ⟨hn, hhn⟩ : ∃ hn, hn = (Ld.words hd).length := ⟨_, rfl⟩
            rw [← hhn] at HWD
            have HHN := hide hhn
            clear HIB hhn
            go_wp2_with fail
            refine HWD.out.mono ?_
            rintro e w3 ⟨wa3, wc3, rfl, hwat, hb3⟩
            have HB3 := hide hb3
            have HL3 := hide (HLP.out.below hb3)
            have HX3 := hide (HX2.out.below hb3)
            have HK3 : Hid (w3.heap[wB.heap.size]? = w1.heap[wB.heap.size]? ∧ w.heap.size + 4 ≤ w3.heap.size) := ⟨(hb3.block _ (by have := HK2.out.2; omega)).trans HK2.out.1, Nat.le_trans HK2.out.2 hb3.size⟩
            have HW3 := hide hwat
            have hhc : hn ≤ 20001 := by rw [HHN.out]; exact words_count hd HLR.out.2.2
            obtain ⟨wc, hwc'⟩ : ∃ wc, wc = w3.alloc (.cells #[.int .i64 1, .string ⟨#[]⟩, .pointer none] 195) := ⟨_, rfl⟩
            have hnew : wc.heap[w3.heap.size]? = some (.cells #[.int .i64 1, .string ⟨#[]⟩, .pointer none] 195 (0, 0)) := by rw [hwc']; exact heap_alloc_new w3 _
            have HBC : Hid (Below w3.heap.size w3 wc) := by rw [hwc']; exact (Below.refl _ _).alloc (Nat.le_refl _) _
            have k0 : wc.cell? ⟨w3.heap.size, 0, none⟩ = some (.int .i64 1) := by rw [Lib.cell_of_heap hnew]; rfl
            have k1 : wc.cell? ⟨w3.heap.size, 1, none⟩ = some (.string ⟨#[]⟩) := by rw [Lib.cell_of_heap hnew]; rfl
            have k2 : wc.cell? ⟨w3.heap.size, 2, none⟩ = some (.pointer none) := by rw [Lib.cell_of_heap hnew]; rfl
            have q0 : wc.frozen? ⟨w3.heap.size, 0, none⟩ = false := Lib.frozen_of_heap hnew 0
            have q1 : wc.frozen? ⟨w3.heap.size, 1, none⟩ = false := Lib.frozen_of_heap hnew 1
            have q2 : wc.frozen? ⟨w3.heap.size, 2, none⟩ = false := Lib.frozen_of_heap hnew 2
            have HBZ : Hid (Below wA.heap.size wA wc) := HBW.out.trans ((HB2.out.trans ((HB3.out.trans (HBC.out.mono HB3.out.size)).mono HB2.out.size)).mono HBW.out.size)
            have HWC2 := hide hwc'
            clear hb3 HWD hwat hnew hwc' HX2 HK2
            go_upto_region 16 with fail
            rw [← HWC2.out]
            cases hwl : Ld.words hd with
            | nil =>
              have hn0 : hn = 0 := by rw [HHN.out, hwl]; rfl
              have HTK : Hid (Ld.take ⟨ns, rs, ps ++ gs⟩ st ln = .inl (3, st)) := Ld.take_head _ _ _ _ _ HAT.out HNO.out (by rw [hwl]; rfl)
              subst hn0
              clear hwl
              obtain ⟨⟨z0, z1, z2, z3⟩, y0, y1, y2, y3⟩ := HZ.out wc HBZ.out
              have HFI := hide (fun a b c d => HFE.out 3 st wc a b c d (by decide) HTK.out HBZ.out)
              unfold put4 at HFI
              clear HFE
              go_wp2_with fail
              refine bodyPost_ret_by (v := .tuple #[.agg #[.slice none 0 0, .slice none 0 0], .agg #[.int .i64 3, .int .i64 (st : Int)]]) ?_ rfl ?_
              · simp [results, Tryz.results69, go_sem, z0, z1, z2, z3]
              · exact HFI.out _ _ _ _
            | cons w0' wr' =>
              cases wr' with
              | nil =>
                have hn1 : hn = 1 := by rw [HHN.out, hwl]; rfl
                subst hn1
                obtain ⟨nm, hnm⟩ : ∃ nm, nm = w0' := ⟨_, rfl⟩
                subst hnm
                have hnl := (words_len hd HLR.out.2.2 nm (by rw [hwl]; simp)).1
                obtain ⟨g3, rfl, hwc3, d0⟩ := HW3.out 0 nm (by rw [hwl]; rfl)
                have HHD : Hid (Ld.rdHead (Ld.words hd) = some (1, nm)) := by show _ = _; rw [hwl]; rfl
                rw [← HHN.out] at hwc3
                have d0' := (HBC.out.cell (World.block_lt_of_cell? _ _ d0)).trans d0
                obtain ⟨wE, hwE⟩ : ∃ wE, wE = wc.setCell ⟨w3.heap.size, 1, none⟩ (.string ⟨nm.toArray⟩) := ⟨_, rfl⟩
                have HBE : Hid (Below w3.heap.size w3 wE) := by rw [hwE]; exact HBC.out.setCell (p := ⟨w3.heap.size, 1, none⟩) (Nat.le_refl _) _
                have e0 : wE.cell? ⟨w3.heap.size, 0, none⟩ = some (.int .i64 1) := by rw [hwE, World.cell?_setCell_other _ _ _ _ (by simp)]; exact k0
                have e1 : wE.cell? ⟨w3.heap.size, 1, none⟩ = some (.string ⟨nm.toArray⟩) := by rw [hwE]; exact World.cell?_setCell_same _ _ _ k1
                have e2 : wE.cell? ⟨w3.heap.size, 2, none⟩ = some (.pointer none) := by rw [hwE, World.cell?_setCell_other _ _ _ _ (by simp)]; exact k2
                have ef2 : wE.frozen? ⟨w3.heap.size, 2, none⟩ = false := by rw [hwE, World.frozen?_setCell]; exact q2
                clear hwl d0
                go_upto_region 23 with fail
                rw [← hwE]
                obtain ⟨kk, hkk⟩ : ∃ kk : Nat, kk = 1 := ⟨_, rfl⟩
                replace e0 : wE.cell? ⟨w3.heap.size, 0, none⟩ = some (.int .i64 ((kk : Nat) : Int)) := by rw [hkk]; exact e0
                rw [← hkk] at HHD
                have hk6 : kk ≤ 6 := by omega
                clear hwE k0 k1 k2 q0 q1 q2 hkk
                have HXE := hide (HX3.out.below HBE.out)
                have hE3 : w3.heap.size < wE.heap.size := World.block_lt_of_cell? _ _ e0
                have hse := HBE.out.size
                have hEP := ExprParse_any ⟨tl.toArray⟩ wE (by show tl.toArray.size ≤ maxLen; rw [List.size_toArray]; unfold maxLen; have := HLR.out.1; omega) (HL3.out.below HBE.out).r.fine
                rw [show (⟨tl.toArray⟩ : ByteArray).data.toList = tl from rfl, ← HX2B.out] at hEP
                have HEP := hide hEP
                have hd1 : hd.length + 1 ≤ ln.length := HLR.out.2.1
                have hd1i : (hd.length : Int) + 1 ≤ (ln.length : Int) := by omega
                have HTL2 := hide HLR.out.1
                clear hEP
                go_wp2_with fail
                refine HEP.out.mono ?_
                rintro e wP ⟨hbP, hm⟩
                have hbEP := HBE.out.trans (hbP.mono hse)
                have e0' := (hbP.cell (World.block_lt_of_cell? _ _ e0)).trans e0
                have e1' := (hbP.cell (World.block_lt_of_cell? _ _ e1)).trans e1
                have e2' := (hbP.cell (World.block_lt_of_cell? _ _ e2)).trans e2
                have ef2' := (hbP.frozen (World.block_lt_of_cell? _ _ e2)).trans ef2
                have HBP := hide hbEP
                have HPX := hide hbP
                clear HEP hbP hbEP e0 e1 e2 ef2
                cases hpt : Ex.parse tl with
                | inl ep =>
                  obtain ⟨er, pl⟩ := ep
                  rw [hpt] at hm
                  have hpl := Ex.parse_place tl er pl hpt
                  have HTK := hide (Ld.take_err ⟨ns, rs, ps ++ gs⟩ st ln hd tl HAT.out HNO.out kk nm HHD.out er pl hpt)
                  obtain ⟨plv, rfl, her, hpv⟩ : ∃ plv : Int, e = .returned (.tuple #[.pointer none, .agg #[.int .i64 (er : Int), .int .i64 plv]]) ∧ er ≠ 0 ∧ ((plv = -1 ∧ pl.getD 0 = 0) ∨ (0 ≤ plv ∧ plv = ((pl.getD 0 : Nat) : Int))) := by
                    match pl, hm with
                    | none, hm => exact ⟨-1, hm.1, hm.2, .inl ⟨rfl, rfl⟩⟩
                    | some pp, hm => exact ⟨(pp : Int), hm.1, hm.2, .inr ⟨by omega, rfl⟩⟩
                  obtain ⟨wX, hwX⟩ : ∃ wX, wX = wP.alloc (.cells #[.int .i64 (er : Int), .int .i64 plv] 93) := ⟨_, rfl⟩
                  have hnX : wX.heap[wP.heap.size]? = some (.cells #[.int .i64 (er : Int), .int .i64 plv] 93 (0, 0)) := by rw [hwX]; exact heap_alloc_new wP _
                  have x0 : wX.cell? ⟨wP.heap.size, 0, none⟩ = some (.int .i64 (er : Int)) := by rw [Lib.cell_of_heap hnX]; rfl
                  have x1 : wX.cell? ⟨wP.heap.size, 1, none⟩ = some (.int .i64 plv) := by rw [Lib.cell_of_heap hnX]; rfl
                  have HBX3 : Hid (Below w3.heap.size w3 wX) := by rw [hwX]; exact HBP.out.alloc HBP.out.size _
                  have hbz : Below wA.heap.size wA wX := HBW.out.trans ((HB2.out.trans ((HB3.out.trans (HBX3.out.mono HB3.out.size)).mono HB2.out.size)).mono HBW.out.size)
                  have HBZX := hide hbz
                  have HFD : Hid (∀ W, Below w.heap.size w W → RParsed w (Ld.parse T) (.returned (.tuple #[.agg #[.slice none 0 0, .slice none 0 0], .agg #[.int .i64 (er : Int), .int .i64 ((st + hd.length + 1 + pl.getD 0 : Nat) : Int)]])) W) := fun W hW => by
                    have h1 : Ld.parse T = .inl (er, some (st + hd.length + 1 + pl.getD 0)) := Ld.parse_stops T (by omega) er _ (by rw [HLN.out]; exact Ld.takes_stop L (j + 1) _ (by rw [HN1.out]; exact HTK.out))
                    rw [h1]
                    exact ⟨hW, rfl, her⟩
                  have heri : ¬ ((er : Nat) : Int) = 0 := by omega
                  have hpP : wP.heap.size < wX.heap.size := World.block_lt_of_cell? _ _ x0
                  have hwP : w.heap.size + 4 ≤ wP.heap.size := Nat.le_trans HK3.out.2 HBP.out.size
                  obtain ⟨⟨z0, z1, z2, z3⟩, y0, y1, y2, y3⟩ := HZ.out wX hbz
                  have hn1 : wP.heap.size ≠ w.heap.size := by omega
                  have hn2 : wP.heap.size ≠ w.heap.size + 1 := by omega
                  obtain ⟨P, hP⟩ : ∃ P, P = pl.getD 0 := ⟨_, rfl⟩
                  rw [← hP] at hpv HFD
                  have hPl : P ≤ 20000 := by
                    rw [hP]
                    cases pl with
                    | none => exact Nat.zero_le _
                    | some pp => have := HTL2.out; simp at hpl ⊢; omega
                  clear hP HTK hpt hm HFE hnX hbz
                  go_upto_region 25 with fail
                  rw [← hwX]
                  have HWX := hide hwX
                  clear hwX e0' e1' e2' ef2'
                  rcases hpv with ⟨rfl, rfl⟩ | ⟨hp0, rfl⟩
                  · have HVV : Hid ((st : Int) + (hd.length : Int) + 1 + max 0 (-1 : Int) = ((st + hd.length + 1 + 0 : Nat) : Int)) := by show _ = _; omega
                    go_region
                    go_wp2_with fail
                    refine bodyPost_ret_by (v := .tuple #[.agg #[.slice none 0 0, .slice none 0 0], .agg #[.int .i64 (er : Int), .int .i64 ((st : Int) + (hd.length : Int) + 1 + max 0 (-1 : Int))]]) ?_ rfl ?_
                    · simp [results, Tryz.results69, go_sem, z0, z1, z2, z3]
                    · rw [HVV.out]
                      refine HFD.out _ ?_
                      have h1 := put4_below (HBA.out.trans (HBZX.out.mono HBA.out.size)) (.slice none 0 0) (.slice none 0 0) (.int .i64 (er : Int)) (.int .i64 ((st : Int) + (hd.length : Int) + 1 + max 0 (-1 : Int)))
                      exact ⟨h1.os, h1.tape, h1.output, h1.size, h1.block⟩
                  · have HVV : Hid ((st : Int) + (hd.length : Int) + 1 + max 0 ((P : Int)) = ((st + hd.length + 1 + P : Nat) : Int)) := by show _ = _; omega
                    go_region
                    go_wp2_with fail
                    refine bodyPost_ret_by (v := .tuple #[.agg #[.slice none 0 0, .slice none 0 0], .agg #[.int .i64 (er : Int), .int .i64 ((st : Int) + (hd.length : Int) + 1 + max 0 ((P : Int)))]]) ?_ rfl ?_
                    · simp [results, Tryz.results69, go_sem, z0, z1, z2, z3]
                    · rw [HVV.out]
                      refine HFD.out _ ?_
                      have h1 := put4_below (HBA.out.trans (HBZX.out.mono HBA.out.size)) (.slice none 0 0) (.slice none 0 0) (.int .i64 (er : Int)) (.int .i64 ((st : Int) + (hd.length : Int) + 1 + max 0 ((P : Int))))
                      exact ⟨h1.os, h1.tape, h1.output, h1.size, h1.block⟩
                | inr x =>
                  rw [hpt] at hm
                  obtain ⟨gx, rfl, hxp⟩ := hm
                  have HTK := hide (Ld.take_ok ⟨ns, rs, ps ++ gs⟩ st ln hd tl HAT.out HNO.out kk nm HHD.out x hpt)
                  have HPT := hide hpt
                  obtain ⟨wY, hwY⟩ : ∃ wY, wY = (wP.setCell ⟨w3.heap.size, 2, none⟩ (.pointer (some ⟨gx, 0, none⟩))).alloc (.cells #[.int .i64 0, .int .i64 (-1)] 93) := ⟨_, rfl⟩
                  have h3P : w3.heap.size < wP.heap.size := World.block_lt_of_cell? _ _ e0'
                  have hzP := HPX.out.size
                  have hzP3 := HBP.out.size
                  have HBY : Hid (Below w3.heap.size w3 wY) := by
                    rw [hwY]
                    have h1 := HBP.out.setCell (p := ⟨w3.heap.size, 2, none⟩) (Nat.le_refl _) (.pointer (some ⟨gx, 0, none⟩))
                    exact h1.alloc h1.size _
                  have hzS : (wP.setCell ⟨w3.heap.size, 2, none⟩ (.pointer (some ⟨gx, 0, none⟩))).heap.size = wP.heap.size := by simp [World.setCell]
                  have f0 : wY.cell? ⟨w3.heap.size, 0, none⟩ = some (.int .i64 ((kk : Nat) : Int)) := by
                    rw [hwY, World.cell?_alloc_lt _ _ _ (by rw [hzS]; exact h3P), World.cell?_setCell_other _ _ _ _ (by simp)]; exact e0'
                  have f1 : wY.cell? ⟨w3.heap.size, 1, none⟩ = some (.string ⟨nm.toArray⟩) := by
                    rw [hwY, World.cell?_alloc_lt _ _ _ (by rw [hzS]; exact h3P), World.cell?_setCell_other _ _ _ _ (by simp)]; exact e1'
                  have f2 : wY.cell? ⟨w3.heap.size, 2, none⟩ = some (.pointer (some ⟨gx, 0, none⟩)) := by
                    rw [hwY, World.cell?_alloc_lt _ _ _ (by rw [hzS]; exact h3P)]; exact World.cell?_setCell_same _ _ _ e2'
                  have h3E : w3.heap.size < wE.heap.size := by
                    have := HBE.out.size
                    by_cases h : w3.heap.size < wE.heap.size
                    · exact h
                    · exact absurd hE3 h
                  have HXY := hide (HX3.out.below HBY.out)
                  have HRX : Hid (IsRx (okY (w.heap.size + 4) nv rv (.slice pa ps.length pc) (.slice ga gs.length gc)) wY x gx) := by
                    refine IsRx.stay (ok := fun g => wE.heap.size ≤ g) (w := wP) ?_ ?_ x gx hxp
                    · intro k i u hk hc
                      rw [hwY, World.cell?_alloc_lt _ _ _ (by rw [hzS]; exact World.block_lt_of_cell? _ _ hc), World.cell?_of_block (Below.heap_setCell _ _ _ _ (fun e => by have e2 : k = w3.heap.size := e; omega))]
                      exact hc
                    · intro k hk
                      have hq3 := HK3.out.2
                      refine ⟨by omega, ?_, ?_, ?_, ?_⟩
                      · intro e; have := (HX3.out.on.lt k e.symm).2; omega
                      · intro e; have := (HX3.out.org.lt k e.symm).2; omega
                      · intro e; have := (HX3.out.op.lt k e.symm).2; omega
                      · intro e; have := (HX3.out.og.lt k e.symm).2; omega
                  have HKY2 : Hid (wY.heap[wB.heap.size]? = w1.heap[wB.heap.size]? ∧ w.heap.size + 4 ≤ wY.heap.size) := ⟨(HBY.out.block _ (by have := HK3.out.2; omega)).trans HK3.out.1, Nat.le_trans HK3.out.2 HBY.out.size⟩
                  obtain ⟨ra, rc, hrv⟩ := own_slice HXY.out.org
                  subst hrv
                  have hqe := HKY2.out.2
                  have b1 : wY.cell? ⟨w.heap.size + 1 + 1, 1, none⟩ = some (.slice ra rs.length rc) := by rw [Lib.cell_of_heap HXY.out.blk]; rfl
                  obtain ⟨i0, hi0, hz0, hz1, hz2⟩ := info_parts Tryz.infoRRung
                  obtain ⟨i1, hi1, hy0, hy1, hy2⟩ := info_parts Tryz.infoInt
                  have hcn := HCN.out
                  have hcp : gs.length ≤ 20001 := by have := HLL.out.2; omega
                  have HOWN : Hid (∀ o, (wY.alloc o).ownsRow (w.heap.size + 4) 195 3 (.slice ra rs.length rc) rs.length ((rs.zip vs).flatMap rgCells)) := fun o => HXY.out.org.alloc o
                  have HONE : Hid (∀ u ∈ [Value.int .i64 ((kk : Nat) : Int), Value.string ⟨nm.toArray⟩, Value.pointer (some ⟨gx, 0, none⟩)], u.oneCell' = true) := by
                    intro u hu
                    simp only [List.mem_cons, List.not_mem_nil, or_false] at hu
                    rcases hu with rfl | rfl | rfl <;> rfl
                  have HONI : Hid (∀ u ∈ [Value.int .i64 (st : Int)], u.oneCell' = true) := by
                    intro u hu
                    simp only [List.mem_cons, List.not_mem_nil, or_false] at hu
                    subst hu; rfl
                  have HKB : Hid (nm.length ≤ 20000 ∧ I64 ((kk : Nat) : Int)) := ⟨hnl, by omega, by omega⟩
                  have hbe : w.heap.size + 1 + 1 < wY.heap.size := by omega
                  have h3e : w3.heap.size < wY.heap.size := World.block_lt_of_cell? _ _ f0
                  clear HFE hxp hpt hzS
                  unfold faultV
                  go_upto_region 27 with fail
                  rw [← hwY]
                  clear hwY e0' e1' e2' ef2'
                  go_wp2_with (first
                    | (at_builtin; refine wpList_append_lies _ rfl (.tmp 114) (.tmp 116) 43 rfl (w.heap.size + 4) 195 i0 _ 3 32 Tryz.underlying43 hi0 hz0 hz1 hz2 rfl (by decide) (.slice ra rs.length rc) rs.length ((rs.zip vs).flatMap rgCells) rfl (HOWN.out _) ⟨wY.heap.size, 0, none⟩ 1 1 [Value.int .i64 ((kk : Nat) : Int), Value.string ⟨nm.toArray⟩, Value.pointer (some ⟨gx, 0, none⟩)] rfl rfl (World.news_of_block (heap_alloc_new wY _)) HONE.out (by decide) (by unfold maxLen; omega) (by omega) (by simp; omega) (wY.heap.size + 1) (by simp) ?_; intro g cap wF hown hgrow hat hltg; have HOW2 := hide (HXY.out.midG _ hgrow); have hzF := hgrow.size; rw [World.size_alloc] at hzF; have HOW1 := hide hown; have HGR1 := hide hgrow; have HAT1 := hide hat; clear hown hgrow hat)
                    | (at_builtin; refine wpList_append_lies _ rfl (.tmp 118) (.tmp 120) 36 rfl (w.heap.size + 4) 3 i1 _ 1 8 Tryz.underlying36 hi1 hy0 hy1 hy2 rfl (by decide) (.slice ga gs.length gc) gs.length (gs.map intV) rfl (HOW2.out.alloc _) ⟨wF.heap.size, 0, none⟩ 1 1 [.int .i64 (st : Int)] rfl rfl (World.news_of_block (heap_alloc_new wF _)) HONI.out (by decide) (by unfold maxLen; omega) (by omega) (by simp; omega) (wF.heap.size + 1) (by simp) ?_; intro g' cap' wG hown hgrow hat hltg'; have hzG := hgrow.size; rw [World.size_alloc] at hzG; have HNE := hide (HXY.out.rung (by omega) hqe ((kk : Nat) : Int) nm x gx tl HKB.out HPT.out HRX.out st g cap g' cap' _ _ HOW1.out HGR1.out HAT1.out hown hgrow hat); have HKP := hide (HXY.out.keepR hqe _ _ HGR1.out hgrow); have hbk := (HKP.out (w.heap.size + 1 + 1) (by omega)).trans HXY.out.blk; have bA : wG.cell? ⟨w.heap.size + 1 + 1, 1, none⟩ = some (.slice ra rs.length rc) := (by rw [Lib.cell_of_heap hbk]; rfl); have bF : wG.frozen? ⟨w.heap.size + 1 + 1, 1, none⟩ = false := Lib.frozen_of_heap hbk 1; clear hbk hown hgrow hat))
                  refine ⟨?inv, ?measure⟩
                  case inv =>
                    refine (HINV.out _ _).2 ?_
                    refine pframe_back _ _ ?_ rfl
                    rw [HR.out]
                    refine ⟨j + 1, ns, rs ++ [⟨((kk : Nat) : Int), nm, some x⟩], ps, gs ++ [st], nv, .slice (some ⟨g, 0, none⟩) (rs.length + 1) cap, vs ++ [.pointer (some ⟨gx, 0, none⟩)], ?_⟩
                    refine ⟨by omega, by go_num, by rw [HTN.out]; go_num, ⟨pa, pc, rfl⟩, ⟨some ⟨g', 0, none⟩, cap', by rw [List.length_append]; rfl⟩, HNE.out, ?_, ⟨HLL.out.1, by simp [HLL.out.2]⟩, ?_, ?_⟩
                    · show _ = _
                      rw [HN1.out, HTK.out]
                      simp
                    · rw [Below.heap_setCell _ _ _ _ (fun e => by have e2 : wB.heap.size = w.heap.size + 1 + 1 := e; omega), HKP.out _ (by omega)]
                      exact HKY2.out.1
                    · simp [World.setCell]
                      omega
                  case measure => simp [intOf]; omega
              | cons nm wr2 =>
                cases wr2 with
                | nil =>
                  have hn2 : hn = 2 := by rw [HHN.out, hwl]; rfl
                  subst hn2
                  have hnl := (words_len hd HLR.out.2.2 nm (by rw [hwl]; simp)).1
                  have hw0 : w0' ≠ [] := (words_len hd HLR.out.2.2 w0' (by rw [hwl]; simp)).2
                  have HXI := hide (Ld.idx_rungs w0' hw0)
                  have hkl := Ld.kindG_le w0'
                  obtain ⟨g3, rfl, hwc3, d0⟩ := HW3.out 0 w0' (by rw [hwl]; rfl)
                  obtain ⟨g4, hg4, _, d1⟩ := HW3.out 1 nm (by rw [hwl]; rfl)
                  simp only [Option.some.injEq, Addr.mk.injEq, and_true] at hg4
                  subst hg4
                  rw [← HHN.out] at hwc3
                  have d0' := (HBC.out.cell (World.block_lt_of_cell? _ _ d0)).trans d0
                  have d1' := (HBC.out.cell (World.block_lt_of_cell? _ _ d1)).trans d1
                  have HLC := hide (HL3.out.below HBC.out)
                  obtain ⟨sv, n0, ⟨sa, sn, sc, rfl⟩, hstr⟩ := HLC.out.wd.rungs
                  have HIX : Hid (∀ W, Below wc.heap.size wc W → Calls Tryz.prog 111 #[.slice sa sn sc, .string ⟨w0'.toArray⟩] W fun e w' => e = .returned (.int .i64 (Ld.idx Ld.rungL w0')) ∧ W = w') := fun W hW => by
                    refine (rindex_any Ld.rungL _ w0' W (hstr.below hW)).mono ?_
                    rintro e w' ⟨h1, h2⟩
                    exact ⟨h1, h2.symm⟩
                  have HDA : Hid (Below wc.heap.size wc wc.drew) := ⟨rfl, rfl, rfl, Nat.le_refl _, fun _ _ => rfl⟩
                  have hg3 : g3 < w3.heap.size := World.block_lt_of_cell? _ _ d0
                  have hg3c : g3 < wc.heap.size := World.block_lt_of_cell? _ _ d0'
                  have hgnc : 1 < wc.heap.size := World.block_lt_of_cell? _ _ n0
                  have hgn : 1 < w3.heap.size := Nat.lt_of_lt_of_le (by decide : 1 < 14) HL3.out.low
                  have hne1 : g3 ≠ w3.heap.size := by omega
                  have hne2 : 1 ≠ w3.heap.size := by omega
                  have h3c : w3.heap.size < wc.heap.size := World.block_lt_of_cell? _ _ k0
                  have HBDR : Hid (Below w3.heap.size w3 wc.drew) := HBC.out.trans (HDA.out.mono (by omega))
                  have HK0 := hide k0
                  have HK1 := hide k1
                  have HK2C := hide k2
                  have HQ2 := hide q2
                  have HWL2 := hide hwl
                  have k0d : wc.drew.cell? ⟨w3.heap.size, 0, none⟩ = some (.int .i64 1) := k0
                  have k1d : wc.drew.cell? ⟨w3.heap.size, 1, none⟩ = some (.string ⟨#[]⟩) := k1
                  have q0d : wc.drew.frozen? ⟨w3.heap.size, 0, none⟩ = false := q0
                  have q1d : wc.drew.frozen? ⟨w3.heap.size, 1, none⟩ = false := q1
                  have key : ∀ (W : World) (i : Nat) (x : Value), (W.cell? ⟨1, 0, none⟩ = some (.slice sa sn sc) ∧ W.cell? ⟨g3, 0, none⟩ = some (.string ⟨w0'.toArray⟩) ∧ W.cell? ⟨g3, 1, none⟩ = some (.string ⟨nm.toArray⟩)) → ((W.setCell ⟨w3.heap.size, i, none⟩ x).cell? ⟨1, 0, none⟩ = some (.slice sa sn sc) ∧ (W.setCell ⟨w3.heap.size, i, none⟩ x).cell? ⟨g3, 0, none⟩ = some (.string ⟨w0'.toArray⟩) ∧ (W.setCell ⟨w3.heap.size, i, none⟩ x).cell? ⟨g3, 1, none⟩ = some (.string ⟨nm.toArray⟩)) := fun W i x h =>
                    ⟨(World.cell?_of_block (Below.heap_setCell _ _ _ _ (fun e => hne2 e))).trans h.1, (World.cell?_of_block (Below.heap_setCell _ _ _ _ (fun e => hne1 e))).trans h.2.1, (World.cell?_of_block (Below.heap_setCell _ _ _ _ (fun e => hne1 e))).trans h.2.2⟩
                  have HKY := hide key
                  have HKZ : Hid (wc.cell? ⟨1, 0, none⟩ = some (.slice sa sn sc) ∧ wc.cell? ⟨g3, 0, none⟩ = some (.string ⟨w0'.toArray⟩) ∧ wc.cell? ⟨g3, 1, none⟩ = some (.string ⟨nm.toArray⟩)) := ⟨n0, d0', d1'⟩
                  obtain ⟨wE, hwE⟩ : ∃ wE, wE = ((wc.setCell ⟨w3.heap.size, 0, none⟩ (.int .i64 (Ld.idx Ld.rungL w0'))).setCell ⟨w3.heap.size, 1, none⟩ (.string ⟨nm.toArray⟩)).drew := ⟨_, rfl⟩
                  have HBE : Hid (Below w3.heap.size w3 wE) := by
                    rw [hwE]
                    have h1 := (HBC.out.setCell (p := ⟨w3.heap.size, 0, none⟩) (Nat.le_refl _) (.int .i64 (Ld.idx Ld.rungL w0'))).setCell (p := ⟨w3.heap.size, 1, none⟩) (Nat.le_refl _) (.string ⟨nm.toArray⟩)
                    exact ⟨h1.os, h1.tape, h1.output, h1.size, h1.block⟩
                  have e0 : wE.cell? ⟨w3.heap.size, 0, none⟩ = some (.int .i64 (Ld.idx Ld.rungL w0')) := by
                    rw [hwE]
                    show ((wc.setCell ⟨w3.heap.size, 0, none⟩ (.int .i64 (Ld.idx Ld.rungL w0'))).setCell ⟨w3.heap.size, 1, none⟩ (.string ⟨nm.toArray⟩)).cell? ⟨w3.heap.size, 0, none⟩ = _
                    rw [World.cell?_setCell_other _ _ _ _ (by simp)]
                    exact World.cell?_setCell_same _ _ _ k0
                  have e1 : wE.cell? ⟨w3.heap.size, 1, none⟩ = some (.string ⟨nm.toArray⟩) := by
                    rw [hwE]
                    exact World.cell?_setCell_same _ _ _ ((World.cell?_setCell_other _ _ _ _ (by simp)).trans k1)
                  have e2 : wE.cell? ⟨w3.heap.size, 2, none⟩ = some (.pointer none) := by
                    rw [hwE]
                    exact (World.cell?_setCell_other _ _ _ _ (by simp)).trans ((World.cell?_setCell_other _ _ _ _ (by simp)).trans k2)
                  have ef2 : wE.frozen? ⟨w3.heap.size, 2, none⟩ = false := by
                    rw [hwE]
                    show ((wc.setCell ⟨w3.heap.size, 0, none⟩ (.int .i64 (Ld.idx Ld.rungL w0'))).setCell ⟨w3.heap.size, 1, none⟩ (.string ⟨nm.toArray⟩)).frozen? ⟨w3.heap.size, 2, none⟩ = _
                    rw [World.frozen?_setCell, World.frozen?_setCell]; exact q2
                  clear hwl d0 d1 hstr key
                  go_upto_region 20 with fail
                  go_region_held3 (fun W => W.cell? ⟨1, 0, none⟩ = some (.slice sa sn sc) ∧ W.cell? ⟨g3, 0, none⟩ = some (.string ⟨w0'.toArray⟩) ∧ W.cell? ⟨g3, 1, none⟩ = some (.string ⟨nm.toArray⟩)) ((first | exact HKZ.out | exact HKY.out _ _ _ HKZ.out | exact HKY.out _ _ _ (HKY.out _ _ _ HKZ.out))) ((go_at_call 111; (with_reducible refine (HIX.out _ (by first | exact HDA.out | exact Below.refl _ _)).mono ?_); rintro e w4 ⟨rfl, rfl⟩))
                  rw [← hwE]
                  rename_i hSS
                  clear hSS hwE k0 k1 k2 q0 q1 q2 k0d k1d q0d q1d n0 d0' d1' HKY HKZ HIX HDA HBDR HK0 HK1 HK2C HQ2
                  rw [HXI.out] at e0
                  by_cases hk0 : Ld.kindG w0' = 0
                  · rw [if_pos hk0] at e0
                    have HTK : Hid (Ld.take ⟨ns, rs, ps ++ gs⟩ st ln = .inl (3, st)) := Ld.take_head _ _ _ _ _ HAT.out HNO.out (by rw [HWL2.out]; exact Ld.rdHead_bad _ _ hk0)
                    replace HBZ : Hid (Below wA.heap.size wA wE) := HBW.out.trans ((HB2.out.trans ((HB3.out.trans (HBE.out.mono HB3.out.size)).mono HB2.out.size)).mono HBW.out.size)
                    obtain ⟨⟨z0, z1, z2, z3⟩, y0, y1, y2, y3⟩ := HZ.out wE HBZ.out
                    have HFI := hide (fun a b c d => HFE.out 3 st wE a b c d (by decide) HTK.out HBZ.out)
                    unfold put4 at HFI
                    clear HFE
                    go_wp2_with fail
                    refine bodyPost_ret_by (v := .tuple #[.agg #[.slice none 0 0, .slice none 0 0], .agg #[.int .i64 3, .int .i64 (st : Int)]]) ?_ rfl ?_
                    · simp [results, Tryz.results69, go_sem, z0, z1, z2, z3]
                    · exact HFI.out _ _ _ _
                  · rw [if_neg hk0] at e0
                    have HHD : Hid (Ld.rdHead (Ld.words hd) = some (Ld.kindG w0', nm)) := by show _ = _; rw [HWL2.out]; exact Ld.rdHead_two _ _ hk0
                    have hk6 : Ld.kindG w0' ≤ 6 := hkl.1
                    have hk1i : ¬ ((Ld.kindG w0' : Nat) : Int) < 1 := by omega
                    generalize Ld.kindG w0' = kk at *
                    go_upto_region 23 with fail
                    have HXE := hide (HX3.out.below HBE.out)
                    have hE3 : w3.heap.size < wE.heap.size := World.block_lt_of_cell? _ _ e0
                    have hse := HBE.out.size
                    have hEP := ExprParse_any ⟨tl.toArray⟩ wE (by show tl.toArray.size ≤ maxLen; rw [List.size_toArray]; unfold maxLen; have := HLR.out.1; omega) (HL3.out.below HBE.out).r.fine
                    rw [show (⟨tl.toArray⟩ : ByteArray).data.toList = tl from rfl, ← HX2B.out] at hEP
                    have HEP := hide hEP
                    have hd1 : hd.length + 1 ≤ ln.length := HLR.out.2.1
                    have hd1i : (hd.length : Int) + 1 ≤ (ln.length : Int) := by omega
                    have HTL2 := hide HLR.out.1
                    clear hEP
                    go_wp2_with fail
                    refine HEP.out.mono ?_
                    rintro e wP ⟨hbP, hm⟩
                    have hbEP := HBE.out.trans (hbP.mono hse)
                    have e0' := (hbP.cell (World.block_lt_of_cell? _ _ e0)).trans e0
                    have e1' := (hbP.cell (World.block_lt_of_cell? _ _ e1)).trans e1
                    have e2' := (hbP.cell (World.block_lt_of_cell? _ _ e2)).trans e2
                    have ef2' := (hbP.frozen (World.block_lt_of_cell? _ _ e2)).trans ef2
                    have HBP := hide hbEP
                    have HPX := hide hbP
                    clear HEP hbP hbEP e0 e1 e2 ef2
                    cases hpt : Ex.parse tl with
                    | inl ep =>
                      obtain ⟨er, pl⟩ := ep
                      rw [hpt] at hm
                      have hpl := Ex.parse_place tl er pl hpt
                      have HTK := hide (Ld.take_err ⟨ns, rs, ps ++ gs⟩ st ln hd tl HAT.out HNO.out kk nm HHD.out er pl hpt)
                      obtain ⟨plv, rfl, her, hpv⟩ : ∃ plv : Int, e = .returned (.tuple #[.pointer none, .agg #[.int .i64 (er : Int), .int .i64 plv]]) ∧ er ≠ 0 ∧ ((plv = -1 ∧ pl.getD 0 = 0) ∨ (0 ≤ plv ∧ plv = ((pl.getD 0 : Nat) : Int))) := by
                        match pl, hm with
                        | none, hm => exact ⟨-1, hm.1, hm.2, .inl ⟨rfl, rfl⟩⟩
                        | some pp, hm => exact ⟨(pp : Int), hm.1, hm.2, .inr ⟨by omega, rfl⟩⟩
                      obtain ⟨wX, hwX⟩ : ∃ wX, wX = wP.alloc (.cells #[.int .i64 (er : Int), .int .i64 plv] 93) := ⟨_, rfl⟩
                      have hnX : wX.heap[wP.heap.size]? = some (.cells #[.int .i64 (er : Int), .int .i64 plv] 93 (0, 0)) := by rw [hwX]; exact heap_alloc_new wP _
                      have x0 : wX.cell? ⟨wP.heap.size, 0, none⟩ = some (.int .i64 (er : Int)) := by rw [Lib.cell_of_heap hnX]; rfl
                      have x1 : wX.cell? ⟨wP.heap.size, 1, none⟩ = some (.int .i64 plv) := by rw [Lib.cell_of_heap hnX]; rfl
                      have HBX3 : Hid (Below w3.heap.size w3 wX) := by rw [hwX]; exact HBP.out.alloc HBP.out.size _
                      have hbz : Below wA.heap.size wA wX := HBW.out.trans ((HB2.out.trans ((HB3.out.trans (HBX3.out.mono HB3.out.size)).mono HB2.out.size)).mono HBW.out.size)
                      have HBZX := hide hbz
                      have HFD : Hid (∀ W, Below w.heap.size w W → RParsed w (Ld.parse T) (.returned (.tuple #[.agg #[.slice none 0 0, .slice none 0 0], .agg #[.int .i64 (er : Int), .int .i64 ((st + hd.length + 1 + pl.getD 0 : Nat) : Int)]])) W) := fun W hW => by
                        have h1 : Ld.parse T = .inl (er, some (st + hd.length + 1 + pl.getD 0)) := Ld.parse_stops T (by omega) er _ (by rw [HLN.out]; exact Ld.takes_stop L (j + 1) _ (by rw [HN1.out]; exact HTK.out))
                        rw [h1]
                        exact ⟨hW, rfl, her⟩
                      have heri : ¬ ((er : Nat) : Int) = 0 := by omega
                      have hpP : wP.heap.size < wX.heap.size := World.block_lt_of_cell? _ _ x0
                      have hwP : w.heap.size + 4 ≤ wP.heap.size := Nat.le_trans HK3.out.2 HBP.out.size
                      obtain ⟨⟨z0, z1, z2, z3⟩, y0, y1, y2, y3⟩ := HZ.out wX hbz
                      have hn1 : wP.heap.size ≠ w.heap.size := by omega
                      have hn2 : wP.heap.size ≠ w.heap.size + 1 := by omega
                      obtain ⟨P, hP⟩ : ∃ P, P = pl.getD 0 := ⟨_, rfl⟩
                      rw [← hP] at hpv HFD
                      have hPl : P ≤ 20000 := by
                        rw [hP]
                        cases pl with
                        | none => exact Nat.zero_le _
                        | some pp => have := HTL2.out; simp at hpl ⊢; omega
                      clear hP HTK hpt hm HFE hnX hbz
                      go_upto_region 25 with fail
                      rw [← hwX]
                      have HWX := hide hwX
                      clear hwX e0' e1' e2' ef2'
                      rcases hpv with ⟨rfl, rfl⟩ | ⟨hp0, rfl⟩
                      · have HVV : Hid ((st : Int) + (hd.length : Int) + 1 + max 0 (-1 : Int) = ((st + hd.length + 1 + 0 : Nat) : Int)) := by show _ = _; omega
                        go_region
                        go_wp2_with fail
                        refine bodyPost_ret_by (v := .tuple #[.agg #[.slice none 0 0, .slice none 0 0], .agg #[.int .i64 (er : Int), .int .i64 ((st : Int) + (hd.length : Int) + 1 + max 0 (-1 : Int))]]) ?_ rfl ?_
                        · simp [results, Tryz.results69, go_sem, z0, z1, z2, z3]
                        · rw [HVV.out]
                          refine HFD.out _ ?_
                          have h1 := put4_below (HBA.out.trans (HBZX.out.mono HBA.out.size)) (.slice none 0 0) (.slice none 0 0) (.int .i64 (er : Int)) (.int .i64 ((st : Int) + (hd.length : Int) + 1 + max 0 (-1 : Int)))
                          exact ⟨h1.os, h1.tape, h1.output, h1.size, h1.block⟩
                      · have HVV : Hid ((st : Int) + (hd.length : Int) + 1 + max 0 ((P : Int)) = ((st + hd.length + 1 + P : Nat) : Int)) := by show _ = _; omega
                        go_region
                        go_wp2_with fail
                        refine bodyPost_ret_by (v := .tuple #[.agg #[.slice none 0 0, .slice none 0 0], .agg #[.int .i64 (er : Int), .int .i64 ((st : Int) + (hd.length : Int) + 1 + max 0 ((P : Int)))]]) ?_ rfl ?_
                        · simp [results, Tryz.results69, go_sem, z0, z1, z2, z3]
                        · rw [HVV.out]
                          refine HFD.out _ ?_
                          have h1 := put4_below (HBA.out.trans (HBZX.out.mono HBA.out.size)) (.slice none 0 0) (.slice none 0 0) (.int .i64 (er : Int)) (.int .i64 ((st : Int) + (hd.length : Int) + 1 + max 0 ((P : Int))))
                          exact ⟨h1.os, h1.tape, h1.output, h1.size, h1.block⟩
                    | inr x =>
                      rw [hpt] at hm
                      obtain ⟨gx, rfl, hxp⟩ := hm
                      have HTK := hide (Ld.take_ok ⟨ns, rs, ps ++ gs⟩ st ln hd tl HAT.out HNO.out kk nm HHD.out x hpt)
                      have HPT := hide hpt
                      obtain ⟨wY, hwY⟩ : ∃ wY, wY = (wP.setCell ⟨w3.heap.size, 2, none⟩ (.pointer (some ⟨gx, 0, none⟩))).alloc (.cells #[.int .i64 0, .int .i64 (-1)] 93) := ⟨_, rfl⟩
                      have h3P : w3.heap.size < wP.heap.size := World.block_lt_of_cell? _ _ e0'
                      have hzP := HPX.out.size
                      have hzP3 := HBP.out.size
                      have HBY : Hid (Below w3.heap.size w3 wY) := by
                        rw [hwY]
                        have h1 := HBP.out.setCell (p := ⟨w3.heap.size, 2, none⟩) (Nat.le_refl _) (.pointer (some ⟨gx, 0, none⟩))
                        exact h1.alloc h1.size _
                      have hzS : (wP.setCell ⟨w3.heap.size, 2, none⟩ (.pointer (some ⟨gx, 0, none⟩))).heap.size = wP.heap.size := by simp [World.setCell]
                      have f0 : wY.cell? ⟨w3.heap.size, 0, none⟩ = some (.int .i64 ((kk : Nat) : Int)) := by
                        rw [hwY, World.cell?_alloc_lt _ _ _ (by rw [hzS]; exact h3P), World.cell?_setCell_other _ _ _ _ (by simp)]; exact e0'
                      have f1 : wY.cell? ⟨w3.heap.size, 1, none⟩ = some (.string ⟨nm.toArray⟩) := by
                        rw [hwY, World.cell?_alloc_lt _ _ _ (by rw [hzS]; exact h3P), World.cell?_setCell_other _ _ _ _ (by simp)]; exact e1'
                      have f2 : wY.cell? ⟨w3.heap.size, 2, none⟩ = some (.pointer (some ⟨gx, 0, none⟩)) := by
                        rw [hwY, World.cell?_alloc_lt _ _ _ (by rw [hzS]; exact h3P)]; exact World.cell?_setCell_same _ _ _ e2'
                      have h3E : w3.heap.size < wE.heap.size := by
                        have := HBE.out.size
                        by_cases h : w3.heap.size < wE.heap.size
                        · exact h
                        · exact absurd hE3 h
                      have HXY := hide (HX3.out.below HBY.out)
                      have HRX : Hid (IsRx (okY (w.heap.size + 4) nv rv (.slice pa ps.length pc) (.slice ga gs.length gc)) wY x gx) := by
                        refine IsRx.stay (ok := fun g => wE.heap.size ≤ g) (w := wP) ?_ ?_ x gx hxp
                        · intro k i u hk hc
                          rw [hwY, World.cell?_alloc_lt _ _ _ (by rw [hzS]; exact World.block_lt_of_cell? _ _ hc), World.cell?_of_block (Below.heap_setCell _ _ _ _ (fun e => by have e2 : k = w3.heap.size := e; omega))]
                          exact hc
                        · intro k hk
                          have hq3 := HK3.out.2
                          refine ⟨by omega, ?_, ?_, ?_, ?_⟩
                          · intro e; have := (HX3.out.on.lt k e.symm).2; omega
                          · intro e; have := (HX3.out.org.lt k e.symm).2; omega
                          · intro e; have := (HX3.out.op.lt k e.symm).2; omega
                          · intro e; have := (HX3.out.og.lt k e.symm).2; omega
                      have HKY2 : Hid (wY.heap[wB.heap.size]? = w1.heap[wB.heap.size]? ∧ w.heap.size + 4 ≤ wY.heap.size) := ⟨(HBY.out.block _ (by have := HK3.out.2; omega)).trans HK3.out.1, Nat.le_trans HK3.out.2 HBY.out.size⟩
                      obtain ⟨ra, rc, hrv⟩ := own_slice HXY.out.org
                      subst hrv
                      have hqe := HKY2.out.2
                      have b1 : wY.cell? ⟨w.heap.size + 1 + 1, 1, none⟩ = some (.slice ra rs.length rc) := by rw [Lib.cell_of_heap HXY.out.blk]; rfl
                      obtain ⟨i0, hi0, hz0, hz1, hz2⟩ := info_parts Tryz.infoRRung
                      obtain ⟨i1, hi1, hy0, hy1, hy2⟩ := info_parts Tryz.infoInt
                      have hcn := HCN.out
                      have hcp : gs.length ≤ 20001 := by have := HLL.out.2; omega
                      have HOWN : Hid (∀ o, (wY.alloc o).ownsRow (w.heap.size + 4) 195 3 (.slice ra rs.length rc) rs.length ((rs.zip vs).flatMap rgCells)) := fun o => HXY.out.org.alloc o
                      have HONE : Hid (∀ u ∈ [Value.int .i64 ((kk : Nat) : Int), Value.string ⟨nm.toArray⟩, Value.pointer (some ⟨gx, 0, none⟩)], u.oneCell' = true) := by
                        intro u hu
                        simp only [List.mem_cons, List.not_mem_nil, or_false] at hu
                        rcases hu with rfl | rfl | rfl <;> rfl
                      have HONI : Hid (∀ u ∈ [Value.int .i64 (st : Int)], u.oneCell' = true) := by
                        intro u hu
                        simp only [List.mem_cons, List.not_mem_nil, or_false] at hu
                        subst hu; rfl
                      have HKB : Hid (nm.length ≤ 20000 ∧ I64 ((kk : Nat) : Int)) := ⟨hnl, by omega, by omega⟩
                      have hbe : w.heap.size + 1 + 1 < wY.heap.size := by omega
                      have h3e : w3.heap.size < wY.heap.size := World.block_lt_of_cell? _ _ f0
                      clear HFE hxp hpt hzS
                      unfold faultV
                      go_upto_region 27 with fail
                      rw [← hwY]
                      clear hwY e0' e1' e2' ef2'
                      go_wp2_with (first
                        | (at_builtin; refine wpList_append_lies _ rfl (.tmp 114) (.tmp 116) 43 rfl (w.heap.size + 4) 195 i0 _ 3 32 Tryz.underlying43 hi0 hz0 hz1 hz2 rfl (by decide) (.slice ra rs.length rc) rs.length ((rs.zip vs).flatMap rgCells) rfl (HOWN.out _) ⟨wY.heap.size, 0, none⟩ 1 1 [Value.int .i64 ((kk : Nat) : Int), Value.string ⟨nm.toArray⟩, Value.pointer (some ⟨gx, 0, none⟩)] rfl rfl (World.news_of_block (heap_alloc_new wY _)) HONE.out (by decide) (by unfold maxLen; omega) (by omega) (by simp; omega) (wY.heap.size + 1) (by simp) ?_; intro g cap wF hown hgrow hat hltg; have HOW2 := hide (HXY.out.midG _ hgrow); have hzF := hgrow.size; rw [World.size_alloc] at hzF; have HOW1 := hide hown; have HGR1 := hide hgrow; have HAT1 := hide hat; clear hown hgrow hat)
                        | (at_builtin; refine wpList_append_lies _ rfl (.tmp 118) (.tmp 120) 36 rfl (w.heap.size + 4) 3 i1 _ 1 8 Tryz.underlying36 hi1 hy0 hy1 hy2 rfl (by decide) (.slice ga gs.length gc) gs.length (gs.map intV) rfl (HOW2.out.alloc _) ⟨wF.heap.size, 0, none⟩ 1 1 [.int .i64 (st : Int)] rfl rfl (World.news_of_block (heap_alloc_new wF _)) HONI.out (by decide) (by unfold maxLen; omega) (by omega) (by simp; omega) (wF.heap.size + 1) (by simp) ?_; intro g' cap' wG hown hgrow hat hltg'; have hzG := hgrow.size; rw [World.size_alloc] at hzG; have HNE := hide (HXY.out.rung (by omega) hqe ((kk : Nat) : Int) nm x gx tl HKB.out HPT.out HRX.out st g cap g' cap' _ _ HOW1.out HGR1.out HAT1.out hown hgrow hat); have HKP := hide (HXY.out.keepR hqe _ _ HGR1.out hgrow); have hbk := (HKP.out (w.heap.size + 1 + 1) (by omega)).trans HXY.out.blk; have bA : wG.cell? ⟨w.heap.size + 1 + 1, 1, none⟩ = some (.slice ra rs.length rc) := (by rw [Lib.cell_of_heap hbk]; rfl); have bF : wG.frozen? ⟨w.heap.size + 1 + 1, 1, none⟩ = false := Lib.frozen_of_heap hbk 1; clear hbk hown hgrow hat))
                      refine ⟨?inv, ?measure⟩
                      case inv =>
                        refine (HINV.out _ _).2 ?_
                        refine pframe_back _ _ ?_ rfl
                        rw [HR.out]
                        refine ⟨j + 1, ns, rs ++ [⟨((kk : Nat) : Int), nm, some x⟩], ps, gs ++ [st], nv, .slice (some ⟨g, 0, none⟩) (rs.length + 1) cap, vs ++ [.pointer (some ⟨gx, 0, none⟩)], ?_⟩
                        refine ⟨by omega, by go_num, by rw [HTN.out]; go_num, ⟨pa, pc, rfl⟩, ⟨some ⟨g', 0, none⟩, cap', by rw [List.length_append]; rfl⟩, HNE.out, ?_, ⟨HLL.out.1, by simp [HLL.out.2]⟩, ?_, ?_⟩
                        · show _ = _
                          rw [HN1.out, HTK.out]
                          simp
                        · rw [Below.heap_setCell _ _ _ _ (fun e => by have e2 : wB.heap.size = w.heap.size + 1 + 1 := e; omega), HKP.out _ (by omega)]
                          exact HKY2.out.1
                        · simp [World.setCell]
                          omega
                      case measure => simp [intOf]; omega
                | cons w4' wr3 =>
                  have HTK : Hid (Ld.take ⟨ns, rs, ps ++ gs⟩ st ln = .inl (3, st)) := Ld.take_head _ _ _ _ _ HAT.out HNO.out (by rw [hwl]; rfl)
                  have hn3 : 2 < hn := by rw [HHN.out, hwl]; simp
                  have hn1i : ¬ (hn : Int) = 1 := by omega
                  have hn2i : ¬ (hn : Int) = 2 := by omega
                  have hn3i : (2 : Int) < (hn : Int) := by omega
                  have hn4i : ¬ (hn : Int) < 1 := by omega
                  clear hwl hn3
                  obtain ⟨⟨z0, z1, z2, z3⟩, y0, y1, y2, y3⟩ := HZ.out wc HBZ.out
                  have HFI := hide (fun a b c d => HFE.out 3 st wc a b c d (by decide) HTK.out HBZ.out)
                  unfold put4 at HFI
                  clear HFE
                  go_wp2_with fail
                  refine bodyPost_ret_by (v := .tuple #[.agg #[.slice none 0 0, .slice none 0 0], .agg #[.int .i64 3, .int .i64 (st : Int)]]) ?_ rfl ?_
                  · simp [results, Tryz.results69, go_sem, z0, z1, z2, z3]
                  · exact HFI.out _ _ _ _
      · have hjN : j = N := by omega
        have HPE : Hid (Ld.parse T = Ld.checked ⟨ns, rs, ps ++ gs⟩) := by
          have h1 := HT.out
          rw [List.take_of_length_le (by rw [← HN.out]; omega)] at h1
          exact Ld.parse_ends T (by omega) _ (by rw [HLN.out]; exact h1)
        have hcn := HCN.out
        have hprg := HX.out.prg (by omega) (by omega)
        have hq4 := HK.out.2
        obtain ⟨na, nc, hnv⟩ := own_slice HX.out.on
        obtain ⟨ra, rc, hrv⟩ := own_slice HX.out.org
        subst hnv
        subst hrv
        have HCK := hide (rcheck_any ⟨ns, rs⟩ _ wr hprg (HLA.out.below HBW.out).r)
        have b0 : wr.cell? ⟨w.heap.size + 1 + 1, 0, none⟩ = some (.slice na ns.length nc) := by rw [Lib.cell_of_heap HX.out.blk]; rfl
        have b1 : wr.cell? ⟨w.heap.size + 1 + 1, 1, none⟩ = some (.slice ra rs.length rc) := by rw [Lib.cell_of_heap HX.out.blk]; rfl
        have hji : ¬ (j : Int) < (N : Int) := by omega
        generalize Ld.total (L.take j) = st at *
        clear hprg hjN HT
        go_wp2_with fail
        refine HCK.out.mono ?_
        rintro e w2 ⟨rfl, hb2⟩
        have HB2 := hide hb2
        have hz2 := hb2.size
        have HXW := hide (HX.out.below hb2)
        have HBW2 := hide (HBW.out.trans (hb2.mono HBW.out.size))
        have HFI2 := hide ((HLA.out.below HBW.out).r.fine.below hb2)
        clear hb2 HCK b0 b1
        cases hck : Ld.check ⟨ns, rs⟩ with
        | none =>
          have HCH : Hid (Ld.parse T = .inr ⟨ns, rs⟩) := by show _ = _; rw [HPE.out]; exact Ld.checked_none ⟨ns, rs, ps ++ gs⟩ hck
          have HC0 := hide hck
          rw [show faultOf none = .agg #[.int .i64 0, .int .i64 (-1)] from rfl]
          obtain ⟨wX, hwX⟩ : ∃ wX, wX = w2.alloc (.cells #[.int .i64 0, .int .i64 (-1)] 93) := ⟨_, rfl⟩
          have hbX : Below w2.heap.size w2 wX := by rw [hwX]; exact (Below.refl _ _).alloc (Nat.le_refl _) _
          have HXX := hide (HXW.out.below hbX)
          have hbz := HBW2.out.trans (hbX.mono HBW2.out.size)
          have HBZ := hide hbz
          have x0 : wX.cell? ⟨w2.heap.size, 0, none⟩ = some (.int .i64 0) := by rw [hwX]; exact Lib.cell_of_heap (heap_alloc_new w2 _) 0
          have b0 : wX.cell? ⟨w.heap.size + 1 + 1, 0, none⟩ = some (.slice na ns.length nc) := by rw [Lib.cell_of_heap HXX.out.blk]; rfl
          have b1 : wX.cell? ⟨w.heap.size + 1 + 1, 1, none⟩ = some (.slice ra rs.length rc) := by rw [Lib.cell_of_heap HXX.out.blk]; rfl
          obtain ⟨g0, g1⟩ := HFI2.out.below hbX
          obtain ⟨⟨z0, z1, z2, z3⟩, y0, y1, y2, y3⟩ := HZ.out wX hbz
          have hzX : w2.heap.size < wX.heap.size := World.block_lt_of_cell? _ _ x0
          have hgl : 0 < w.heap.size := by
            have := HLA.out.low
            have h2 : 0 < 14 - 2 := by decide
            omega
          have HFN : Hid (RParsed w (Ld.parse T) (.returned (.tuple #[.agg #[.slice na ns.length nc, .slice ra rs.length rc], .agg #[.int .i64 0, .int .i64 (-1)]])) (put4 wX w.heap.size (.slice na ns.length nc) (.slice ra rs.length rc) (.int .i64 0) (.int .i64 (-1))).drew) := by
            rw [HCH.out]
            have h1 := put4_below (HBA.out.trans (HBZ.out.mono HBA.out.size)) (.slice na ns.length nc) (.slice ra rs.length rc) (.int .i64 0) (.int .i64 (-1))
            refine ⟨⟨h1.os, h1.tape, h1.output, h1.size, h1.block⟩, _, _, rfl, ?_, HC0.out⟩
            have h2 := HXX.out.moved (W' := (put4 wX w.heap.size (.slice na ns.length nc) (.slice ra rs.length rc) (.int .i64 0) (.int .i64 (-1))).drew) (by omega) (fun k hk _ => put4_heap wX w.heap.size _ _ _ _ k (by omega))
            exact h2.prg (by omega) (by omega)
          have HWX := hide hwX
          unfold put4 at HFN
          clear hbX hbz hck
          go_upto_region 47 with fail
          rw [← HWX.out]
          clear hwX
          go_region
          go_wp2_with fail
          refine bodyPost_ret_by (v := .tuple #[.agg #[.slice na ns.length nc, .slice ra rs.length rc], .agg #[.int .i64 0, .int .i64 (-1)]]) ?_ rfl ?_
          · simp [results, Tryz.results69, go_sem, z0, z1, z2, z3]
          · exact HFN.out
        | some ep =>
          obtain ⟨er, pl⟩ := ep
          have her := Ld.check_pos _ er pl hck
          have heri : ¬ ((er : Nat) : Int) = 0 := by omega
          have HCH : Hid (Ld.parse T = .inl (er, pl.map fun i => (ps ++ gs).getD i 0)) := by show _ = _; rw [HPE.out]; exact Ld.checked_some ⟨ns, rs, ps ++ gs⟩ er pl hck
          cases pl with
          | none =>
            have HFD : Hid (∀ W, Below w.heap.size w W → RParsed w (Ld.parse T) (.returned (.tuple #[.agg #[.slice none 0 0, .slice none 0 0], .agg #[.int .i64 (er : Int), .int .i64 (-1)]])) W) := fun W hW => by
              rw [HCH.out]
              exact ⟨hW, rfl, her⟩
            rw [show faultOf (some (er, none)) = .agg #[.int .i64 (er : Int), .int .i64 (-1)] from rfl]
            obtain ⟨wX, hwX⟩ : ∃ wX, wX = w2.alloc (.cells #[.int .i64 (er : Int), .int .i64 (-1)] 93) := ⟨_, rfl⟩
            have hbX : Below w2.heap.size w2 wX := by rw [hwX]; exact (Below.refl _ _).alloc (Nat.le_refl _) _
            have hbz := HBW2.out.trans (hbX.mono HBW2.out.size)
            have HBZ := hide hbz
            have x0 : wX.cell? ⟨w2.heap.size, 0, none⟩ = some (.int .i64 (er : Int)) := by rw [hwX]; exact Lib.cell_of_heap (heap_alloc_new w2 _) 0
            have x1 : wX.cell? ⟨w2.heap.size, 1, none⟩ = some (.int .i64 (-1)) := by rw [hwX]; exact Lib.cell_of_heap (heap_alloc_new w2 _) 1
            obtain ⟨⟨z0, z1, z2, z3⟩, y0, y1, y2, y3⟩ := HZ.out wX hbz
            have hzX : w2.heap.size < wX.heap.size := World.block_lt_of_cell? _ _ x0
            have hn1 : w2.heap.size ≠ w.heap.size := by omega
            have hn2 : w2.heap.size ≠ w.heap.size + 1 := by omega
            have HWX := hide hwX
            clear hbX hbz hck
            go_upto_region 46 with fail
            rw [← HWX.out]
            clear hwX
            go_region
            go_wp2_with fail
            refine bodyPost_ret_by (v := .tuple #[.agg #[.slice none 0 0, .slice none 0 0], .agg #[.int .i64 (er : Int), .int .i64 (-1)]]) ?_ rfl ?_
            · simp [results, Tryz.results69, go_sem, z0, z1, z2, z3]
            · refine HFD.out _ ?_
              have h1 := put4_below (HBA.out.trans (HBZ.out.mono HBA.out.size)) (.slice none 0 0) (.slice none 0 0) (.int .i64 (er : Int)) (.int .i64 (-1))
              exact ⟨h1.os, h1.tape, h1.output, h1.size, h1.block⟩
          | some i =>
            have hi := Ld.check_place _ er i hck
            have hil : i < ps.length + gs.length := by have h1 := HLL.out; have h2 : i < ns.length + rs.length := hi; omega
            obtain ⟨pv', hpv'⟩ : ∃ x, x = (ps ++ gs).getD i 0 := ⟨_, rfl⟩
            have HFD : Hid (∀ W, Below w.heap.size w W → RParsed w (Ld.parse T) (.returned (.tuple #[.agg #[.slice none 0 0, .slice none 0 0], .agg #[.int .i64 (er : Int), .int .i64 ((pv' : Nat) : Int)]])) W) := fun W hW => by
              rw [HCH.out, hpv']
              exact ⟨hW, rfl, her⟩
            rw [show faultOf (some (er, some i)) = .agg #[.int .i64 (er : Int), .int .i64 ((i : Nat) : Int)] from rfl]
            obtain ⟨wX, hwX⟩ : ∃ wX, wX = w2.alloc (.cells #[.int .i64 (er : Int), .int .i64 ((i : Nat) : Int)] 93) := ⟨_, rfl⟩
            have hbX : Below w2.heap.size w2 wX := by rw [hwX]; exact (Below.refl _ _).alloc (Nat.le_refl _) _
            have hnX : wX.heap[w2.heap.size]? = some (.cells #[.int .i64 (er : Int), .int .i64 ((i : Nat) : Int)] 93 (0, 0)) := by rw [hwX]; exact heap_alloc_new w2 _
            have hbz := HBW2.out.trans (hbX.mono HBW2.out.size)
            have HXX := HXW.out.below hbX
            have x0 : wX.cell? ⟨w2.heap.size, 0, none⟩ = some (.int .i64 (er : Int)) := by rw [Lib.cell_of_heap hnX]; rfl
            have x1 : wX.cell? ⟨w2.heap.size, 1, none⟩ = some (.int .i64 ((i : Nat) : Int)) := by rw [Lib.cell_of_heap hnX]; rfl
            have x1d : wX.drew.cell? ⟨w2.heap.size, 1, none⟩ = some (.int .i64 ((i : Nat) : Int)) := x1
            have hzX : w2.heap.size < wX.heap.size := World.block_lt_of_cell? _ _ x0
            have hll := HLL.out
            obtain ⟨v', wF, happ, hownF, hgrF⟩ := append_ints (W := wX.drew) (w.heap.size + 4) 36 (.slice pa ps.length pc) (.slice ga gs.length gc) ps gs HXX.op HXX.og (by show w.heap.size + 4 ≤ wX.heap.size; omega) (by omega) (by omega)
            have hfb : wF.heap[w2.heap.size]? = some (.cells #[.int .i64 (er : Int), .int .i64 ((i : Nat) : Int)] 93 (0, 0)) := (hgrF.block _ hzX (fun e => by have := (HXW.out.op.lt _ e.symm).2; omega)).trans hnX
            have hbF : Below wA.heap.size wA wF := hbz.trans ⟨hgrF.os, hgrF.tape, hgrF.output, hgrF.size, fun k hk => hgrF.block k (by have := hbz.size; show k < wX.heap.size; omega) (fun e => by have := (HXW.out.op.lt _ e.symm).1; omega)⟩
            have x0F : wF.cell? ⟨w2.heap.size, 0, none⟩ = some (.int .i64 (er : Int)) := by rw [Lib.cell_of_heap hfb]; rfl
            have x1F : wF.cell? ⟨w2.heap.size, 1, none⟩ = some (.int .i64 ((i : Nat) : Int)) := by rw [Lib.cell_of_heap hfb]; rfl
            have x1z : wF.frozen? ⟨w2.heap.size, 1, none⟩ = false := Lib.frozen_of_heap hfb 1
            obtain ⟨g, cap, rfl, hcap, hci⟩ : ∃ g cap, v' = .slice (some ⟨g, 0, none⟩) (ps.length + gs.length) cap ∧ ps.length + gs.length ≤ cap ∧ wF.cell? ⟨g, i, none⟩ = some (.int .i64 ((pv' : Nat) : Int)) := by
              rcases hownF.2 with ⟨_, h0⟩ | ⟨g, cap, cur, h1, _, hcur, hcap, _, _, htk⟩
              · omega
              · refine ⟨g, cap, h1, hcap, row_cell hcur htk ?_⟩
                rw [List.getElem?_map, List.getElem?_eq_getElem (by rw [List.length_append]; exact hil), hpv']
                simp [intV, List.getD_eq_getElem?_getD, List.getElem?_eq_getElem (show i < (ps ++ gs).length by rw [List.length_append]; exact hil)]
            have hgn : g ≠ w2.heap.size := by
              intro e
              obtain ⟨c, hc⟩ := own_tag hownF g rfl
              rw [e, hfb] at hc
              simp only [Option.some.injEq, Obj.cells.injEq] at hc
              exact absurd hc.2.1 (by decide)
            have hglt : g < wF.heap.size := World.block_lt_of_cell? _ _ hci
            have h2F : w2.heap.size < wF.heap.size := World.block_lt_of_cell? _ _ x0F
            obtain ⟨wG, hwG⟩ : ∃ wG, wG = wF.setCell ⟨w2.heap.size, 1, none⟩ (.int .i64 ((pv' : Nat) : Int)) := ⟨_, rfl⟩
            have HBG : Hid (Below wA.heap.size wA wG) := by rw [hwG]; exact hbF.setCell (p := ⟨w2.heap.size, 1, none⟩) (by show wA.heap.size ≤ w2.heap.size; have := HBW2.out.size; omega) _
            have v0 : wG.cell? ⟨w2.heap.size, 0, none⟩ = some (.int .i64 (er : Int)) := by rw [hwG, World.cell?_setCell_other _ _ _ _ (by simp)]; exact x0F
            have v1 : wG.cell? ⟨w2.heap.size, 1, none⟩ = some (.int .i64 ((pv' : Nat) : Int)) := by rw [hwG]; exact World.cell?_setCell_same _ _ _ x1F
            obtain ⟨⟨z0, z1, z2, z3⟩, y0, y1, y2, y3⟩ := HZ.out wG HBG.out
            have hzG : w2.heap.size < wG.heap.size := World.block_lt_of_cell? _ _ v0
            have hn1 : w2.heap.size ≠ w.heap.size := by omega
            have hn2 : w2.heap.size ≠ w.heap.size + 1 := by omega
            have hii : (0 : Int) ≤ ((i : Nat) : Int) := by omega
            have hili : ((i : Nat) : Int) < (ps.length : Int) + (gs.length : Int) := by omega
            have HAPP := hide happ
            have HWX := hide hwX
            clear hck hbX hnX hbz HXX hownF hgrF hfb hbF happ hpv' hi hll
            go_upto_region 45 with fail
            rw [← HWX.out]
            clear hwX
            go_region_law (refine step_append_run wX.drew rfl (.tmp 203) (.tmp 204) 36 36 rfl (.slice pa ps.length pc) (.slice ga gs.length gc) rfl rfl _ wF HAPP.out ?_)
            all_goals (rw [← hwG]; clear hwG)
            all_goals go_wp2_with fail
            all_goals go_region
            all_goals go_wp2_with fail
            all_goals refine bodyPost_ret_by (v := .tuple #[.agg #[.slice none 0 0, .slice none 0 0], .agg #[.int .i64 (er : Int), .int .i64 ((pv' : Nat) : Int)]]) ?_ rfl ?_
            all_goals first
              | (simp [results, Tryz.results69, go_sem, z0, z1, z2, z3]; done)
              | (refine HFD.out _ ?_
                 have h1 := put4_below (HBA.out.trans (HBG.out.mono HBA.out.size)) (.slice none 0 0) (.slice none 0 0) (.int .i64 (er : Int)) (.int .i64 ((pv' : Nat) : Int))
                 exact ⟨h1.os, h1.tape, h1.output, h1.size, h1.block⟩)
end Go.Proofs.YtgldbliohpfljaaGreatDoor
