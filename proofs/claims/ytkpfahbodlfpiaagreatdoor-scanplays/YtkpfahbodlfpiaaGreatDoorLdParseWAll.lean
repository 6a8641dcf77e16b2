/-
  The walk of the document's Number: a number, as it would be written. The walk of package ladder's Parse.
-/
import Derived.Test.YtkpfahbodlfpiaaGreatDoorLdReads
import Derived.Test.YtkpfahbodlfpiaaGreatDoorShelf4
import Derived.Test.YtkpfahbodlfpiaaGreatDoorShelf5
import Derived.Lib.ParseIntBTie
import Derived.Test.YtkpfahbodlfpiaaGreatDoorRpRuneAll
namespace Go.Proofs.YtkpfahbodlfpiaaGreatDoor
section
open Go.RowKit
set_option maxHeartbeats 2000000 in
set_option maxRecDepth 100000 in
theorem rcount_any (s : List UInt8) (w : World) (hs : s.length ≤ 20000) (hN : NumErrs w) (hP : Pows w) (hG : 14 ≤ w.heap.size) :
    Calls Tryz.prog 54 #[.string ⟨s.toArray⟩] w fun e w' => ∃ n, I64 n ∧ e = .returned (.tuple #[.int .i64 n, .bool (Ld.rdCount s).isSome]) ∧ (∀ m, Ld.rdCount s = some m → m = n) ∧ Below w.heap.size w w' := by
  have e0 : (⟨s.toArray⟩ : ByteArray).data.toList = s := rfl
  have es : (⟨s.toArray⟩ : ByteArray).size = s.length := by simp [ByteArray.size]
  cases ha : Lib.atoiAll s with
  | ok v =>
    have HC := hide (Tryz.strconv_ParseInt_10_at64_ok ⟨s.toArray⟩ (by rw [es]; omega) v (by rw [e0, Lib.parseIntB_64]; exact ha) w)
    have HV := hide (atoi_i64 s v ha)
    have HR : Hid (Ld.rdCount s = if Lib.itoa v = s then some v else none) := by show _ = _; unfold Ld.rdCount; rw [ha]
    have HIT0 : Hid (∀ W, Pows W → Calls Tryz.prog 83 #[.int .i64 v, .int .i64 10] W fun e w' => e = .returned (.string ⟨(Lib.itoa v).toArray⟩) ∧ Below W.heap.size W w') := by
      intro W hp
      refine (Tryz.strconv_FormatInt_10 v HV.out.1 HV.out.2 W hp).mono ?_
      rintro e w4 ⟨rfl, kk, os, rfl⟩
      exact ⟨rfl, bgrow _ _ _⟩
    have HP := hide hP
    clear ha e0 es hN hP
    generalize Lib.itoa v = iv at *
    have hb1 := bytes_list iv
    have hb2 := bytes_list s
    go_enter Tryz.func54, Tryz.ntmps54
    go_wp2_with fail
    refine HC.out.mono ?_
    rintro e w1 ⟨rfl, hw1⟩
    have hbw : Below w.heap.size w w1 := by
      rcases hw1 with rfl | ⟨t, rfl⟩
      · exact Below.refl _ _
      · exact Lib.bytesWorld_below _ _ _
    have HB := hide hbw
    have HIT := hide (HIT0.out w1 (HP.out.low hbw hG))
    clear hw1 hbw HC
    go_wp2_with fail
    refine HIT.out.mono ?_
    rintro e w2 ⟨rfl, hb⟩
    have HB2 := hide (HB.out.trans (hb.mono HB.out.size))
    clear hb HIT
    by_cases hq : iv = s
    · subst hq
      go_wp2_with fail
      go_ret2
      exact ⟨v, HV.out, by rw [HR.out, if_pos trivial]; rfl, fun m hm => (by rw [HR.out, if_pos trivial] at hm; cases hm; rfl), HB2.out⟩
    · have HQ := hide hq
      have hqb : (iv == s) = false := by simpa using hq
      clear hq
      go_wp2_with fail
      go_ret2
      exact ⟨0, ⟨by omega, by omega⟩, by rw [HR.out, if_neg HQ.out]; rfl, fun m hm => (by rw [HR.out, if_neg HQ.out] at hm; cases hm), HB2.out⟩
  | «syntax» =>
    obtain ⟨te, pe, hv⟩ := hN.1
    have HC := hide (Tryz.strconv_ParseInt_10_at64_syntax ⟨s.toArray⟩ (by rw [es]; omega) (by rw [e0, Lib.parseIntB_64]; exact ha) _ w hv (.inr ⟨te, pe, rfl⟩))
    have HR : Hid (Ld.rdCount s = none) := by show _ = _; unfold Ld.rdCount; rw [ha]
    clear ha e0 es hv hN hP
    go_enter Tryz.func54, Tryz.ntmps54
    go_wp2_with fail
    refine HC.out.mono ?_
    rintro e w1 ⟨N, rfl, _, _, hb⟩
    have HB := hide hb
    clear hb HC
    go_wp2_with fail
    go_ret2
    exact ⟨0, ⟨by omega, by omega⟩, by rw [HR.out]; rfl, fun m hm => (by rw [HR.out] at hm; cases hm), HB.out⟩
  | range =>
    obtain ⟨te, pe, hv⟩ := hN.2
    have HC := hide (Tryz.strconv_ParseInt_10_at64_range ⟨s.toArray⟩ (by rw [es]; omega) (by rw [e0, Lib.parseIntB_64]; exact ha) _ w hv (.inr ⟨te, pe, rfl⟩))
    have HR : Hid (Ld.rdCount s = none) := by show _ = _; unfold Ld.rdCount; rw [ha]
    clear ha e0 es hv hN hP
    generalize Lib.intSat 64 (⟨s.toArray⟩ : ByteArray).data.toList = sat at *
    go_enter Tryz.func54, Tryz.ntmps54
    go_wp2_with fail
    refine HC.out.mono ?_
    rintro e w1 ⟨N, rfl, _, _, hb⟩
    have HB := hide hb
    clear hb HC
    go_wp2_with fail
    go_ret2
    exact ⟨0, ⟨by omega, by omega⟩, by rw [HR.out]; rfl, fun m hm => (by rw [HR.out] at hm; cases hm), HB.out⟩
end
section
open Go.RowKit
attribute [local go_sem] Oper.semAt_some
/-- what Parse comes to in memory -/
def LParsed (w : World) (res : (Nat × Option Nat) ⊕ Ld.Prg) (e : Ending) (w' : World) : Prop :=
  Below w.heap.size w w' ∧ match res with
    | .inl r => ∃ u, e = .returned (.tuple #[.agg #[.slice none 0 0, .slice none 0 0], u]) ∧ ErrIs w' u (some r)
    | .inr p => ∃ v, e = .returned (.tuple #[v, .nilIface]) ∧ IsPrg w' p v ∧ ∀ g, g ∈ p.rungs → ∀ x, g.cond = some x → ∃ l, Ex.parse l = .inr x
/-- what a program's reading leans on: the words and errors as they are laid -/
structure Laid (w : World) : Prop where
  words : Words w
  errs : NumErrs w
  pows : Pows w
  door : ErAs.Door w
  low : 14 ≤ w.heap.size
theorem Laid.below {w w' : World} (h : Laid w) (hb : Below w.heap.size w w') : Laid w' :=
  ⟨h.words.low hb h.low, h.errs.low hb h.low, h.pows.low hb h.low, (hb.cell (p := ⟨6, 0, none⟩) (Nat.lt_of_lt_of_le (by decide : 6 < 14) h.low)).trans h.door, Nat.le_trans h.low hb.size⟩
/-- the two results, stored -/
theorem set3 {W : World} {N : Nat} {x0 x1 y a b v : Value} {T2 T3 : TypeId} (g2 : W.heap[N]? = some (.cells #[x0, x1] T2 (0, 0))) (g3 : W.heap[N + 1]? = some (.cells #[y] T3 (0, 0))) (F : World) (hF : F = ((W.setCell ⟨N, 0, none⟩ a).setCell ⟨N, 1, none⟩ b).setCell ⟨N + 1, 0, none⟩ v) :
    F.heap[N]? = some (.cells #[a, b] T2 (0, 0)) ∧ F.heap[N + 1]? = some (.cells #[v] T3 (0, 0)) ∧ (∀ k, k ≠ N → k ≠ N + 1 → F.heap[k]? = W.heap[k]?) ∧ F.heap.size = W.heap.size ∧ F.os = W.os ∧ F.tape = W.tape ∧ F.output = W.output := by
  subst hF
  refine ⟨?_, ?_, ?_, by simp [World.setCell], rfl, rfl, rfl⟩
  · simp [World.setCell, Array.getElem?_modify, g2]
  · simp [World.setCell, Array.getElem?_modify, g3]
  · intro k h1 h2
    rw [Below.heap_setCell _ _ _ _ (fun e => h2 e), Below.heap_setCell _ _ _ _ (fun e => h1 e), Below.heap_setCell _ _ _ _ (fun e => h1 e)]
theorem RdX.moved {b q : Nat} {w0 : World} {r : Ld.Rdg} {nv rv sv : Value} {vs : List Value} {W W' : World} (h : RdX b q w0 r nv rv sv vs W) (hk : ∀ k, q ≤ k → k < W.heap.size → W'.heap[k]? = W.heap[k]?) (hb : W'.heap[b]? = W.heap[b]?) : RdX b q W' r nv rv sv vs W' := by
  refine ⟨hb.trans h.blk, own_moved h.on hk, own_moved h.org hk, own_moved h.os hk, h.len, ?_, h.bn, h.br, Below.refl _ _⟩
  intro i g v h1 h2
  obtain ⟨x, l, e1, e2, e3⟩ := h.ex i g v h1 h2
  refine ⟨x, l, e1, e2, IsEx.stay ?_ (fun _ h => h) x v e3⟩
  intro g i u hg hc
  rw [World.cell?_of_block (w' := W') (w := W) (hk g hg.1 (World.block_lt_of_cell? _ _ hc))]; exact hc
/-- the results, read behind the loop's end -/
theorem res2 {F : World} {N D : Nat} {a b v : Value} (h1 : F.heap[N]? = some (.cells #[a, b] 26 (0, 0))) (h2 : F.heap[N + 1]? = some (.cells #[v] 38 (0, 0))) (hN : D ≠ N) (hN1 : D ≠ N + 1) :
    (F.putObj D (.deferred none)).cell? ⟨N, 0, none⟩ = some a ∧ (F.putObj D (.deferred none)).cell? ⟨N, 1, none⟩ = some b ∧ (F.putObj D (.deferred none)).cell? ⟨N + 1, 0, none⟩ = some v := by
  have k1 : (F.putObj D (.deferred none)).heap[N]? = some (.cells #[a, b] 26 (0, 0)) := (World.putObj_heap_other (Ne.symm hN)).trans h1
  have k2 : (F.putObj D (.deferred none)).heap[N + 1]? = some (.cells #[v] 38 (0, 0)) := (World.putObj_heap_other (Ne.symm hN1)).trans h2
  exact ⟨by rw [Lib.cell_of_heap k1]; rfl, by rw [Lib.cell_of_heap k1]; rfl, by rw [Lib.cell_of_heap k2]; rfl⟩
namespace Ld
theorem parse_stops (l : List UInt8) (h : ¬ 20000 < l.length) (e p : Nat) (ht : takes ⟨[], [], []⟩ (lns l) = .inl (e, p)) : parse l = .inl (e, some p) := by unfold parse; rw [if_neg h, ht]
theorem parse_ends (l : List UInt8) (h : ¬ 20000 < l.length) (r : Rdg) (ht : takes ⟨[], [], []⟩ (lns l) = .inr r) : parse l = checked r := by unfold parse; rw [if_neg h, ht]
theorem checked_none (r : Rdg) (h : check ⟨r.names, r.rungs⟩ = none) : checked r = .inr ⟨r.names, r.rungs⟩ := by unfold checked; rw [h]
theorem checked_some (r : Rdg) (e : Nat) (pl : Option Nat) (h : check ⟨r.names, r.rungs⟩ = some (e, pl)) : checked r = .inl (e, pl.map fun i => r.starts.getD i 0) := by
  unfold checked; rw [h]
  cases pl <;> rfl
theorem takes_len : ∀ (l : List (Nat × List UInt8)) (r r' : Rdg), takes r l = .inr r' → r'.names.length + r'.rungs.length = r.names.length + r.rungs.length + l.length ∧ r'.starts.length = r.starts.length + l.length
  | [], r, r', h => by simp only [takes, Sum.inr.injEq] at h; subst h; simp
  | a :: t, r, r', h => by
    rw [takes] at h
    cases ht : take r a.1 a.2 with
    | inl q => rw [ht] at h; cases h
    | inr r2 =>
      rw [ht] at h
      have h1 := take_len r r2 a.1 a.2 ht
      have h2 := takes_len t r2 r' h
      simp only [List.length_cons]
      omega
end Ld
set_option maxHeartbeats 4000000 in
set_option maxRecDepth 100000 in
theorem LParse_any (s : List UInt8) (w : World) (hs : s.length ≤ maxLen) (hL : Laid w) :
    Calls Tryz.prog 30 #[.string ⟨s.toArray⟩] w (LParsed w (Ld.parse s)) := by
  have es : (⟨s.toArray⟩ : ByteArray).size = s.length := by simp [ByteArray.size]
  unfold maxLen at hs
  by_cases hbig : 20000 < s.length
  · have HR : Hid (Ld.parse s = .inl (4, none)) := by show _ = _; rw [Ld.parse, if_pos hbig]
    clear hL
    go_enter Tryz.func30, Tryz.ntmps30
    go_wp2_with fail
    refine bodyPost_ret_by (v := .tuple #[.agg #[.slice none 0 0, .slice none 0 0], .iface 58 (.int .i64 4)]) ?_ rfl ?_
    · simp [results, Tryz.results30, go_sem]
    · rw [HR.out]
      exact ⟨((Below.refl _ _).alloc (Nat.le_refl _) _).alloc (by simp) _, _, rfl, rfl⟩
  · have HR1 := hide (Ld.parse_stops s hbig)
    have HR2 := hide (Ld.parse_ends s hbig)
    generalize Ld.parse s = res at *
    have HL := hide hL
    have hlow := hL.low
    have HLN := hide (lines_any s)
    clear hL
    refine callsIn_wide.1 (callsIn_of_wp_marks (n := 0) Tryz.func30 rfl trivial ?_ rfl)
    simp only [Tryz.ntmps30, List.size_toArray, List.length_cons, List.length_nil, Nat.reduceAdd, Nat.reduceSub, Array.replicate_succ, Array.replicate_zero, List.push_toArray, List.append_toArray, List.nil_append, List.cons_append]
    gi_wp2_with fail
    refine ⟨trivial, rfl, ?_⟩
    refine (callsIn_wide.2 (HLN.out _)).mono ?_
    rintro e w1 ⟨rfl, hw1⟩
    have hsz1 : w1.heap.size = w.heap.size + 4 := by rw [hw1]; simp
    have hb1 : Below w.heap.size w w1 := by rw [hw1]; exact ((((Below.refl _ w).alloc (Nat.le_refl _) _).alloc (by simp) _).alloc (by rw [World.size_alloc, World.size_alloc]; omega) _).alloc (by rw [World.size_alloc, World.size_alloc, World.size_alloc]; omega) _
    have g2 : w1.heap[w.heap.size]? = some (.cells #[.slice none 0 0, .slice none 0 0] 26 (0, 0)) := by
      rw [hw1, Below.heap_alloc _ _ _ (by simp; omega), Below.heap_alloc _ _ _ (by simp; omega), Below.heap_alloc _ _ _ (by simp)]; exact heap_alloc_new w _
    have g3 : w1.heap[w.heap.size + 1]? = some (.cells #[.nilIface] 38 (0, 0)) := by
      rw [hw1, Below.heap_alloc _ _ _ (by rw [World.size_alloc, World.size_alloc, World.size_alloc]; omega), Below.heap_alloc _ _ _ (by rw [World.size_alloc, World.size_alloc]; omega)]
      have := heap_alloc_new (w.alloc (.cells #[.slice none 0 0, .slice none 0 0] 26)) (.cells #[.nilIface] 38)
      rwa [World.size_alloc] at this
    have g4 : w1.heap[w.heap.size + 1 + 1]? = some (.cells #[.slice none 0 0, .slice none 0 0, .slice none 0 0] 119 (0, 0)) := by
      rw [hw1, Below.heap_alloc _ _ _ (by simp)]
      have := heap_alloc_new ((w.alloc (.cells #[.slice none 0 0, .slice none 0 0] 26)).alloc (.cells #[.nilIface] 38)) (.cells #[.slice none 0 0, .slice none 0 0, .slice none 0 0] 119)
      rwa [World.size_alloc, World.size_alloc] at this
    have g5 : w1.heap[w.heap.size + 3]? = some (.cells #[.string ⟨s.toArray⟩] 9 (0, 0)) := by
      rw [hw1]
      have := heap_alloc_new (((w.alloc (.cells #[.slice none 0 0, .slice none 0 0] 26)).alloc (.cells #[.nilIface] 38)).alloc (.cells #[.slice none 0 0, .slice none 0 0, .slice none 0 0] 119)) (.cells #[.string ⟨s.toArray⟩] 9)
      rwa [World.size_alloc, World.size_alloc, World.size_alloc] at this
    have hseq := lines1_seq s (w.heap.size + 3) w1 (by omega) g5
    have hrd0 : Rdm (w.heap.size + 1 + 1) (w.heap.size + 13) w1 ⟨[], [], []⟩ w1 := ⟨_, _, _, [], g4, World.ownsRow_nil _ _ _ _, World.ownsRow_nil _ _ _ _, World.ownsRow_nil _ _ _ _, rfl, fun i g v h => by simp at h, fun n h => by simp at h, fun n h => by simp at h, Below.refl _ _⟩
    have HLD := hide (HL.out.below hb1)
    have HB1 := hide hb1
    have G2 := hide g2
    have G3 := hide g3
    have HSEQ := hide hseq
    have HRD0 := hide hrd0
    have eV : (((w.alloc (.cells #[.slice none 0 0, .slice none 0 0] 26)).alloc (.cells #[.nilIface] 38)).alloc (.cells #[.slice none 0 0, .slice none 0 0, .slice none 0 0] 119)).heap.size = w.heap.size + 3 := by simp
    rw [eV]
    clear hw1 hb1 g2 g3 g4 g5 hseq hrd0 eV HLN
    gi_wp2_with fail
    refine range_law (α := Line) (gf := 87) (lb := #[.pointer (some ⟨w.heap.size + 3, 0, none⟩)]) rfl (fun _ _ => by kernel_rfl) HSEQ.out (fun k hk => by omega) (fun _ => rfl)
      (fun pre W => ∃ r, Ld.takes ⟨[], [], []⟩ (pre.map (·.1)) = .inr r ∧ Rdm (w.heap.size + 1 + 1) (w.heap.size + 13) w1 r W)
      (fun pre W => ∃ er p v, Ld.takes ⟨[], [], []⟩ (pre.map (·.1)) = .inl (er, p) ∧ W.heap[w.heap.size]? = some (.cells #[.slice none 0 0, .slice none 0 0] 26 (0, 0)) ∧ W.heap[w.heap.size + 1]? = some (.cells #[v] 38 (0, 0)) ∧ ErrIs W v (some (er, some p)) ∧ FreshE (w.heap.size + 13) v ∧ Below w.heap.size w W) ?hI ?hIx
      ⟨_, rfl, HRD0.out⟩
      (fun x => { tmps := #[.string ⟨s.toArray⟩, undef, .pointer (some ⟨w.heap.size, 0, none⟩), .pointer (some ⟨w.heap.size + 1, 0, none⟩), .pointer (some ⟨w.heap.size + 1 + 1, 0, none⟩), .int .i64 (x.1.1 : Int), .string ⟨x.1.2.toArray⟩, undef, undef, .string ⟨s.toArray⟩, .int .i64 (s.length : Int), .bool (decide ((20000 : Int) < (s.length : Int))), undef, undef, .string ⟨s.toArray⟩, .func (.func 87) #[] #[.pointer (some ⟨w.heap.size + 3, 0, none⟩)], .int .i64 (x.1.1 : Int), .string ⟨x.1.2.toArray⟩, undef, undef, undef, undef, undef, undef, undef, undef, undef, undef, undef, undef, undef, undef, undef, undef, undef], defers := [] }) ?assign ?body ?done ?stop
    case hI =>
      rintro pre A B row ⟨r, q1, nv, rv, sv, vs, q2⟩ hg hr
      exact ⟨r, q1, nv, rv, sv, vs, q2.grown hg (fun k e => by have := hr k e; unfold TurnX at this; omega)⟩
    case hIx =>
      rintro pre A B row ⟨er, p, v, q1, q2, q3, q4, q5, q6⟩ hg hr
      have hr' : ∀ k, row = some k → w.heap.size + 4 ≤ k ∧ k < w.heap.size + 13 := fun k e => by have := hr k e; unfold TurnX at this; omega
      refine ⟨er, p, v, q1, ?_, ?_, ?_, q5, q6.grown hg q6.size (fun k e => by have := hr' k e; omega)⟩
      · rw [hg.block _ (Array.getElem?_eq_some_iff.1 q2).1 (fun e => by have := hr' _ e.symm; omega)]; exact q2
      · rw [hg.block _ (Array.getElem?_eq_some_iff.1 q3).1 (fun e => by have := hr' _ e.symm; omega)]; exact q3
      · obtain ⟨a, e1, e2, e3⟩ := q4
        have ha := q5 a e1
        exact ⟨a, e1, hg.cell e2 (fun e => by have := hr' a e.symm; omega), hg.cell e3 (fun e => by have := hr' a e.symm; omega)⟩
    case assign =>
      intro l x W K hK
      gi_wp2
      exact hK
    case body =>
      rintro l pre ⟨⟨st, y⟩, hst, hy⟩ W hszW ⟨r, q1, q2⟩ hlen
      have hq13 : w.heap.size + 13 ≤ W.heap.size := by omega
      have hlens := Ld.takes_len _ _ _ q1
      rw [List.length_map] at hlens
      simp only [List.length_nil, Nat.zero_add] at hlens
      have HT := hide (take_any (w.heap.size + 1 + 1) (w.heap.size + 13) w1 r st y W q2 (by omega) hq13 ⟨hy, hst⟩ (by omega) HLD.out.words HLD.out.errs HLD.out.pows HLD.out.door (by omega))
      have HSN : Hid (Ld.takes ⟨[], [], []⟩ ((pre ++ [(⟨(st, y), hst, hy⟩ : Line)]).map (·.1)) = Ld.take r st y) := by
        show _ = _
        rw [List.map_append, List.map_cons, List.map_nil, Ld.takes_snoc, q1]
      generalize Ld.take r st y = res2 at *
      clear q1 q2
      gi_wp2_with fail
      refine ⟨trivial, rfl, ?_⟩
      refine (CallsIn.inRound l (callsIn_wide.2 HT.out)).mono ?_
      rintro e W' ⟨hK, hm⟩
      have HK := hide hK
      match res2, HSN, hm with
      | .inr r', HSN, hm =>
        obtain ⟨rfl, hrd⟩ := hm
        have HRD := hide hrd
        clear hrd hK HT
        gi_wp2_with fail
        exact ⟨⟨HK.out.1, fun k hk => HK.out.2 k (by unfold TurnX at hk; omega) (by unfold TurnX at hk; omega)⟩, r', HSN.out, HRD.out⟩
      | .inl (er, p), HSN, hm =>
        obtain ⟨v, rfl, hv, hbl, hfe⟩ := hm
        have HV := hide hv
        have HBL := hide hbl
        have HFE := hide hfe
        obtain ⟨tu, yu, hiu⟩ : ∃ tu yu, v = .iface tu yu := by obtain ⟨a, h, _⟩ := hv; exact ⟨_, _, h⟩
        have g2 := (hbl.block w.heap.size (by omega)).trans G2.out
        have g3 := (hbl.block (w.heap.size + 1) (by omega)).trans G3.out
        have c0 : W'.cell? ⟨w.heap.size, 0, none⟩ = some (.slice none 0 0) := by rw [Lib.cell_of_heap g2]; rfl
        have c1 : W'.cell? ⟨w.heap.size, 1, none⟩ = some (.slice none 0 0) := by rw [Lib.cell_of_heap g2]; rfl
        have c2 : W'.cell? ⟨w.heap.size + 1, 0, none⟩ = some .nilIface := by rw [Lib.cell_of_heap g3]; rfl
        have f0 : W'.frozen? ⟨w.heap.size, 0, none⟩ = false := Lib.frozen_of_heap g2 0
        have f1 : W'.frozen? ⟨w.heap.size, 1, none⟩ = false := Lib.frozen_of_heap g2 1
        have f2 : W'.frozen? ⟨w.heap.size + 1, 0, none⟩ = false := Lib.frozen_of_heap g3 0
        have K2 := hide g2
        have K3 := hide g3
        subst hiu
        clear hv hbl hfe hK HT g2 g3
        gi_wp2_with fail
        obtain ⟨F, hF⟩ : ∃ F, F = ((W'.setCell ⟨w.heap.size, 0, none⟩ (.slice none 0 0)).setCell ⟨w.heap.size, 1, none⟩ (.slice none 0 0)).setCell ⟨w.heap.size + 1, 0, none⟩ (.iface tu yu) := ⟨_, rfl⟩
        obtain ⟨s1, s2, s3, s4, s5, s6, s7⟩ := set3 K2.out K3.out F hF
        rw [← hF]
        refine ⟨⟨by rw [s4]; exact HK.out.1, fun k hk => ?_⟩, er, p, _, HSN.out, s1, s2, ?_, HFE.out, ?_⟩
        · unfold TurnX at hk
          rw [s3 k (by omega) (by omega)]
          exact HK.out.2 k (by omega) (by omega)
        · obtain ⟨a, e1, e2, e3⟩ := HV.out
          have ha := HFE.out a e1
          refine ⟨a, e1, ?_, ?_⟩
          · rw [World.cell?_of_block (w' := F) (w := W') (s3 a (by omega) (by omega))]; exact e2
          · rw [World.cell?_of_block (w' := F) (w := W') (s3 a (by omega) (by omega))]; exact e3
        · refine HB1.out.trans ⟨s5.trans HBL.out.os, s6.trans HBL.out.tape, s7.trans HBL.out.output, by rw [s4]; exact HBL.out.size, fun k hk => ?_⟩
          rw [s3 k (by omega) (by omega)]
          exact HBL.out.block k (by omega)
    case done =>
      rintro xs W hS ⟨r, q1, nv, rv, sv, vs, q2⟩ hD
      rw [hS] at q1
      have HRES := hide (HR2.out r q1)
      have hlens := Ld.takes_len _ _ _ q1
      have hll : (Ld.lns s).length ≤ 20001 := by
        have h1 := Ld.linesOf_len (Ld.split 10 s)
        have h2 := Ld.split_len 10 s
        have h3 : Ld.lns s = Ld.linesOf (Ld.split 10 s) := rfl
        rw [h3]
        omega
      simp only [List.length_nil, Nat.zero_add] at hlens
      have HX := hide q2
      have HPR := hide (q2.prg (by omega) (by omega))
      have HPA := hide q2.parsed
      have HD := hide hD
      have hblt := q2.lt
      have c0 : W.cell? ⟨w.heap.size + 1 + 1, 0, none⟩ = some nv := by rw [Lib.cell_of_heap q2.blk]; rfl
      have c1 : W.cell? ⟨w.heap.size + 1 + 1, 1, none⟩ = some rv := by rw [Lib.cell_of_heap q2.blk]; rfl
      obtain ⟨na, nc, hnv⟩ := own_slice q2.on
      obtain ⟨ra, rc, hrv⟩ := own_slice q2.org
      have HCK := hide (Check_any ⟨r.names, r.rungs⟩ (.agg #[nv, rv]) W HPR.out)
      have HC0 := hide (Ld.checked_none r)
      have HC1 := hide (Ld.checked_some r)
      have HPL := hide (Ld.check_place ⟨r.names, r.rungs⟩)
      subst hnv
      subst hrv
      clear q1 q2 hS hD HR1 HR2
      gi_wp2_with fail
      refine ⟨trivial, rfl, ?_⟩
      refine (callsIn_wide.2 HCK.out).mono ?_
      rintro e w2 ⟨er, rfl, her, hb2⟩
      have HER := hide her
      have HB2 := hide hb2
      have hx2 := HX.out.below hb2
      have HX2 := hide hx2
      have g2 := (hx2.lo.block w.heap.size (by omega)).trans G2.out
      have g3 := (hx2.lo.block (w.heap.size + 1) (by omega)).trans G3.out
      have K2 := hide g2
      have K3 := hide g3
      have hD2 : w2.heap[w1.heap.size]? = some (.deferred (some [])) := (hb2.block _ (Array.getElem?_eq_some_iff.1 HD.out).1).trans HD.out
      have HD2 := hide hD2
      have d0 : w2.cell? ⟨w.heap.size + 1 + 1, 0, none⟩ = some (.slice na r.names.length nc) := by rw [Lib.cell_of_heap hx2.blk]; rfl
      have d1 : w2.cell? ⟨w.heap.size + 1 + 1, 1, none⟩ = some (.slice ra r.rungs.length rc) := by rw [Lib.cell_of_heap hx2.blk]; rfl
      have e0 : w2.cell? ⟨w.heap.size, 0, none⟩ = some (.slice none 0 0) := by rw [Lib.cell_of_heap g2]; rfl
      have e1 : w2.cell? ⟨w.heap.size, 1, none⟩ = some (.slice none 0 0) := by rw [Lib.cell_of_heap g2]; rfl
      have e2 : w2.cell? ⟨w.heap.size + 1, 0, none⟩ = some .nilIface := by rw [Lib.cell_of_heap g3]; rfl
      have f0 : w2.frozen? ⟨w.heap.size, 0, none⟩ = false := Lib.frozen_of_heap g2 0
      have f1 : w2.frozen? ⟨w.heap.size, 1, none⟩ = false := Lib.frozen_of_heap g2 1
      have f2 : w2.frozen? ⟨w.heap.size + 1, 0, none⟩ = false := Lib.frozen_of_heap g3 0
      clear her hb2 HCK g2 g3 hx2 hD2 c0 c1
      cases hck : Ld.check ⟨r.names, r.rungs⟩ with
      | none =>
        have HRS := hide (HC0.out hck)
        rw [hck] at HER
        obtain rfl : er = .nilIface := HER.out
        gi_wp2_with fail
        obtain ⟨F, hF⟩ : ∃ F, F = ((w2.setCell ⟨w.heap.size, 0, none⟩ (.slice na r.names.length nc)).setCell ⟨w.heap.size, 1, none⟩ (.slice ra r.rungs.length rc)).setCell ⟨w.heap.size + 1, 0, none⟩ .nilIface := ⟨_, rfl⟩
        obtain ⟨s1, s2, s3, s4, s5, s6, s7⟩ := set3 K2.out K3.out F hF
        rw [← hF]
        have hFD : F.heap[w.heap.size + 4]? = some (.deferred (some [])) := by rw [s3 _ (by omega) (by omega), ← hsz1]; exact HD2.out
        obtain ⟨p0, p1, p2⟩ := res2 (D := w.heap.size + 4) s1 s2 (by omega) (by omega)
        refine ⟨by simp, .inl ⟨_, _, rfl, run_takeDeferred hFD, ?_⟩⟩
        refine ⟨.tuple #[.agg #[.slice na r.names.length nc, .slice ra r.rungs.length rc], .nilIface], ?_, ?_⟩
        · simp [results, Tryz.results30, go_sem, p0, p1, p2]
        · have hgp := grownBy_putObj' F (w.heap.size + 4) (.deferred none)
          have hbl : Below w.heap.size w F := by
            have h1 := HX2.out.lo
            refine HB1.out.trans ⟨s5.trans h1.os, s6.trans h1.tape, s7.trans h1.output, by rw [s4]; exact h1.size, fun k hk => ?_⟩
            rw [s3 k (by omega) (by omega)]
            exact h1.block k (by omega)
          rw [HRES.out, HRS.out]
          refine ⟨hbl.grown hgp hbl.size (fun k e => by cases e; omega), _, rfl, ?_, HPA.out⟩
          have hk : ∀ k, k ≠ w.heap.size → k ≠ w.heap.size + 1 → k ≠ w.heap.size + 4 → (F.putObj (w.heap.size + 4) (.deferred none)).heap[k]? = w2.heap[k]? := fun k h1 h2 h3 => by rw [World.putObj_heap_other h3, s3 k h1 h2]
          exact (HX2.out.moved (W' := F.putObj (w.heap.size + 4) (.deferred none)) (fun k h1 _ => hk k (by omega) (by omega) (by omega)) (hk _ (by omega) (by omega) (by omega))).prg (by omega) (by omega)
      | some pe =>
        obtain ⟨ce, cp⟩ := pe
        have HRS := hide (HC1.out ce cp hck)
        rw [hck] at HER
        have HIN := hide (inText_any (w.heap.size + 1 + 1) (w.heap.size + 13) w1 r er ce cp w2 ⟨_, _, _, _, HX2.out⟩ HER.out (fun i e => by subst e; have h5 : i < r.names.length + r.rungs.length := HPL.out ce i hck; omega) (by omega))
        obtain ⟨tu, yu, hiu⟩ : ∃ tu yu, er = .iface tu yu := by
          have h5 := HER.out
          match cp, h5 with
          | none, h => exact ⟨_, _, h⟩
          | some i, ⟨a, h, _⟩ => exact ⟨_, _, h⟩
        subst hiu
        clear hck HC0 HC1 HPL
        gi_wp2_with fail
        refine ⟨trivial, rfl, ?_⟩
        refine (callsIn_wide.2 HIN.out).mono ?_
        rintro e w3 ⟨u, rfl, hu, hb3⟩
        have HU := hide hu
        have hx3 := HX2.out.below hb3
        have HX3 := hide hx3
        have g2 := (hx3.lo.block w.heap.size (by omega)).trans G2.out
        have g3 := (hx3.lo.block (w.heap.size + 1) (by omega)).trans G3.out
        have L2 := hide g2
        have L3 := hide g3
        have hD3 : w3.heap[w1.heap.size]? = some (.deferred (some [])) := (hb3.block _ (Array.getElem?_eq_some_iff.1 HD2.out).1).trans HD2.out
        have HD3 := hide hD3
        have i0 : w3.cell? ⟨w.heap.size, 0, none⟩ = some (.slice none 0 0) := by rw [Lib.cell_of_heap g2]; rfl
        have i1 : w3.cell? ⟨w.heap.size, 1, none⟩ = some (.slice none 0 0) := by rw [Lib.cell_of_heap g2]; rfl
        have i2 : w3.cell? ⟨w.heap.size + 1, 0, none⟩ = some .nilIface := by rw [Lib.cell_of_heap g3]; rfl
        have j0 : w3.frozen? ⟨w.heap.size, 0, none⟩ = false := Lib.frozen_of_heap g2 0
        have j1 : w3.frozen? ⟨w.heap.size, 1, none⟩ = false := Lib.frozen_of_heap g2 1
        have j2 : w3.frozen? ⟨w.heap.size + 1, 0, none⟩ = false := Lib.frozen_of_heap g3 0
        obtain ⟨tu2, yu2, hiu2⟩ : ∃ tu yu, u = .iface tu yu := by
          match cp, hu with
          | none, h => exact ⟨_, _, h⟩
          | some i, ⟨a, h, _⟩ => exact ⟨_, _, h⟩
        subst hiu2
        clear hu hb3 hx3 g2 g3 hD3 HIN
        gi_wp2_with fail
        obtain ⟨F, hF⟩ : ∃ F, F = ((w3.setCell ⟨w.heap.size, 0, none⟩ (.slice none 0 0)).setCell ⟨w.heap.size, 1, none⟩ (.slice none 0 0)).setCell ⟨w.heap.size + 1, 0, none⟩ (.iface tu2 yu2) := ⟨_, rfl⟩
        obtain ⟨s1, s2, s3, s4, s5, s6, s7⟩ := set3 L2.out L3.out F hF
        rw [← hF]
        have hFD : F.heap[w.heap.size + 4]? = some (.deferred (some [])) := by rw [s3 _ (by omega) (by omega), ← hsz1]; exact HD3.out
        obtain ⟨p0, p1, p2⟩ := res2 (D := w.heap.size + 4) s1 s2 (by omega) (by omega)
        refine ⟨by simp, .inl ⟨_, _, rfl, run_takeDeferred hFD, ?_⟩⟩
        refine ⟨.tuple #[.agg #[.slice none 0 0, .slice none 0 0], .iface tu2 yu2], ?_, ?_⟩
        · simp [results, Tryz.results30, go_sem, p0, p1, p2]
        · have hgp := grownBy_putObj' F (w.heap.size + 4) (.deferred none)
          have hbl : Below w.heap.size w F := by
            have h1 := HX3.out.lo
            refine HB1.out.trans ⟨s5.trans h1.os, s6.trans h1.tape, s7.trans h1.output, by rw [s4]; exact h1.size, fun k hk => ?_⟩
            rw [s3 k (by omega) (by omega)]
            exact h1.block k (by omega)
          rw [HRES.out, HRS.out]
          refine ⟨hbl.grown hgp hbl.size (fun k e => by cases e; omega), _, rfl, ?_⟩
          have h5 := HU.out
          match cp, h5 with
          | none, h => exact h
          | some i, ⟨a, h1, h2, h3⟩ =>
            have n0 : a ≠ w.heap.size := by intro e; rw [e, Lib.cell_of_heap L2.out] at h2; simp at h2
            have n1 : a ≠ w.heap.size + 1 := by intro e; rw [e, Lib.cell_of_heap L3.out] at h2; simp at h2
            have n4 : a ≠ w.heap.size + 4 := by
              intro e
              have hd := HD3.out
              rw [hsz1] at hd
              rw [e] at h2
              simp [World.cell?, hd] at h2
            have hk : (F.putObj (w.heap.size + 4) (.deferred none)).heap[a]? = w3.heap[a]? := by rw [World.putObj_heap_other n4, s3 a n0 n1]
            refine ⟨a, h1, ?_, ?_⟩
            · rw [World.cell?_of_block (w := w3) hk]; exact h2
            · rw [World.cell?_of_block (w := w3) hk]; exact h3
    case stop =>
      rintro pre W ⟨r2, hr2⟩ ⟨er, p, v, q1, q2, q3, q4, q5, q6⟩ hD
      have HRES := hide (HR1.out er p (by rw [hr2]; exact Ld.takes_app r2 _ _ _ q1))
      have HD := hide hD
      have Q2 := hide q2
      have Q3 := hide q3
      have Q4 := hide q4
      have Q5 := hide q5
      have Q6 := hide q6
      clear q1 q2 q3 q4 q5 q6 hD hr2 HR1 HR2
      gi_wp2_with fail
      obtain ⟨p0, p1, p2⟩ := res2 (D := w1.heap.size) Q2.out Q3.out (by omega) (by omega)
      refine ⟨by simp, .inl ⟨_, _, rfl, run_takeDeferred HD.out, ?_⟩⟩
      refine ⟨.tuple #[.agg #[.slice none 0 0, .slice none 0 0], v], ?_, ?_⟩
      · simp [results, Tryz.results30, go_sem, p0, p1, p2]
      · have hgp := grownBy_putObj' W w1.heap.size (.deferred none)
        rw [HRES.out]
        refine ⟨Q6.out.grown hgp Q6.out.size (fun k e => by cases e; omega), _, rfl, ?_⟩
        obtain ⟨a, h1, h2, h3⟩ := Q4.out
        have ha := Q5.out a h1
        exact ⟨a, h1, hgp.cell h2 (fun e => by simp at e; omega), hgp.cell h3 (fun e => by simp at e; omega)⟩
end
end Go.Proofs.YtkpfahbodlfpiaaGreatDoor
