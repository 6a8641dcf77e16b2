/-
  The walk of the document's Number: a number, as it would be written. The walk of package ladder's Parse. An append of nothing. (Out of LdEdges.) What the document's ProgramParse leans on: words, and the words for kinds, as it reads them. Plain facts: one program and its text; what is read has nothing wrong; how long a read program's parts are. A program that is being made, in memory: its names, then its rungs, in rows of their own. Which blocks of the document's programs stand while rows of theirs grow.
-/
import Derived.Test.YtgldbliohpfljaaGreatDoorLdReads
import Derived.Test.YtgldbliohpfljaaGreatDoorShelf4
import Derived.Test.YtgldbliohpfljaaGreatDoorShelf5
import Derived.Lib.ParseIntBTie
import Derived.Test.YtgldbliohpfljaaGreatDoorRpRuneAll
import Derived.Test.YtgldbliohpfljaaGreatDoorLdRepAll
import Derived.Laws.OwnMore
import Derived.Lib.AppendZeros
import Derived.Deep.RegionLaw
import Derived.Maps.AppendAt
import Derived.Test.YtgldbliohpfljaaGreatDoorRpPieceAll
import Derived.Test.YtgldbliohpfljaaGreatDoorRlSplitAll
import Derived.Test.YtgldbliohpfljaaGreatDoorRlWords
import Derived.Test.YtgldbliohpfljaaGreatDoorLdWordsAll
import Derived.ProofKit
import Derived.Test.YtgldbliohpfljaaGreatDoorLdKindAll
namespace Go.Proofs.YtgldbliohpfljaaGreatDoor
section
open Go.RowKit
set_option maxHeartbeats 2000000 in
set_option maxRecDepth 100000 in
theorem rcount_any (s : List UInt8) (w : World) (hs : s.length ≤ 20000) (hN : NumErrs w) (hP : Pows w) (hG : 14 ≤ w.heap.size) :
    Calls Tryz.prog 112 #[.string ⟨s.toArray⟩] w fun e w' => ∃ n, I64 n ∧ e = .returned (.tuple #[.int .i64 n, .bool (Ld.rdCount s).isSome]) ∧ (∀ m, Ld.rdCount s = some m → m = n) ∧ Below w.heap.size w w' := by
  have e0 : (⟨s.toArray⟩ : ByteArray).data.toList = s := rfl
  have es : (⟨s.toArray⟩ : ByteArray).size = s.length := by simp [ByteArray.size]
  cases ha : Lib.atoiAll s with
  | ok v =>
    have HC := hide (Tryz.strconv_ParseInt_10_at64_ok ⟨s.toArray⟩ (by rw [es]; omega) v (by rw [e0, Lib.parseIntB_64]; exact ha) w)
    have HV := hide (atoi_i64 s v ha)
    have HR : Hid (Ld.rdCount s = if Lib.itoa v = s then some v else none) := by show _ = _; unfold Ld.rdCount; rw [ha]
    have HIT0 : Hid (∀ W, Pows W → Calls Tryz.prog 147 #[.int .i64 v, .int .i64 10] W fun e w' => e = .returned (.string ⟨(Lib.itoa v).toArray⟩) ∧ Below W.heap.size W w') := by
      intro W hp
      refine (Tryz.strconv_FormatInt_10 v HV.out.1 HV.out.2 W hp).mono ?_
      rintro e w4 ⟨rfl, kk, os, rfl⟩
      exact ⟨rfl, bgrow _ _ _⟩
    have HP := hide hP
    clear ha e0 es hN hP
    generalize Lib.itoa v = iv at *
    have hb1 := bytes_list iv
    have hb2 := bytes_list s
    go_enter Tryz.func112, Tryz.ntmps112
    go_wp2_with fail
    refine HC.out.mono ?_
    rintro e w1 ⟨rfl, hw1⟩
    have hbw : Below w.heap.size w w1 := by
      rcases hw1 with rfl | ⟨t, rfl⟩
      · exact Below.refl _ _
      · exact Lib.bytesWorld_below _ _ _
    have HB := hide hbw
    have HIT := hide (HIT0.out w1 (HP.out.low hbw hG))
    clear hw1 hbw HC
    go_wp2_with fail
    refine HIT.out.mono ?_
    rintro e w2 ⟨rfl, hb⟩
    have HB2 := hide (HB.out.trans (hb.mono HB.out.size))
    clear hb HIT
    by_cases hq : iv = s
    · subst hq
      go_wp2_with fail
      go_ret2
      exact ⟨v, HV.out, by rw [HR.out, if_pos trivial]; rfl, fun m hm => (by rw [HR.out, if_pos trivial] at hm; cases hm; rfl), HB2.out⟩
    · have HQ := hide hq
      have hqb : (iv == s) = false := by simpa using hq
      clear hq
      go_wp2_with fail
      go_ret2
      exact ⟨0, ⟨by omega, by omega⟩, by rw [HR.out, if_neg HQ.out]; rfl, fun m hm => (by rw [HR.out, if_neg HQ.out] at hm; cases hm), HB2.out⟩
  | «syntax» =>
    obtain ⟨te, pe, hv⟩ := hN.1
    have HC := hide (Tryz.strconv_ParseInt_10_at64_syntax ⟨s.toArray⟩ (by rw [es]; omega) (by rw [e0, Lib.parseIntB_64]; exact ha) _ w hv (.inr ⟨te, pe, rfl⟩))
    have HR : Hid (Ld.rdCount s = none) := by show _ = _; unfold Ld.rdCount; rw [ha]
    clear ha e0 es hv hN hP
    go_enter Tryz.func112, Tryz.ntmps112
    go_wp2_with fail
    refine HC.out.mono ?_
    rintro e w1 ⟨N, rfl, _, _, hb⟩
    have HB := hide hb
    clear hb HC
    go_wp2_with fail
    go_ret2
    exact ⟨0, ⟨by omega, by omega⟩, by rw [HR.out]; rfl, fun m hm => (by rw [HR.out] at hm; cases hm), HB.out⟩
  | range =>
    obtain ⟨te, pe, hv⟩ := hN.2
    have HC := hide (Tryz.strconv_ParseInt_10_at64_range ⟨s.toArray⟩ (by rw [es]; omega) (by rw [e0, Lib.parseIntB_64]; exact ha) _ w hv (.inr ⟨te, pe, rfl⟩))
    have HR : Hid (Ld.rdCount s = none) := by show _ = _; unfold Ld.rdCount; rw [ha]
    clear ha e0 es hv hN hP
    generalize Lib.intSat 64 (⟨s.toArray⟩ : ByteArray).data.toList = sat at *
    go_enter Tryz.func112, Tryz.ntmps112
    go_wp2_with fail
    refine HC.out.mono ?_
    rintro e w1 ⟨N, rfl, _, _, hb⟩
    have HB := hide hb
    clear hb HC
    go_wp2_with fail
    go_ret2
    exact ⟨0, ⟨by omega, by omega⟩, by rw [HR.out]; rfl, fun m hm => (by rw [HR.out] at hm; cases hm), HB.out⟩
end
section
open Go.RowKit
attribute [local go_sem] Oper.semAt_some
/-- what Parse comes to in memory -/
def LParsed (w : World) (res : (Nat × Option Nat) ⊕ Ld.Prg) (e : Ending) (w' : World) : Prop :=
  Below w.heap.size w w' ∧ match res with
    | .inl r => ∃ u, e = .returned (.tuple #[.agg #[.slice none 0 0, .slice none 0 0], u]) ∧ ErrIs w' u (some r)
    | .inr p => ∃ v, e = .returned (.tuple #[v, .nilIface]) ∧ IsPrg w' p v ∧ ∀ g, g ∈ p.rungs → ∀ x, g.cond = some x → ∃ l, Ex.parse l = .inr x
/-- what a program's reading leans on: the words and errors as they are laid -/
structure Laid (w : World) : Prop where
  words : Words w
  errs : NumErrs w
  pows : Pows w
  door : ErAs.Door w
  low : 14 ≤ w.heap.size
theorem Laid.below {w w' : World} (h : Laid w) (hb : Below w.heap.size w w') : Laid w' :=
  ⟨h.words.low hb h.low, h.errs.low hb h.low, h.pows.low hb h.low, (hb.cell (p := ⟨3, 0, none⟩) (Nat.lt_of_lt_of_le (by decide : 3 < 14) h.low)).trans h.door, Nat.le_trans h.low hb.size⟩
/-- the two results, stored -/
theorem set3 {W : World} {N : Nat} {x0 x1 y a b v : Value} {T2 T3 : TypeId} (g2 : W.heap[N]? = some (.cells #[x0, x1] T2 (0, 0))) (g3 : W.heap[N + 1]? = some (.cells #[y] T3 (0, 0))) (F : World) (hF : F = ((W.setCell ⟨N, 0, none⟩ a).setCell ⟨N, 1, none⟩ b).setCell ⟨N + 1, 0, none⟩ v) :
    F.heap[N]? = some (.cells #[a, b] T2 (0, 0)) ∧ F.heap[N + 1]? = some (.cells #[v] T3 (0, 0)) ∧ (∀ k, k ≠ N → k ≠ N + 1 → F.heap[k]? = W.heap[k]?) ∧ F.heap.size = W.heap.size ∧ F.os = W.os ∧ F.tape = W.tape ∧ F.output = W.output := by
  subst hF
  refine ⟨?_, ?_, ?_, by simp [World.setCell], rfl, rfl, rfl⟩
  · simp [World.setCell, Array.getElem?_modify, g2]
  · simp [World.setCell, Array.getElem?_modify, g3]
  · intro k h1 h2
    rw [Below.heap_setCell _ _ _ _ (fun e => h2 e), Below.heap_setCell _ _ _ _ (fun e => h1 e), Below.heap_setCell _ _ _ _ (fun e => h1 e)]
theorem RdX.moved {b q : Nat} {w0 : World} {r : Ld.Rdg} {nv rv sv : Value} {vs : List Value} {W W' : World} (h : RdX b q w0 r nv rv sv vs W) (hk : ∀ k, q ≤ k → k < W.heap.size → W'.heap[k]? = W.heap[k]?) (hb : W'.heap[b]? = W.heap[b]?) : RdX b q W' r nv rv sv vs W' := by
  refine ⟨hb.trans h.blk, own_moved h.on hk, own_moved h.org hk, own_moved h.os hk, h.len, ?_, h.bn, h.br, Below.refl _ _⟩
  intro i g v h1 h2
  obtain ⟨x, l, e1, e2, e3⟩ := h.ex i g v h1 h2
  refine ⟨x, l, e1, e2, IsEx.stay ?_ (fun _ h => h) x v e3⟩
  intro g i u hg hc
  rw [World.cell?_of_block (w' := W') (w := W) (hk g hg.1 (World.block_lt_of_cell? _ _ hc))]; exact hc
/-- the results, read behind the loop's end -/
theorem res2 {F : World} {N D : Nat} {a b v : Value} (h1 : F.heap[N]? = some (.cells #[a, b] 83 (0, 0))) (h2 : F.heap[N + 1]? = some (.cells #[v] 33 (0, 0))) (hN : D ≠ N) (hN1 : D ≠ N + 1) :
    (F.putObj D (.deferred none)).cell? ⟨N, 0, none⟩ = some a ∧ (F.putObj D (.deferred none)).cell? ⟨N, 1, none⟩ = some b ∧ (F.putObj D (.deferred none)).cell? ⟨N + 1, 0, none⟩ = some v := by
  have k1 : (F.putObj D (.deferred none)).heap[N]? = some (.cells #[a, b] 83 (0, 0)) := (World.putObj_heap_other (Ne.symm hN)).trans h1
  have k2 : (F.putObj D (.deferred none)).heap[N + 1]? = some (.cells #[v] 33 (0, 0)) := (World.putObj_heap_other (Ne.symm hN1)).trans h2
  exact ⟨by rw [Lib.cell_of_heap k1]; rfl, by rw [Lib.cell_of_heap k1]; rfl, by rw [Lib.cell_of_heap k2]; rfl⟩
namespace Ld
theorem parse_stops (l : List UInt8) (h : ¬ 20000 < l.length) (e p : Nat) (ht : takes ⟨[], [], []⟩ (lns l) = .inl (e, p)) : parse l = .inl (e, some p) := by unfold parse; rw [if_neg h, ht]
theorem parse_ends (l : List UInt8) (h : ¬ 20000 < l.length) (r : Rdg) (ht : takes ⟨[], [], []⟩ (lns l) = .inr r) : parse l = checked r := by unfold parse; rw [if_neg h, ht]
theorem checked_none (r : Rdg) (h : check ⟨r.names, r.rungs⟩ = none) : checked r = .inr ⟨r.names, r.rungs⟩ := by unfold checked; rw [h]
theorem checked_some (r : Rdg) (e : Nat) (pl : Option Nat) (h : check ⟨r.names, r.rungs⟩ = some (e, pl)) : checked r = .inl (e, pl.map fun i => r.starts.getD i 0) := by
  unfold checked; rw [h]
  cases pl <;> rfl
theorem takes_len : ∀ (l : List (Nat × List UInt8)) (r r' : Rdg), takes r l = .inr r' → r'.names.length + r'.rungs.length = r.names.length + r.rungs.length + l.length ∧ r'.starts.length = r.starts.length + l.length
  | [], r, r', h => by simp only [takes, Sum.inr.injEq] at h; subst h; simp
  | a :: t, r, r', h => by
    rw [takes] at h
    cases ht : take r a.1 a.2 with
    | inl q => rw [ht] at h; cases h
    | inr r2 =>
      rw [ht] at h
      have h1 := take_len r r2 a.1 a.2 ht
      have h2 := takes_len t r2 r' h
      simp only [List.length_cons]
      omega
end Ld
set_option maxHeartbeats 4000000 in
set_option maxRecDepth 100000 in
theorem LParse_any (s : List UInt8) (w : World) (hs : s.length ≤ maxLen) (hL : Laid w) :
    Calls Tryz.prog 70 #[.string ⟨s.toArray⟩] w (LParsed w (Ld.parse s)) := by
  have es : (⟨s.toArray⟩ : ByteArray).size = s.length := by simp [ByteArray.size]
  unfold maxLen at hs
  by_cases hbig : 20000 < s.length
  · have HR : Hid (Ld.parse s = .inl (4, none)) := by show _ = _; rw [Ld.parse, if_pos hbig]
    clear hL
    go_enter Tryz.func70, Tryz.ntmps70
    go_wp2_with fail
    refine bodyPost_ret_by (v := .tuple #[.agg #[.slice none 0 0, .slice none 0 0], .iface 40 (.int .i64 4)]) ?_ rfl ?_
    · simp [results, Tryz.results70, go_sem]
    · rw [HR.out]
      exact ⟨((Below.refl _ _).alloc (Nat.le_refl _) _).alloc (by simp) _, _, rfl, rfl⟩
  · have HR1 := hide (Ld.parse_stops s hbig)
    have HR2 := hide (Ld.parse_ends s hbig)
    generalize Ld.parse s = res at *
    have HL := hide hL
    have hlow := hL.low
    have HLN := hide (lines_any s)
    clear hL
    refine callsIn_wide.1 (callsIn_of_wp_marks (n := 0) Tryz.func70 rfl trivial ?_ rfl)
    simp only [Tryz.ntmps70, List.size_toArray, List.length_cons, List.length_nil, Nat.reduceAdd, Nat.reduceSub, Array.replicate_succ, Array.replicate_zero, List.push_toArray, List.append_toArray, List.nil_append, List.cons_append]
    gi_wp2_with fail
    refine ⟨trivial, rfl, ?_⟩
    refine (callsIn_wide.2 (HLN.out _)).mono ?_
    rintro e w1 ⟨rfl, hw1⟩
    have hsz1 : w1.heap.size = w.heap.size + 4 := by rw [hw1]; simp
    have hb1 : Below w.heap.size w w1 := by rw [hw1]; exact ((((Below.refl _ w).alloc (Nat.le_refl _) _).alloc (by simp) _).alloc (by rw [World.size_alloc, World.size_alloc]; omega) _).alloc (by rw [World.size_alloc, World.size_alloc, World.size_alloc]; omega) _
    have g2 : w1.heap[w.heap.size]? = some (.cells #[.slice none 0 0, .slice none 0 0] 83 (0, 0)) := by
      rw [hw1, Below.heap_alloc _ _ _ (by simp; omega), Below.heap_alloc _ _ _ (by simp; omega), Below.heap_alloc _ _ _ (by simp)]; exact heap_alloc_new w _
    have g3 : w1.heap[w.heap.size + 1]? = some (.cells #[.nilIface] 33 (0, 0)) := by
      rw [hw1, Below.heap_alloc _ _ _ (by rw [World.size_alloc, World.size_alloc, World.size_alloc]; omega), Below.heap_alloc _ _ _ (by rw [World.size_alloc, World.size_alloc]; omega)]
      have := heap_alloc_new (w.alloc (.cells #[.slice none 0 0, .slice none 0 0] 83)) (.cells #[.nilIface] 33)
      rwa [World.size_alloc] at this
    have g4 : w1.heap[w.heap.size + 1 + 1]? = some (.cells #[.slice none 0 0, .slice none 0 0, .slice none 0 0] 220 (0, 0)) := by
      rw [hw1, Below.heap_alloc _ _ _ (by simp)]
      have := heap_alloc_new ((w.alloc (.cells #[.slice none 0 0, .slice none 0 0] 83)).alloc (.cells #[.nilIface] 33)) (.cells #[.slice none 0 0, .slice none 0 0, .slice none 0 0] 220)
      rwa [World.size_alloc, World.size_alloc] at this
    have g5 : w1.heap[w.heap.size + 3]? = some (.cells #[.string ⟨s.toArray⟩] 9 (0, 0)) := by
      rw [hw1]
      have := heap_alloc_new (((w.alloc (.cells #[.slice none 0 0, .slice none 0 0] 83)).alloc (.cells #[.nilIface] 33)).alloc (.cells #[.slice none 0 0, .slice none 0 0, .slice none 0 0] 220)) (.cells #[.string ⟨s.toArray⟩] 9)
      rwa [World.size_alloc, World.size_alloc, World.size_alloc] at this
    have hseq := lines1_seq s (w.heap.size + 3) w1 (by omega) g5
    have hrd0 : Rdm (w.heap.size + 1 + 1) (w.heap.size + 13) w1 ⟨[], [], []⟩ w1 := ⟨_, _, _, [], g4, World.ownsRow_nil _ _ _ _, World.ownsRow_nil _ _ _ _, World.ownsRow_nil _ _ _ _, rfl, fun i g v h => by simp at h, fun n h => by simp at h, fun n h => by simp at h, Below.refl _ _⟩
    have HLD := hide (HL.out.below hb1)
    have HB1 := hide hb1
    have G2 := hide g2
    have G3 := hide g3
    have HSEQ := hide hseq
    have HRD0 := hide hrd0
    have eV : (((w.alloc (.cells #[.slice none 0 0, .slice none 0 0] 83)).alloc (.cells #[.nilIface] 33)).alloc (.cells #[.slice none 0 0, .slice none 0 0, .slice none 0 0] 220)).heap.size = w.heap.size + 3 := by simp
    rw [eV]
    clear hw1 hb1 g2 g3 g4 g5 hseq hrd0 eV HLN
    gi_wp2_with fail
    refine range_law (α := Line) (gf := 150) (lb := #[.pointer (some ⟨w.heap.size + 3, 0, none⟩)]) rfl (fun _ _ => by kernel_rfl) HSEQ.out (fun k hk => by omega) (fun _ => rfl)
      (fun pre W => ∃ r, Ld.takes ⟨[], [], []⟩ (pre.map (·.1)) = .inr r ∧ Rdm (w.heap.size + 1 + 1) (w.heap.size + 13) w1 r W)
      (fun pre W => ∃ er p v, Ld.takes ⟨[], [], []⟩ (pre.map (·.1)) = .inl (er, p) ∧ W.heap[w.heap.size]? = some (.cells #[.slice none 0 0, .slice none 0 0] 83 (0, 0)) ∧ W.heap[w.heap.size + 1]? = some (.cells #[v] 33 (0, 0)) ∧ ErrIs W v (some (er, some p)) ∧ FreshE (w.heap.size + 13) v ∧ Below w.heap.size w W) ?hI ?hIx
      ⟨_, rfl, HRD0.out⟩
      (fun x => { tmps := #[.string ⟨s.toArray⟩, undef, .pointer (some ⟨w.heap.size, 0, none⟩), .pointer (some ⟨w.heap.size + 1, 0, none⟩), .pointer (some ⟨w.heap.size + 1 + 1, 0, none⟩), .int .i64 (x.1.1 : Int), .string ⟨x.1.2.toArray⟩, undef, undef, .string ⟨s.toArray⟩, .int .i64 (s.length : Int), .bool (decide ((20000 : Int) < (s.length : Int))), undef, undef, .string ⟨s.toArray⟩, .func (.func 150) #[] #[.pointer (some ⟨w.heap.size + 3, 0, none⟩)], .int .i64 (x.1.1 : Int), .string ⟨x.1.2.toArray⟩, undef, undef, undef, undef, undef, undef, undef, undef, undef, undef, undef, undef, undef, undef, undef, undef, undef], defers := [] }) ?assign ?body ?done ?stop
    case hI =>
      rintro pre A B row ⟨r, q1, nv, rv, sv, vs, q2⟩ hg hr
      exact ⟨r, q1, nv, rv, sv, vs, q2.grown hg (fun k e => by have := hr k e; unfold TurnX at this; omega)⟩
    case hIx =>
      rintro pre A B row ⟨er, p, v, q1, q2, q3, q4, q5, q6⟩ hg hr
      have hr' : ∀ k, row = some k → w.heap.size + 4 ≤ k ∧ k < w.heap.size + 13 := fun k e => by have := hr k e; unfold TurnX at this; omega
      refine ⟨er, p, v, q1, ?_, ?_, ?_, q5, q6.grown hg q6.size (fun k e => by have := hr' k e; omega)⟩
      · rw [hg.block _ (Array.getElem?_eq_some_iff.1 q2).1 (fun e => by have := hr' _ e.symm; omega)]; exact q2
      · rw [hg.block _ (Array.getElem?_eq_some_iff.1 q3).1 (fun e => by have := hr' _ e.symm; omega)]; exact q3
      · obtain ⟨a, e1, e2, e3⟩ := q4
        have ha := q5 a e1
        exact ⟨a, e1, hg.cell e2 (fun e => by have := hr' a e.symm; omega), hg.cell e3 (fun e => by have := hr' a e.symm; omega)⟩
    case assign =>
      intro l x W K hK
      gi_wp2
      exact hK
    case body =>
      rintro l pre ⟨⟨st, y⟩, hst, hy⟩ W hszW ⟨r, q1, q2⟩ hlen
      have hq13 : w.heap.size + 13 ≤ W.heap.size := by omega
      have hlens := Ld.takes_len _ _ _ q1
      rw [List.length_map] at hlens
      simp only [List.length_nil, Nat.zero_add] at hlens
      have HT := hide (take_any (w.heap.size + 1 + 1) (w.heap.size + 13) w1 r st y W q2 (by omega) hq13 ⟨hy, hst⟩ (by omega) HLD.out.words HLD.out.errs HLD.out.pows HLD.out.door (by omega))
      have HSN : Hid (Ld.takes ⟨[], [], []⟩ ((pre ++ [(⟨(st, y), hst, hy⟩ : Line)]).map (·.1)) = Ld.take r st y) := by
        show _ = _
        rw [List.map_append, List.map_cons, List.map_nil, Ld.takes_snoc, q1]
      generalize Ld.take r st y = res2 at *
      clear q1 q2
      gi_wp2_with fail
      refine ⟨trivial, rfl, ?_⟩
      refine (CallsIn.inRound l (callsIn_wide.2 HT.out)).mono ?_
      rintro e W' ⟨hK, hm⟩
      have HK := hide hK
      match res2, HSN, hm with
      | .inr r', HSN, hm =>
        obtain ⟨rfl, hrd⟩ := hm
        have HRD := hide hrd
        clear hrd hK HT
        gi_wp2_with fail
        exact ⟨⟨HK.out.1, fun k hk => HK.out.2 k (by unfold TurnX at hk; omega) (by unfold TurnX at hk; omega)⟩, r', HSN.out, HRD.out⟩
      | .inl (er, p), HSN, hm =>
        obtain ⟨v, rfl, hv, hbl, hfe⟩ := hm
        have HV := hide hv
        have HBL := hide hbl
        have HFE := hide hfe
        obtain ⟨tu, yu, hiu⟩ : ∃ tu yu, v = .iface tu yu := by obtain ⟨a, h, _⟩ := hv; exact ⟨_, _, h⟩
        have g2 := (hbl.block w.heap.size (by omega)).trans G2.out
        have g3 := (hbl.block (w.heap.size + 1) (by omega)).trans G3.out
        have c0 : W'.cell? ⟨w.heap.size, 0, none⟩ = some (.slice none 0 0) := by rw [Lib.cell_of_heap g2]; rfl
        have c1 : W'.cell? ⟨w.heap.size, 1, none⟩ = some (.slice none 0 0) := by rw [Lib.cell_of_heap g2]; rfl
        have c2 : W'.cell? ⟨w.heap.size + 1, 0, none⟩ = some .nilIface := by rw [Lib.cell_of_heap g3]; rfl
        have f0 : W'.frozen? ⟨w.heap.size, 0, none⟩ = false := Lib.frozen_of_heap g2 0
        have f1 : W'.frozen? ⟨w.heap.size, 1, none⟩ = false := Lib.frozen_of_heap g2 1
        have f2 : W'.frozen? ⟨w.heap.size + 1, 0, none⟩ = false := Lib.frozen_of_heap g3 0
        have K2 := hide g2
        have K3 := hide g3
        subst hiu
        clear hv hbl hfe hK HT g2 g3
        gi_wp2_with fail
        obtain ⟨F, hF⟩ : ∃ F, F = ((W'.setCell ⟨w.heap.size, 0, none⟩ (.slice none 0 0)).setCell ⟨w.heap.size, 1, none⟩ (.slice none 0 0)).setCell ⟨w.heap.size + 1, 0, none⟩ (.iface tu yu) := ⟨_, rfl⟩
        obtain ⟨s1, s2, s3, s4, s5, s6, s7⟩ := set3 K2.out K3.out F hF
        rw [← hF]
        refine ⟨⟨by rw [s4]; exact HK.out.1, fun k hk => ?_⟩, er, p, _, HSN.out, s1, s2, ?_, HFE.out, ?_⟩
        · unfold TurnX at hk
          rw [s3 k (by omega) (by omega)]
          exact HK.out.2 k (by omega) (by omega)
        · obtain ⟨a, e1, e2, e3⟩ := HV.out
          have ha := HFE.out a e1
          refine ⟨a, e1, ?_, ?_⟩
          · rw [World.cell?_of_block (w' := F) (w := W') (s3 a (by omega) (by omega))]; exact e2
          · rw [World.cell?_of_block (w' := F) (w := W') (s3 a (by omega) (by omega))]; exact e3
        · refine HB1.out.trans ⟨s5.trans HBL.out.os, s6.trans HBL.out.tape, s7.trans HBL.out.output, by rw [s4]; exact HBL.out.size, fun k hk => ?_⟩
          rw [s3 k (by omega) (by omega)]
          exact HBL.out.block k (by omega)
    case done =>
      rintro xs W hS ⟨r, q1, nv, rv, sv, vs, q2⟩ hD
      rw [hS] at q1
      have HRES := hide (HR2.out r q1)
      have hlens := Ld.takes_len _ _ _ q1
      have hll : (Ld.lns s).length ≤ 20001 := by
        have h1 := Ld.linesOf_len (Ld.split 10 s)
        have h2 := Ld.split_len 10 s
        have h3 : Ld.lns s = Ld.linesOf (Ld.split 10 s) := rfl
        rw [h3]
        omega
      simp only [List.length_nil, Nat.zero_add] at hlens
      have HX := hide q2
      have HPR := hide (q2.prg (by omega) (by omega))
      have HPA := hide q2.parsed
      have HD := hide hD
      have hblt := q2.lt
      have c0 : W.cell? ⟨w.heap.size + 1 + 1, 0, none⟩ = some nv := by rw [Lib.cell_of_heap q2.blk]; rfl
      have c1 : W.cell? ⟨w.heap.size + 1 + 1, 1, none⟩ = some rv := by rw [Lib.cell_of_heap q2.blk]; rfl
      obtain ⟨na, nc, hnv⟩ := own_slice q2.on
      obtain ⟨ra, rc, hrv⟩ := own_slice q2.org
      have HCK := hide (Check_any ⟨r.names, r.rungs⟩ (.agg #[nv, rv]) W HPR.out)
      have HC0 := hide (Ld.checked_none r)
      have HC1 := hide (Ld.checked_some r)
      have HPL := hide (Ld.check_place ⟨r.names, r.rungs⟩)
      subst hnv
      subst hrv
      clear q1 q2 hS hD HR1 HR2
      gi_wp2_with fail
      refine ⟨trivial, rfl, ?_⟩
      refine (callsIn_wide.2 HCK.out).mono ?_
      rintro e w2 ⟨er, rfl, her, hb2⟩
      have HER := hide her
      have HB2 := hide hb2
      have hx2 := HX.out.below hb2
      have HX2 := hide hx2
      have g2 := (hx2.lo.block w.heap.size (by omega)).trans G2.out
      have g3 := (hx2.lo.block (w.heap.size + 1) (by omega)).trans G3.out
      have K2 := hide g2
      have K3 := hide g3
      have hD2 : w2.heap[w1.heap.size]? = some (.deferred (some [])) := (hb2.block _ (Array.getElem?_eq_some_iff.1 HD.out).1).trans HD.out
      have HD2 := hide hD2
      have d0 : w2.cell? ⟨w.heap.size + 1 + 1, 0, none⟩ = some (.slice na r.names.length nc) := by rw [Lib.cell_of_heap hx2.blk]; rfl
      have d1 : w2.cell? ⟨w.heap.size + 1 + 1, 1, none⟩ = some (.slice ra r.rungs.length rc) := by rw [Lib.cell_of_heap hx2.blk]; rfl
      have e0 : w2.cell? ⟨w.heap.size, 0, none⟩ = some (.slice none 0 0) := by rw [Lib.cell_of_heap g2]; rfl
      have e1 : w2.cell? ⟨w.heap.size, 1, none⟩ = some (.slice none 0 0) := by rw [Lib.cell_of_heap g2]; rfl
      have e2 : w2.cell? ⟨w.heap.size + 1, 0, none⟩ = some .nilIface := by rw [Lib.cell_of_heap g3]; rfl
      have f0 : w2.frozen? ⟨w.heap.size, 0, none⟩ = false := Lib.frozen_of_heap g2 0
      have f1 : w2.frozen? ⟨w.heap.size, 1, none⟩ = false := Lib.frozen_of_heap g2 1
      have f2 : w2.frozen? ⟨w.heap.size + 1, 0, none⟩ = false := Lib.frozen_of_heap g3 0
      clear her hb2 HCK g2 g3 hx2 hD2 c0 c1
      cases hck : Ld.check ⟨r.names, r.rungs⟩ with
      | none =>
        have HRS := hide (HC0.out hck)
        rw [hck] at HER
        obtain rfl : er = .nilIface := HER.out
        gi_wp2_with fail
        obtain ⟨F, hF⟩ : ∃ F, F = ((w2.setCell ⟨w.heap.size, 0, none⟩ (.slice na r.names.length nc)).setCell ⟨w.heap.size, 1, none⟩ (.slice ra r.rungs.length rc)).setCell ⟨w.heap.size + 1, 0, none⟩ .nilIface := ⟨_, rfl⟩
        obtain ⟨s1, s2, s3, s4, s5, s6, s7⟩ := set3 K2.out K3.out F hF
        rw [← hF]
        have hFD : F.heap[w.heap.size + 4]? = some (.deferred (some [])) := by rw [s3 _ (by omega) (by omega), ← hsz1]; exact HD2.out
        obtain ⟨p0, p1, p2⟩ := res2 (D := w.heap.size + 4) s1 s2 (by omega) (by omega)
        refine ⟨by simp, .inl ⟨_, _, rfl, run_takeDeferred hFD, ?_⟩⟩
        refine ⟨.tuple #[.agg #[.slice na r.names.length nc, .slice ra r.rungs.length rc], .nilIface], ?_, ?_⟩
        · simp [results, Tryz.results70, go_sem, p0, p1, p2]
        · have hgp := grownBy_putObj' F (w.heap.size + 4) (.deferred none)
          have hbl : Below w.heap.size w F := by
            have h1 := HX2.out.lo
            refine HB1.out.trans ⟨s5.trans h1.os, s6.trans h1.tape, s7.trans h1.output, by rw [s4]; exact h1.size, fun k hk => ?_⟩
            rw [s3 k (by omega) (by omega)]
            exact h1.block k (by omega)
          rw [HRES.out, HRS.out]
          refine ⟨hbl.grown hgp hbl.size (fun k e => by cases e; omega), _, rfl, ?_, HPA.out⟩
          have hk : ∀ k, k ≠ w.heap.size → k ≠ w.heap.size + 1 → k ≠ w.heap.size + 4 → (F.putObj (w.heap.size + 4) (.deferred none)).heap[k]? = w2.heap[k]? := fun k h1 h2 h3 => by rw [World.putObj_heap_other h3, s3 k h1 h2]
          exact (HX2.out.moved (W' := F.putObj (w.heap.size + 4) (.deferred none)) (fun k h1 _ => hk k (by omega) (by omega) (by omega)) (hk _ (by omega) (by omega) (by omega))).prg (by omega) (by omega)
      | some pe =>
        obtain ⟨ce, cp⟩ := pe
        have HRS := hide (HC1.out ce cp hck)
        rw [hck] at HER
        have HIN := hide (inText_any (w.heap.size + 1 + 1) (w.heap.size + 13) w1 r er ce cp w2 ⟨_, _, _, _, HX2.out⟩ HER.out (fun i e => by subst e; have h5 : i < r.names.length + r.rungs.length := HPL.out ce i hck; omega) (by omega))
        obtain ⟨tu, yu, hiu⟩ : ∃ tu yu, er = .iface tu yu := by
          have h5 := HER.out
          match cp, h5 with
          | none, h => exact ⟨_, _, h⟩
          | some i, ⟨a, h, _⟩ => exact ⟨_, _, h⟩
        subst hiu
        clear hck HC0 HC1 HPL
        gi_wp2_with fail
        refine ⟨trivial, rfl, ?_⟩
        refine (callsIn_wide.2 HIN.out).mono ?_
        rintro e w3 ⟨u, rfl, hu, hb3⟩
        have HU := hide hu
        have hx3 := HX2.out.below hb3
        have HX3 := hide hx3
        have g2 := (hx3.lo.block w.heap.size (by omega)).trans G2.out
        have g3 := (hx3.lo.block (w.heap.size + 1) (by omega)).trans G3.out
        have L2 := hide g2
        have L3 := hide g3
        have hD3 : w3.heap[w1.heap.size]? = some (.deferred (some [])) := (hb3.block _ (Array.getElem?_eq_some_iff.1 HD2.out).1).trans HD2.out
        have HD3 := hide hD3
        have i0 : w3.cell? ⟨w.heap.size, 0, none⟩ = some (.slice none 0 0) := by rw [Lib.cell_of_heap g2]; rfl
        have i1 : w3.cell? ⟨w.heap.size, 1, none⟩ = some (.slice none 0 0) := by rw [Lib.cell_of_heap g2]; rfl
        have i2 : w3.cell? ⟨w.heap.size + 1, 0, none⟩ = some .nilIface := by rw [Lib.cell_of_heap g3]; rfl
        have j0 : w3.frozen? ⟨w.heap.size, 0, none⟩ = false := Lib.frozen_of_heap g2 0
        have j1 : w3.frozen? ⟨w.heap.size, 1, none⟩ = false := Lib.frozen_of_heap g2 1
        have j2 : w3.frozen? ⟨w.heap.size + 1, 0, none⟩ = false := Lib.frozen_of_heap g3 0
        obtain ⟨tu2, yu2, hiu2⟩ : ∃ tu yu, u = .iface tu yu := by
          match cp, hu with
          | none, h => exact ⟨_, _, h⟩
          | some i, ⟨a, h, _⟩ => exact ⟨_, _, h⟩
        subst hiu2
        clear hu hb3 hx3 g2 g3 hD3 HIN
        gi_wp2_with fail
        obtain ⟨F, hF⟩ : ∃ F, F = ((w3.setCell ⟨w.heap.size, 0, none⟩ (.slice none 0 0)).setCell ⟨w.heap.size, 1, none⟩ (.slice none 0 0)).setCell ⟨w.heap.size + 1, 0, none⟩ (.iface tu2 yu2) := ⟨_, rfl⟩
        obtain ⟨s1, s2, s3, s4, s5, s6, s7⟩ := set3 L2.out L3.out F hF
        rw [← hF]
        have hFD : F.heap[w.heap.size + 4]? = some (.deferred (some [])) := by rw [s3 _ (by omega) (by omega), ← hsz1]; exact HD3.out
        obtain ⟨p0, p1, p2⟩ := res2 (D := w.heap.size + 4) s1 s2 (by omega) (by omega)
        refine ⟨by simp, .inl ⟨_, _, rfl, run_takeDeferred hFD, ?_⟩⟩
        refine ⟨.tuple #[.agg #[.slice none 0 0, .slice none 0 0], .iface tu2 yu2], ?_, ?_⟩
        · simp [results, Tryz.results70, go_sem, p0, p1, p2]
        · have hgp := grownBy_putObj' F (w.heap.size + 4) (.deferred none)
          have hbl : Below w.heap.size w F := by
            have h1 := HX3.out.lo
            refine HB1.out.trans ⟨s5.trans h1.os, s6.trans h1.tape, s7.trans h1.output, by rw [s4]; exact h1.size, fun k hk => ?_⟩
            rw [s3 k (by omega) (by omega)]
            exact h1.block k (by omega)
          rw [HRES.out, HRS.out]
          refine ⟨hbl.grown hgp hbl.size (fun k e => by cases e; omega), _, rfl, ?_⟩
          have h5 := HU.out
          match cp, h5 with
          | none, h => exact h
          | some i, ⟨a, h1, h2, h3⟩ =>
            have n0 : a ≠ w.heap.size := by intro e; rw [e, Lib.cell_of_heap L2.out] at h2; simp at h2
            have n1 : a ≠ w.heap.size + 1 := by intro e; rw [e, Lib.cell_of_heap L3.out] at h2; simp at h2
            have n4 : a ≠ w.heap.size + 4 := by
              intro e
              have hd := HD3.out
              rw [hsz1] at hd
              rw [e] at h2
              simp [World.cell?, hd] at h2
            have hk : (F.putObj (w.heap.size + 4) (.deferred none)).heap[a]? = w3.heap[a]? := by rw [World.putObj_heap_other n4, s3 a n0 n1]
            refine ⟨a, h1, ?_, ?_⟩
            · rw [World.cell?_of_block (w := w3) hk]; exact h2
            · rw [World.cell?_of_block (w := w3) hk]; exact h3
    case stop =>
      rintro pre W ⟨r2, hr2⟩ ⟨er, p, v, q1, q2, q3, q4, q5, q6⟩ hD
      have HRES := hide (HR1.out er p (by rw [hr2]; exact Ld.takes_app r2 _ _ _ q1))
      have HD := hide hD
      have Q2 := hide q2
      have Q3 := hide q3
      have Q4 := hide q4
      have Q5 := hide q5
      have Q6 := hide q6
      clear q1 q2 q3 q4 q5 q6 hD hr2 HR1 HR2
      gi_wp2_with fail
      obtain ⟨p0, p1, p2⟩ := res2 (D := w1.heap.size) Q2.out Q3.out (by omega) (by omega)
      refine ⟨by simp, .inl ⟨_, _, rfl, run_takeDeferred HD.out, ?_⟩⟩
      refine ⟨.tuple #[.agg #[.slice none 0 0, .slice none 0 0], v], ?_, ?_⟩
      · simp [results, Tryz.results70, go_sem, p0, p1, p2]
      · have hgp := grownBy_putObj' W w1.heap.size (.deferred none)
        rw [HRES.out]
        refine ⟨Q6.out.grown hgp Q6.out.size (fun k e => by cases e; omega), _, rfl, ?_⟩
        obtain ⟨a, h1, h2, h3⟩ := Q4.out
        have ha := Q5.out a h1
        exact ⟨a, h1, hgp.cell h2 (fun e => by simp at e; omega), hgp.cell h3 (fun e => by simp at e; omega)⟩
end
section
open Go.RowKit
/-- an append whose run is known, at a step of a region that draws its order -/
theorem step_append_run {P : Program} (w : World) {ops : Array Oper} {o : Oper} {a : Act} {K : Act → World → Prop} {Q : Exit → Act → World → Prop} {E : Prop} (hgd : o.guard = none) (s x : Operand) (t tn : TypeId)
    (ho : o.op = .call { callee := .builtin .append, args := #[s, x], argTypes := #[t, tn] }) (vs vx : Value) (hs : a.eval s = vs) (hx : a.eval x = vx)
    (v' : Value) (w' : World) (hr : (Builtin.append_ #[t, tn] o.type #[vs, vx]).run P w = .ok v' w') (h : K (a.put o.dst v') w') : if Region.wanted o (yielded ops a.tmps) = true then Oper.wp P o a w K Q else E := by
  have hw : Region.wanted o (yielded ops a.tmps) = true := by simp [Region.wanted, hgd]
  rw [if_pos hw]
  exact Lib.wp_append_run w s x t tn ho vs vx hs hx v' w' hr h
/-- nothing is appended -/
theorem append_zero {W : World} (base : Nat) (t ty e : TypeId) (i : TypeInfo) (size : Nat) (ht : Tryz.prog.underlying t = some (.slice e)) (hi : Tryz.prog.info? e = some i) (v : Value) (n : Nat) (xs : List Value) (hown : W.ownsRow base e size v n xs) (a : Option Addr) (c : Nat) :
    (Builtin.append_ #[t, t] ty #[v, .slice a 0 c]).run Tryz.prog W = .ok v W := by
  rcases hown.2 with ⟨rfl, rfl⟩ | ⟨g, cap, cur, rfl, _, _, hnc, _⟩
  · cases a <;> simp [Builtin.append_, run_underlying ht, sizeOf, typeInfo, hi, Builtin.lenOf, Builtin.firstCells, loadCells, loadCellsFrom]
  · cases a <;> simp [Builtin.append_, run_underlying ht, sizeOf, typeInfo, hi, Builtin.lenOf, Builtin.firstCells, hnc, storeCells, loadCells, loadCellsFrom]
end
section
open Go.RowKit
/-- the document's words for kinds, all of them, as they are laid -/
def RWds (w : World) : Prop := ∃ b1 o1 cw1 b2 o2 cw2, (w.cell? ⟨2, 0, none⟩ = some (.slice (some ⟨b1, o1, none⟩) 5 cw1) ∧ 5 ≤ cw1 ∧ ∀ k, k < 5 → w.cell? ⟨b1, o1 + k, none⟩ = some (.string ⟨(Ld.nameW k).toArray⟩)) ∧ (w.cell? ⟨1, 0, none⟩ = some (.slice (some ⟨b2, o2, none⟩) 7 cw2) ∧ 7 ≤ cw2 ∧ ∀ k, k < 7 → w.cell? ⟨b2, o2 + k, none⟩ = some (.string ⟨(Ld.rungW k).toArray⟩))
theorem RWds.below {w w' : World} (h : RWds w) (hb : Below w.heap.size w w') : RWds w' := by
  obtain ⟨b1, o1, cw1, b2, o2, cw2, ⟨h1, h5, h2⟩, h3, h6, h4⟩ := h
  have key : ∀ (p : Addr) v, w.cell? p = some v → w'.cell? p = some v := fun p v hv => (hb.cell (World.block_lt_of_cell? _ _ hv)).trans hv
  exact ⟨b1, o1, cw1, b2, o2, cw2, ⟨key _ _ h1, h5, fun k hk => key _ _ (h2 k hk)⟩, key _ _ h3, h6, fun k hk => key _ _ (h4 k hk)⟩
theorem RWds.names {w : World} (h : RWds w) : ∃ sv, w.cell? ⟨2, 0, none⟩ = some sv ∧ (∃ a n c, sv = .slice a n c) ∧ Strs w sv (Ld.nameL.map toBA) := by
  obtain ⟨b1, o1, cw1, b2, o2, cw2, ⟨h1, h5, h2⟩, _⟩ := h
  refine ⟨_, h1, ⟨_, _, _, rfl⟩, .inr ⟨b1, o1, cw1, rfl, h5, by decide, fun k y hy => ?_⟩⟩
  have hk : k < 5 := by have := (List.getElem?_eq_some_iff.1 hy).1; simpa [Ld.nameL] using this
  rw [h2 k hk]
  have : k = 0 ∨ k = 1 ∨ k = 2 ∨ k = 3 ∨ k = 4 := by omega
  rcases this with rfl | rfl | rfl | rfl | rfl <;> (simp [Ld.nameL, toBA] at hy; rw [← hy])
theorem RWds.rungs {w : World} (h : RWds w) : ∃ sv, w.cell? ⟨1, 0, none⟩ = some sv ∧ (∃ a n c, sv = .slice a n c) ∧ Strs w sv (Ld.rungL.map toBA) := by
  obtain ⟨b1, o1, cw1, b2, o2, cw2, _, h1, h5, h2⟩ := h
  refine ⟨_, h1, ⟨_, _, _, rfl⟩, .inr ⟨b2, o2, cw2, rfl, h5, by decide, fun k y hy => ?_⟩⟩
  have hk : k < 7 := by have := (List.getElem?_eq_some_iff.1 hy).1; simpa [Ld.rungL] using this
  rw [h2 k hk]
  have : k = 0 ∨ k = 1 ∨ k = 2 ∨ k = 3 ∨ k = 4 ∨ k = 5 ∨ k = 6 := by omega
  rcases this with rfl | rfl | rfl | rfl | rfl | rfl | rfl <;> (simp [Ld.rungL, toBA] at hy; rw [← hy])
/-- what a program's reading leans on -/
structure PLaid (w : World) : Prop where
  r : RLaid w
  wd : RWds w
  errs : NumErrs w
  pows : Pows w
  low : 14 ≤ w.heap.size
theorem PLaid.below {w w' : World} (h : PLaid w) (hb : Below w.heap.size w w') : PLaid w' :=
  ⟨h.r.below hb, h.wd.below hb, h.errs.low hb h.low, h.pows.low hb h.low, Nat.le_trans h.low hb.size⟩
/-- words in memory, as one reads them -/
def WAt (w : World) (a : Option Addr) (c : Nat) (wl : List (List UInt8)) : Prop := ∀ (k : Nat) y, wl[k]? = some y → ∃ g, a = some ⟨g, 0, none⟩ ∧ wl.length ≤ c ∧ w.cell? ⟨g, k, none⟩ = some (.string ⟨y.toArray⟩)
theorem WAt.below {w w' : World} {a : Option Addr} {c : Nat} {wl : List (List UInt8)} (h : WAt w a c wl) (hb : Below w.heap.size w w') : WAt w' a c wl := fun k y hk => by
  obtain ⟨g, h1, h2, h3⟩ := h k y hk
  exact ⟨g, h1, h2, (hb.cell (World.block_lt_of_cell? _ _ h3)).trans h3⟩
theorem words_count (s : List UInt8) (hs : s.length ≤ 20000) : (Ld.words s).length ≤ 20001 := by
  have h : ∀ l : List UInt8, (Ld.split 32 l).length ≤ l.length + 1 := by
    intro l
    induction l with
    | nil => simp [Ld.split]
    | cons a r ih =>
      unfold Ld.split
      by_cases h : a = 32
      · rw [if_pos h]; simp; omega
      · rw [if_neg h]
        cases hs : Ld.split 32 r with
        | nil => simp
        | cons x t => rw [hs] at ih; simp at ih ⊢; omega
  unfold Ld.words
  exact Nat.le_trans (List.length_filter_le _ _) (Nat.le_trans (h s) (by omega))
theorem rwords2 (s : List UInt8) (w : World) (hs : s.length ≤ 20000) (hL : PLaid w) :
    Calls Tryz.prog 109 #[.string ⟨s.toArray⟩] w fun e w' => ∃ a c, e = .returned (.slice a (Ld.words s).length c) ∧ WAt w' a c (Ld.words s) ∧ Below w.heap.size w w' := by
  obtain ⟨m, hm⟩ := hL.r.len
  refine (rwords_any ⟨s.toArray⟩ m w (by simp [ByteArray.size]; omega) hm).mono ?_
  rintro e w' ⟨v, rfl, ho, hb⟩
  have e0 : (⟨s.toArray⟩ : ByteArray).data.toList = s := rfl
  rw [e0] at ho
  rcases ho.2 with ⟨rfl, h0⟩ | ⟨g, cap, cur, rfl, _, hcur, hcap, _, _, htk⟩
  · refine ⟨none, 0, by rw [h0], fun k y hk => ?_, hb⟩
    rw [List.length_eq_zero_iff.1 h0] at hk
    simp at hk
  · refine ⟨_, cap, rfl, fun k y hk => ⟨g, rfl, hcap, ?_⟩, hb⟩
    exact row_cell hcur htk (by rw [List.getElem?_map, hk]; rfl)
/-- what ProgramParse comes to -/
def RParsed (w : World) (res : (Nat × Option Nat) ⊕ Ld.Prg) (e : Ending) (w' : World) : Prop :=
  Below w.heap.size w w' ∧ match res with
    | .inl (er, pl) => e = .returned (.tuple #[.agg #[.slice none 0 0, .slice none 0 0], faultV (er : Int) (match pl with | none => -1 | some p => (p : Int))]) ∧ er ≠ 0
    | .inr p => ∃ nv rv, e = .returned (.tuple #[.agg #[nv, rv], faultV 0 (-1)]) ∧ IsRPrg w' p (.agg #[nv, rv]) ∧ Ld.check p = none
theorem RdY.start {w : World} {b q : Nat} {W : World} (hblk : W.heap[b]? = some (.cells #[.slice none 0 0, .slice none 0 0] 45 (0, 0))) (hlo : Below b w W) : RdY b q w [] [] [] [] (.slice none 0 0) (.slice none 0 0) (.slice none 0 0) (.slice none 0 0) [] W :=
  ⟨hblk, World.ownsRow_nil _ _ _ _, World.ownsRow_nil _ _ _ _, World.ownsRow_nil _ _ _ _, World.ownsRow_nil _ _ _ _, (fun _ e _ => by cases e), (fun _ => rfl), rfl, (fun i g v h => by simp at h), (fun n hn => by simp at hn), (fun n hn => by simp at hn), hlo⟩
/-- it stands where blocks below b turn -/
theorem RdY.moved {b q : Nat} {w0 : World} {ns : List Ld.Nme} {rs : List Ld.Rng} {ps gs : List Nat} {nv rv pv gv : Value} {vs : List Value} {W W' : World} (h : RdY b q w0 ns rs ps gs nv rv pv gv vs W) (hbq : b < q) (hk : ∀ k, b ≤ k → k < W.heap.size → W'.heap[k]? = W.heap[k]?) : RdY b q W' ns rs ps gs nv rv pv gv vs W' :=
  have key : ∀ k, q ≤ k → k < W.heap.size → W'.heap[k]? = W.heap[k]? := fun k h1 h2 => hk k (by omega) h2
  ⟨(hk b (Nat.le_refl _) h.lt).trans h.blk, own_moved h.on key, own_moved h.org key, own_moved h.op key, own_moved h.og key, h.ap, h.gnil, h.len, (fun i g v h1 h2 => by
    obtain ⟨x, l, p, e1, e2, e3, e4⟩ := h.ex i g v h1 h2
    refine ⟨x, l, p, e1, e2, e3, IsRx.stay ?_ (fun _ h => h) x p e4⟩
    intro k i u hok hc
    rw [World.cell?_of_block (w' := W') (w := W) (key k hok.1 (World.block_lt_of_cell? _ _ hc))]; exact hc), h.bn, h.br, Below.refl _ _⟩
/-- while a name is put: its place's row stands, behind the first append; the block, behind the second -/
theorem RdY.midP {b q : Nat} {w0 : World} {ns : List Ld.Nme} {rs : List Ld.Rng} {ps gs : List Nat} {nv rv pv gv : Value} {vs : List Value} {W W1 : World} (h : RdY b q w0 ns rs ps gs nv rv pv gv vs W) (o1 : Obj) (g1 : (W.alloc o1).grownBy W1 nv.ownBlock) : W1.ownsRow q 3 1 pv ps.length (ps.map intV) := (h.op.alloc o1).kept g1 (own_apart (h.op.alloc o1) (h.on.alloc o1) (by decide))
theorem RdY.midG {b q : Nat} {w0 : World} {ns : List Ld.Nme} {rs : List Ld.Rng} {ps gs : List Nat} {nv rv pv gv : Value} {vs : List Value} {W W1 : World} (h : RdY b q w0 ns rs ps gs nv rv pv gv vs W) (o1 : Obj) (g1 : (W.alloc o1).grownBy W1 rv.ownBlock) : W1.ownsRow q 3 1 gv gs.length (gs.map intV) := (h.og.alloc o1).kept g1 (own_apart (h.og.alloc o1) (h.org.alloc o1) (by decide))
theorem RdY.keepN {b q : Nat} {w0 : World} {ns : List Ld.Nme} {rs : List Ld.Rng} {ps gs : List Nat} {nv rv pv gv : Value} {vs : List Value} {W W1 W2 : World} (h : RdY b q w0 ns rs ps gs nv rv pv gv vs W) (hq : q ≤ W.heap.size) (o1 o2 : Obj) (g1 : (W.alloc o1).grownBy W1 nv.ownBlock) (g2 : (W1.alloc o2).grownBy W2 pv.ownBlock) (k : Nat) (hk : k < q) : W2.heap[k]? = W.heap[k]? := by
  have z1 := g1.size
  have z2 := g2.size
  rw [World.size_alloc] at z1 z2
  rw [g2.block k (by rw [World.size_alloc]; omega) (fun e => by have := (h.op.lt k e.symm).1; omega), Below.heap_alloc _ _ _ (by omega), g1.block k (by rw [World.size_alloc]; omega) (fun e => by have := (h.on.lt k e.symm).1; omega), Below.heap_alloc _ _ _ (by omega)]
theorem RdY.keepR {b q : Nat} {w0 : World} {ns : List Ld.Nme} {rs : List Ld.Rng} {ps gs : List Nat} {nv rv pv gv : Value} {vs : List Value} {W W1 W2 : World} (h : RdY b q w0 ns rs ps gs nv rv pv gv vs W) (hq : q ≤ W.heap.size) (o1 o2 : Obj) (g1 : (W.alloc o1).grownBy W1 rv.ownBlock) (g2 : (W1.alloc o2).grownBy W2 gv.ownBlock) (k : Nat) (hk : k < q) : W2.heap[k]? = W.heap[k]? := by
  have z1 := g1.size
  have z2 := g2.size
  rw [World.size_alloc] at z1 z2
  rw [g2.block k (by rw [World.size_alloc]; omega) (fun e => by have := (h.og.lt k e.symm).1; omega), Below.heap_alloc _ _ _ (by omega), g1.block k (by rw [World.size_alloc]; omega) (fun e => by have := (h.org.lt k e.symm).1; omega), Below.heap_alloc _ _ _ (by omega)]
/-- numbers are appended to an own row -/
theorem append_ints {W : World} (base : Nat) (ty : TypeId) (v sv : Value) (ps gs : List Nat) (hown : W.ownsRow base 3 1 v ps.length (ps.map intV)) (hs : W.ownsRow base 3 1 sv gs.length (gs.map intV)) (hb : base ≤ W.heap.size) (hx : ps.length ≤ 1000000) (hy : gs.length ≤ 1000000) :
    ∃ v' W', (Builtin.append_ #[36, 36] ty #[v, sv]).run Tryz.prog W = .ok v' W' ∧ W'.ownsRow base 3 1 v' (ps.length + gs.length) ((ps ++ gs).map intV) ∧ W.grownBy W' v.ownBlock := by
  obtain ⟨i0, hi0, hz0, hz1, hz2⟩ := info_parts Tryz.infoInt
  by_cases h0 : gs = []
  · subst h0
    obtain ⟨a, c, rfl⟩ := own_slice hs
    exact ⟨v, W, append_zero base _ ty _ i0 1 Tryz.underlying36 hi0 v _ _ hown a c, by simpa using hown, ⟨rfl, rfl, rfl, Nat.le_refl _, fun _ _ _ => rfl⟩⟩
  · rcases hs.2 with ⟨_, h1⟩ | ⟨g, cap, cur, rfl, _, hcur, hcap, _, _, htk⟩
    · exact (h0 (List.length_eq_zero_iff.1 h1)).elim
    · obtain ⟨v', W', h1, h2, h3, _⟩ := run_append_own_at (P := Tryz.prog) W base 36 ty 3 i0 _ 1 8 Tryz.underlying36 hi0 hz0 hz1 hz2 rfl (by decide) v ps.length (ps.map intV) hown ⟨g, 0, none⟩ gs.length cap (gs.map intV) (by simp) (fun j u hu => by
        have := row_cell hcur htk hu
        cases j <;> simpa [Addr.add] using this) (fun u hu => by
        obtain ⟨b, _, rfl⟩ := List.mem_map.1 hu
        rfl) (by unfold maxLen; omega) (by omega) hb
      exact ⟨v', W', h1, by rw [List.map_append]; exact h2, h3⟩
theorem Tryz.infoRName : (Tryz.prog.info? 144).map (fun i => (i.zero, i.size, i.bytes)) = some (some (.agg #[.string ⟨#[]⟩, .int .i64 0, .int .i64 0]), 3, 32) := by kernel_rfl
theorem Tryz.infoRRung : (Tryz.prog.info? 195).map (fun i => (i.zero, i.size, i.bytes)) = some (some (.agg #[.int .i64 0, .string ⟨#[]⟩, .pointer none]), 3, 32) := by kernel_rfl
end
section
namespace Ld
def litA : Ex := ⟨2, [97], []⟩
def lit : Prg := ⟨[⟨[97], 1, 0⟩, ⟨[109], 2, 0⟩], [⟨2, [109], some litA⟩]⟩
theorem checked_check (r : Rdg) (p : Prg) (h : checked r = .inr p) : check p = none := by
  unfold checked at h
  split at h
  · rename_i h1; cases h; exact h1
  · cases h
  · cases h
/-- what is read has nothing wrong -/
theorem parse_check (l : List UInt8) (p : Prg) (h : parse l = .inr p) : check p = none := by
  unfold parse at h
  split at h
  · cases h
  · split at h
    · cases h
    · exact checked_check _ p h
theorem litA_text : litA.text = [97] := by simp [litA, Ex.text]
theorem litA_parse : Ex.parse [97] = .inr litA := by kernel_rfl
theorem litA_named : litA.named true = [[97]] := by simp [litA, Ex.named]
theorem lit_check : check lit = none := by
  have h0 : number lit.names [97] = 0 := by kernel_rfl
  have h1 : number lit.names [109] = 1 := by kernel_rfl
  have n1 : Nm.name [97] = true := by kernel_rfl
  have n2 : Nm.name [109] = true := by kernel_rfl
  have a0 : nameAt lit.names 0 = 0 := by rw [nameAt_at _ _ (by decide)]; show wrongN lit.names 0 ⟨[97], 1, 0⟩ = 0; simp [wrongN, n1, h0, mayCount, counted]
  have a1 : nameAt lit.names 1 = 0 := by rw [nameAt_at _ _ (by decide)]; show wrongN lit.names 1 ⟨[109], 2, 0⟩ = 0; simp [wrongN, n2, h1, mayCount, counted]
  have hk : known lit.names litA = true := by simp [known, litA_named, h0]
  have hka : kindAt lit.names 1 = 2 := rfl
  have b0 : rungAt lit 0 = 0 := by rw [rungAt_at _ _ (by decide)]; show wrongR lit.names ⟨2, [109], some litA⟩ = 0; simp [wrongR, h1, hka, kindOf, hk]
  have hb : bad (nameAt lit.names) 2 = none := by simp [bad, a0, a1]
  have hc : bad (rungAt lit) 1 = none := by simp [bad, b0]
  have e1 : lit.names.length = 2 := rfl
  have e2 : lit.rungs.length = 1 := rfl
  simp [check, e1, e2, hb, hc]
theorem lit_text : text lit = [105, 110, 112, 117, 116, 32, 97, 10, 99, 111, 105, 108, 32, 109, 10, 115, 101, 116, 32, 109, 32, 61, 32, 97, 10] := by
  rw [text, if_pos lit_check]
  simp [lit, linesT, nameT, rungT, headT, condT, litA_text, counted, nameW, rungW, ended]
theorem lit_parse : parse [105, 110, 112, 117, 116, 32, 97, 10, 99, 111, 105, 108, 32, 109, 10, 115, 101, 116, 32, 109, 32, 61, 32, 97, 10] = .inr lit := by
  have h := parse_text lit lit_check (fun r hr x hx => ?_) (by rw [lit_text]; decide) (fun r hr => ?_)
  · rw [lit_text] at h; exact h
  · simp only [lit, List.mem_singleton] at hr
    subst hr
    cases hx
    exact ⟨_, litA_parse⟩
  · simp only [lit, List.mem_singleton] at hr
    subst hr
    show litA.text.length ≤ _
    rw [litA_text]; decide
theorem lit_number : number lit.names [109] = 1 := by kernel_rfl
end Ld
end
section
open Go.RowKit
/-- an expression's rows lie where interface values do -/
theorem IsEx.head {ok : Nat → Prop} {w : World} : ∀ (x : Ex) (v : Value), IsEx ok w x v → IsEx (fun g => ∃ t y, w.cell? ⟨g, 0, none⟩ = some (.iface t y)) w x v := by
  intro x
  induction x using Ex.ind with
  | h k nm l ih =>
    intro v h
    have sub : ∀ (i : Nat) (P : Value → Prop), (l.map fun x => IsEx (fun g => ∃ t y, w.cell? ⟨g, 0, none⟩ = some (.iface t y)) w x)[i]? = some P → ∃ Q : Value → Prop, (l.map fun x => IsEx ok w x)[i]? = some Q ∧ ∀ u, Q u → P u := by
      intro i P hP
      rw [List.getElem?_map] at hP
      cases hl : l[i]? with
      | none => rw [hl] at hP; simp at hP
      | some y =>
        rw [hl] at hP
        simp only [Option.map_some, Option.some.injEq] at hP
        exact ⟨IsEx ok w y, by rw [List.getElem?_map, hl]; rfl, fun u hu => by rw [← hP]; exact ih y (List.mem_of_getElem? hl) u hu⟩
    have hlist : ∀ t, IsList ok w t l.length (l.map fun x => IsEx ok w x) v → IsList (fun g => ∃ t y, w.cell? ⟨g, 0, none⟩ = some (.iface t y)) w t l.length (l.map fun x => IsEx (fun g => ∃ t y, w.cell? ⟨g, 0, none⟩ = some (.iface t y)) w x) v := by
      rintro t ⟨h1, h2, g, cap, h3, h4, h5, h6⟩
      have hg : ∃ t y, w.cell? ⟨g, 0, none⟩ = some (.iface t y) := by
        obtain ⟨u, hu, hx⟩ := h6 0 (IsEx ok w l[0]) (by rw [List.getElem?_map, List.getElem?_eq_getElem (by omega)]; rfl)
        obtain ⟨t, y, rfl⟩ := IsEx.iface _ u hx
        exact ⟨t, y, hu⟩
      refine ⟨h1, h2, g, cap, h3, h4, hg, ?_⟩
      intro i P hP
      obtain ⟨Q, hQ, hq⟩ := sub i P hP
      obtain ⟨u, hu, hx⟩ := h6 i Q hQ
      exact ⟨u, hu, hq u hx⟩
    match k, h with
    | 0, h => simp only [IsEx] at h ⊢; exact h
    | 1, h => simp only [IsEx] at h ⊢; exact h
    | 2, h => simp only [IsEx] at h ⊢; exact h
    | 3, h => simp only [IsEx] at h ⊢; exact h
    | 4, h => simp only [IsEx] at h ⊢; exact h
    | 5, h =>
      simp only [IsEx] at h ⊢
      obtain ⟨h1, h2, u, h3, h4⟩ := h
      refine ⟨h1, h2, u, h3, ?_⟩
      intro P hP
      obtain ⟨Q, hQ, hq⟩ := sub 0 P hP
      exact hq u (h4 Q hQ)
    | 6, h => simp only [IsEx] at h ⊢; exact ⟨h.1, hlist _ h.2⟩
    | 7, h => simp only [IsEx] at h ⊢; exact ⟨h.1, hlist _ h.2⟩
    | n + 8, h => simp only [IsEx] at h
namespace Sl
/-- a block whose first cell is a text or an interface value -/
def Plain (w : World) (g : Nat) : Prop := (∃ s, w.cell? ⟨g, 0, none⟩ = some (.string s)) ∨ ∃ t y, w.cell? ⟨g, 0, none⟩ = some (.iface t y)
/-- such blocks stand -/
def PStay (w w' : World) : Prop := ∀ g i u, Plain w g → w.cell? ⟨g, i, none⟩ = some u → w'.cell? ⟨g, i, none⟩ = some u
theorem cond_stay {w w' : World} (hs : PStay w w') {x : Option Ex} {v : Value} (h : CondAt w x v) : CondAt w' x v := by
  cases x with
  | none => exact h
  | some x => exact ⟨IsEx.stay (fun g i u hg hc => hs g i u (.inr hg) hc) (fun _ _ => trivial) x v (IsEx.head x v h.1), h.2⟩
theorem names_stay {w w' : World} (hs : PStay w w') {sv : Value} {ns : List Ld.Nme} (h : NamesAt w sv ns) : NamesAt w' sv ns := by
  rcases h with h | ⟨g, cap, h1, h2, h3, h4⟩
  · exact .inl h
  · refine .inr ⟨g, cap, h1, h2, h3, fun i n hi => ?_⟩
    have h0 : Plain w g := by
      have hil := (List.getElem?_eq_some_iff.1 hi).1
      have := (h4 0 (ns[0]'(by omega)) (List.getElem?_eq_getElem _)).1
      exact .inl ⟨_, by simpa using this⟩
    obtain ⟨c1, c2, c3, c4⟩ := h4 i n hi
    exact ⟨hs _ _ _ h0 c1, hs _ _ _ h0 c2, hs _ _ _ h0 c3, c4⟩
theorem PStay.below {w w' : World} (hb : Below w.heap.size w w') : PStay w w' := fun _ _ _ _ hc => (hb.cell (World.block_lt_of_cell? _ _ hc)).trans hc
/-- names that are laid -/
structure PN (wS : World) (b : Nat) (ns : List Ld.Nme) (nv : Value) (W : World) : Prop where
  low : Below b wS W
  blk : W.heap[b]? = some (.cells #[nv, .slice none 0 0] 83 (0, 0))
  on : W.ownsRow (b + 1) 201 3 nv ns.length (ns.flatMap nmCells)
  bn : ∀ n, n ∈ ns → n.name.length ≤ maxLen ∧ I64 n.kind ∧ I64 n.count
theorem PN.lt {wS : World} {b : Nat} {ns : List Ld.Nme} {nv : Value} {W : World} (h : PN wS b ns nv W) : b < W.heap.size := (Array.getElem?_eq_some_iff.1 h.blk).1
theorem PN.below {wS : World} {b : Nat} {ns : List Ld.Nme} {nv : Value} {W W' : World} (h : PN wS b ns nv W) (hb : Below W.heap.size W W') : PN wS b ns nv W' :=
  ⟨h.low.trans (hb.mono (Nat.le_of_lt h.lt)), (hb.block _ h.lt).trans h.blk, h.on.kept (row := none) (grown_below hb) (by cases nv.ownBlock <;> simp), h.bn⟩
theorem PN.put {wS : World} {b : Nat} {ns : List Ld.Nme} {nv : Value} {W wC : World} (h : PN wS b ns nv W) (n : Ld.Nme) (hn : n.name.length ≤ maxLen ∧ I64 n.kind ∧ I64 n.count) (g cap : Nat) (hown : wC.ownsRow (b + 1) 201 3 (.slice (some ⟨g, 0, none⟩) (ns.length + 1) cap) (ns.length + 1) (ns.flatMap nmCells ++ nmCells n)) (hg : W.grownBy wC nv.ownBlock) :
    (wC.cell? ⟨b, 0, none⟩ = some nv ∧ wC.frozen? ⟨b, 0, none⟩ = false) ∧ PN wS b (ns ++ [n]) (.slice (some ⟨g, 0, none⟩) (ns.length + 1) cap) (wC.setCell ⟨b, 0, none⟩ (.slice (some ⟨g, 0, none⟩) (ns.length + 1) cap)) := by
  have hbk : wC.heap[b]? = some (.cells #[nv, .slice none 0 0] 83 (0, 0)) := (hg.block b h.lt (fun e => by have := (h.on.lt b e.symm).1; omega)).trans h.blk
  obtain ⟨k1, k2, k3, k4⟩ := grown_store (b := b) (q := b + 1) (i := 0) (v' := .slice (some ⟨g, 0, none⟩) (ns.length + 1) cap) h.blk h.low hg (fun g e => (h.on.lt g e).1) (by omega) h.lt
  refine ⟨⟨by rw [Lib.cell_of_heap hbk]; rfl, Lib.frozen_of_heap hbk 0⟩, k3, by simpa using k1, ?_, ?_⟩
  · have e1 : (ns ++ [n]).length = ns.length + 1 := by simp
    have e2 : (ns ++ [n]).flatMap nmCells = ns.flatMap nmCells ++ nmCells n := by simp
    rw [e1, e2]
    exact hown.kept k4 (.inr (by intro e; have := (hown.lt g rfl).1; simp only [Value.ownBlock, Option.some.injEq] at e; omega))
  · intro m hm
    rw [List.mem_append] at hm
    rcases hm with hm | hm
    · exact h.bn m hm
    · simp at hm; subst hm; exact hn
theorem PN.names {wS : World} {b : Nat} {ns : List Ld.Nme} {nv : Value} {W : World} (h : PN wS b ns nv W) (hl : ns.length ≤ 1000000) : NamesAt W nv ns := by
  rcases h.on.2 with ⟨rfl, h0⟩ | ⟨g, cap, cur, rfl, _, hcur, hcap, _, _, htk⟩
  · exact .inl ⟨List.length_eq_zero_iff.1 h0, _, _, rfl⟩
  · refine .inr ⟨g, cap, rfl, hcap, hl, fun i n hi => ?_⟩
    have hc := fun j hj => flat3 nmCells (fun _ => rfl) ns i n hi j hj
    exact ⟨row_cell hcur htk (hc 0 (by omega)), row_cell hcur htk (hc 1 (by omega)), row_cell hcur htk (hc 2 (by omega)), h.bn n (List.mem_of_getElem? hi)⟩
/-- rungs that are laid -/
structure PR (wS : World) (b : Nat) (ns : List Ld.Nme) (rs : List (Ld.Rng × Value)) (nv rv : Value) (W : World) : Prop where
  low : Below b wS W
  blk : W.heap[b]? = some (.cells #[nv, rv] 83 (0, 0))
  nat : NamesAt W nv ns
  org : W.ownsRow (b + 1) 230 3 rv rs.length (rs.flatMap rgCells)
  br : ∀ r, r ∈ rs → r.1.name.length ≤ maxLen ∧ I64 r.1.kind ∧ CondAt W r.1.cond r.2
  e0 : rs = [] → rv = .slice none 0 0
theorem PN.rungs {wS : World} {b : Nat} {ns : List Ld.Nme} {nv : Value} {W : World} (h : PN wS b ns nv W) (hl : ns.length ≤ 1000000) : PR wS b ns [] nv (.slice none 0 0) W :=
  ⟨h.low, h.blk, h.names hl, ⟨rfl, .inl ⟨rfl, rfl⟩⟩, (fun r hr => by cases hr), fun _ => rfl⟩
theorem PR.lt {wS : World} {b : Nat} {ns : List Ld.Nme} {rs : List (Ld.Rng × Value)} {nv rv : Value} {W : World} (h : PR wS b ns rs nv rv W) : b < W.heap.size := (Array.getElem?_eq_some_iff.1 h.blk).1
theorem PR.below {wS : World} {b : Nat} {ns : List Ld.Nme} {rs : List (Ld.Rng × Value)} {nv rv : Value} {W W' : World} (h : PR wS b ns rs nv rv W) (hb : Below W.heap.size W W') : PR wS b ns rs nv rv W' :=
  ⟨h.low.trans (hb.mono (Nat.le_of_lt h.lt)), (hb.block _ h.lt).trans h.blk, h.nat.below hb, h.org.kept (row := none) (grown_below hb) (by cases rv.ownBlock <;> simp), fun r hr => ⟨(h.br r hr).1, (h.br r hr).2.1, (h.br r hr).2.2.below hb⟩, h.e0⟩
theorem PR.apart {wS : World} {b : Nat} {ns : List Ld.Nme} {rs : List (Ld.Rng × Value)} {nv rv : Value} {W : World} (h : PR wS b ns rs nv rv W) {g : Nat} (hg : Plain W g) : g ≠ b ∧ some g ≠ rv.ownBlock := by
  constructor
  · intro e
    subst e
    obtain ⟨a, c, rfl, _⟩ := h.nat.slice
    have h0 : W.cell? ⟨g, 0, none⟩ = some (.slice a ns.length c) := by rw [Lib.cell_of_heap h.blk]; rfl
    rcases hg with ⟨s, h1⟩ | ⟨t, y, h1⟩
    · rw [h0] at h1; cases h1
    · rw [h0] at h1; cases h1
  · intro e
    cases rs with
    | nil => rw [h.e0 rfl] at e; cases e
    | cons r rs =>
      rcases h.org.2 with ⟨rfl, _⟩ | ⟨g', cap, cur, rfl, _, hcur, hcap, _, _, htk⟩
      · cases e
      · simp only [Value.ownBlock, Option.some.injEq] at e
        subst e
        have h0 : W.cell? ⟨g, 0, none⟩ = some (.int .i64 r.1.kind) := row_cell hcur htk (by simp [rgCells])
        rcases hg with ⟨s, h1⟩ | ⟨t, y, h1⟩
        · rw [h0] at h1; cases h1
        · rw [h0] at h1; cases h1
theorem PR.put {wS : World} {b : Nat} {ns : List Ld.Nme} {rs : List (Ld.Rng × Value)} {nv rv : Value} {W wC : World} (h : PR wS b ns rs nv rv W) (r : Ld.Rng × Value) (hr : r.1.name.length ≤ maxLen ∧ I64 r.1.kind ∧ CondAt W r.1.cond r.2) (g cap : Nat) (hown : wC.ownsRow (b + 1) 230 3 (.slice (some ⟨g, 0, none⟩) (rs.length + 1) cap) (rs.length + 1) (rs.flatMap rgCells ++ rgCells r)) (hg : W.grownBy wC rv.ownBlock) :
    (wC.cell? ⟨b, 1, none⟩ = some rv ∧ wC.frozen? ⟨b, 1, none⟩ = false) ∧ PR wS b ns (rs ++ [r]) nv (.slice (some ⟨g, 0, none⟩) (rs.length + 1) cap) (wC.setCell ⟨b, 1, none⟩ (.slice (some ⟨g, 0, none⟩) (rs.length + 1) cap)) := by
  have hbk : wC.heap[b]? = some (.cells #[nv, rv] 83 (0, 0)) := (hg.block b h.lt (fun e => by have := (h.org.lt b e.symm).1; omega)).trans h.blk
  obtain ⟨k1, k2, k3, k4⟩ := grown_store (b := b) (q := b + 1) (i := 1) (v' := .slice (some ⟨g, 0, none⟩) (rs.length + 1) cap) h.blk h.low hg (fun g e => (h.org.lt g e).1) (by omega) h.lt
  have hst : PStay W (wC.setCell ⟨b, 1, none⟩ (.slice (some ⟨g, 0, none⟩) (rs.length + 1) cap)) := fun g' i u hp hc => by
    obtain ⟨n1, n2⟩ := h.apart hp
    exact k4.cell (hg.cell hc n2) (fun e => n1 (by simpa using e))
  refine ⟨⟨by rw [Lib.cell_of_heap hbk]; rfl, Lib.frozen_of_heap hbk 1⟩, k3, by simpa using k1, names_stay hst h.nat, ?_, ?_, fun e => by simp at e⟩
  · have e1 : (rs ++ [r]).length = rs.length + 1 := by simp
    have e2 : (rs ++ [r]).flatMap rgCells = rs.flatMap rgCells ++ rgCells r := by simp
    rw [e1, e2]
    exact hown.kept k4 (.inr (by intro e; have := (hown.lt g rfl).1; simp only [Value.ownBlock, Option.some.injEq] at e; omega))
  · intro m hm
    rw [List.mem_append] at hm
    rcases hm with hm | hm
    · exact ⟨(h.br m hm).1, (h.br m hm).2.1, cond_stay hst (h.br m hm).2.2⟩
    · simp only [List.mem_singleton] at hm
      subst hm
      exact ⟨hr.1, hr.2.1, cond_stay hst hr.2.2⟩
/-- what was made is a program -/
theorem PR.prg {wS : World} {b : Nat} {ns : List Ld.Nme} {rs : List (Ld.Rng × Value)} {nv rv : Value} {W : World} (h : PR wS b ns rs nv rv W) (hl : rs.length ≤ 1000000) : IsPrg W ⟨ns, rs.map fun r => r.1⟩ (.agg #[nv, rv]) := by
  refine ⟨nv, rv, rfl, h.nat, ?_⟩
  rcases h.org.2 with ⟨rfl, h0⟩ | ⟨g, cap, cur, rfl, _, hcur, hcap, _, _, htk⟩
  · exact .inl ⟨by simpa using h0, _, _, rfl⟩
  · refine .inr ⟨g, cap, by simp, by simpa using hcap, by simpa using hl, fun i r hi => ?_⟩
    rw [List.getElem?_map] at hi
    cases hrs : rs[i]? with
    | none => rw [hrs] at hi; cases hi
    | some p =>
      rw [hrs] at hi
      simp only [Option.map_some, Option.some.injEq] at hi
      subst hi
      have hc := fun j hj => flat3 rgCells (fun _ => rfl) rs i p hrs j hj
      obtain ⟨b1, b2, b3⟩ := h.br p (List.mem_of_getElem? hrs)
      exact ⟨p.2, row_cell hcur htk (hc 0 (by omega)), row_cell hcur htk (hc 1 (by omega)), row_cell hcur htk (hc 2 (by omega)), b1, b2, b3⟩
end Sl
end
section
open Go.RowKit
namespace Sl
/-- a block whose first cell is a text, an interface value or a pointer -/
def PlainR (w : World) (g : Nat) : Prop := Plain w g ∨ ∃ a, w.cell? ⟨g, 0, none⟩ = some (.pointer a)
def RStay (w w' : World) : Prop := ∀ g i u, PlainR w g → w.cell? ⟨g, i, none⟩ = some u → w'.cell? ⟨g, i, none⟩ = some u
theorem RStay.names {w w' : World} (h : RStay w w') : PStay w w' := fun g i u hp hc => h g i u (.inl hp) hc
theorem rx_head {ok : Nat → Prop} {w : World} : ∀ (x : Ex) (g : Nat), IsRx ok w x g → IsRx (PlainR w) w x g := by
  intro x
  induction x using Ex.ind with
  | h k nm l ih =>
    intro g h
    rw [IsRx.def] at h ⊢
    obtain ⟨h1, h2, h3, h4, h5, sv, h6, h7⟩ := h
    refine ⟨.inl (.inl ⟨_, h4⟩), h2, h3, h4, h5, sv, h6, ?_⟩
    rcases h7 with h7 | ⟨h0, b, cap, e1, e2, e3, e4⟩
    · exact .inl h7
    · refine .inr ⟨h0, b, cap, e1, e2, ?_, ?_⟩
      · obtain ⟨q, hq, _⟩ := e4 0 (IsRx ok w l[0]) (by rw [List.getElem?_map, List.getElem?_eq_getElem (by omega)]; rfl)
        exact .inr ⟨_, hq⟩
      · intro i P hP
        rw [List.getElem?_map] at hP
        cases hl : l[i]? with
        | none => rw [hl] at hP; simp at hP
        | some y =>
          rw [hl] at hP
          simp only [Option.map_some, Option.some.injEq] at hP
          obtain ⟨q, hq, hx⟩ := e4 i (IsRx ok w y) (by rw [List.getElem?_map, hl]; rfl)
          exact ⟨q, hq, by rw [← hP]; exact ih y (List.mem_of_getElem? hl) q hx⟩
theorem rcond_stay {w w' : World} (hs : RStay w w') {x : Option Ex} {v : Value} (h : RCondAt w x v) : RCondAt w' x v := by
  cases x with
  | none => exact h
  | some x =>
    obtain ⟨g, h1, h2, h3⟩ := h
    exact ⟨g, h1, IsRx.stay hs (fun _ _ => trivial) x g (rx_head x g h2), h3⟩
end Sl
end
end Go.Proofs.YtgldbliohpfljaaGreatDoor
