/-
  The walk of package ladder's words.
-/
import Derived.Test.YtgldbliohpfljaaGreatDoorSpSeqAll
import Derived.Test.YtgldbliohpfljaaGreatDoorLdCheckAll
import Derived.RangeFuncBox
import Derived.Maps.AppendAt
namespace Go.Proofs.YtgldbliohpfljaaGreatDoor
open Go.RowKit
attribute [local go_sem] Oper.semAt_some
theorem clone_list (s : List UInt8) (w : World) (h : s.length ≤ 1000000) : Calls Tryz.prog 233 #[.string ⟨s.toArray⟩] w fun e w' => e = .returned (.string ⟨s.toArray⟩) ∧ Below w.heap.size w w' := by
  have HC := hide (Tryz.stringslite_Clone ⟨s.toArray⟩ w (by show s.toArray.size ≤ _; rw [List.size_toArray]; omega))
  go_enter Tryz.func233, Tryz.ntmps233
  go_wp2_with fail
  refine HC.out.mono ?_
  rintro e w1 ⟨rfl, hb⟩
  have HB := hide hb
  clear hb HC
  go_wp2_with fail
  go_ret
  exact ⟨rfl, HB.out⟩
/-- the world where SplitSeq's three boxes are laid -/
def boxed3 (w : World) (s : List UInt8) (c : UInt8) : World := ((w.alloc (.cells #[.string ⟨s.toArray⟩] 9)).alloc (.cells #[.string ⟨#[c]⟩] 9)).alloc (.cells #[.int .i64 0] 3)
theorem boxed3_size (w : World) (s : List UInt8) (c : UInt8) : (boxed3 w s c).heap.size = w.heap.size + 3 := by simp [boxed3]
theorem boxed3_below (w : World) (s : List UInt8) (c : UInt8) : Below w.heap.size w (boxed3 w s c) := (((Below.refl _ w).alloc (Nat.le_refl _) _).alloc (by simp) _).alloc (by simp; omega) _
theorem boxed3_at (w : World) (s : List UInt8) (c : UInt8) : (boxed3 w s c).heap[w.heap.size]? = some (.cells #[.string ⟨s.toArray⟩] 9 (0, 0)) ∧ (boxed3 w s c).heap[w.heap.size + 1]? = some (.cells #[.string ⟨#[c]⟩] 9 (0, 0)) ∧ (boxed3 w s c).heap[w.heap.size + 2]? = some (.cells #[.int .i64 0] 3 (0, 0)) := by
  unfold boxed3
  refine ⟨?_, ?_, ?_⟩
  · rw [Below.heap_alloc _ _ _ (by simp; omega), Below.heap_alloc _ _ _ (by simp)]; exact heap_alloc_new w _
  · rw [Below.heap_alloc _ _ _ (by simp)]
    have := heap_alloc_new (w.alloc (.cells #[.string ⟨s.toArray⟩] 9)) (.cells #[.string ⟨#[c]⟩] 9)
    rwa [World.size_alloc] at this
  · have := heap_alloc_new ((w.alloc (.cells #[.string ⟨s.toArray⟩] 9)).alloc (.cells #[.string ⟨#[c]⟩] 9)) (.cells #[.int .i64 0] 3)
    rwa [World.size_alloc, World.size_alloc] at this
theorem SplitSeq_any (s : List UInt8) (c : UInt8) (w : World) :
    Calls Tryz.prog 151 #[.string ⟨s.toArray⟩, .string ⟨#[c]⟩] w fun e w' => e = .returned (.func (.func 229) #[] #[.pointer (some ⟨w.heap.size + 1, 0, none⟩), .pointer (some ⟨w.heap.size, 0, none⟩), .pointer (some ⟨w.heap.size + 2, 0, none⟩)]) ∧ w' = boxed3 w s c := by
  have hmf : ∀ (fn : Fn) (first cap : Array Value) (w : World), (Instr.makeFunc fn first cap).run Tryz.prog w = .ok (.func fn first cap) w := fun _ _ _ _ => rfl
  have HI : Hid (Calls Tryz.prog 179 #[.string ⟨s.toArray⟩, .string ⟨#[c]⟩, .int .i64 0] w fun e w' => e = .returned (.func (.func 229) #[] #[.pointer (some ⟨w.heap.size + 1, 0, none⟩), .pointer (some ⟨w.heap.size, 0, none⟩), .pointer (some ⟨w.heap.size + 2, 0, none⟩)]) ∧ w' = boxed3 w s c) := by
    show Calls _ _ _ _ _
    go_enter Tryz.func179, Tryz.ntmps179
    go_wp2_with fail
    go_ret
    exact ⟨rfl, rfl⟩
  go_enter Tryz.func151, Tryz.ntmps151
  go_wp2_with fail
  refine HI.out.mono ?_
  rintro e w1 ⟨rfl, rfl⟩
  clear HI
  go_wp2_with fail
  go_ret
  exact ⟨rfl, rfl⟩
/-- an append within a region, by what it comes to -/
theorem wpIn_append_run {F : Fence} {n : Nat} {P : Program} {o : Oper} {a : Act} {w w' : World} {v' : Value} {K : Act → World → Prop} {Q : Exit → Act → World → Prop} (s x : Operand) (t : TypeId) (ho : o.op = .call { callee := .builtin .append, args := #[s, x], argTypes := #[t, t] })
    (hr : (Builtin.append_ #[t, t] o.type #[a.eval s, a.eval x]).run P w = .ok v' w') (hK : K (a.put o.dst v') w') : Oper.wpIn F n P o a w K Q := by
  unfold Oper.wpIn
  refine ⟨by simp [Oper.about, ho, resolve, Target.leads, Sem.run_pure], ?_⟩
  rw [Oper.semAt_plain F _ _ (by rw [ho]; intro c hc; cases hc)]
  simp [execOp, ho, resolve, invoke, builtin, hr, Result.andThen]
  exact hK
/-- in block p lies a slice of strings, its row in block q or behind it; all below p stands as in w0 -/
def Gat (p q : Nat) (w0 : World) (ns : List (List UInt8)) (W : World) : Prop :=
  (∃ v, W.heap[p]? = some (.cells #[v] 65 (0, 0)) ∧ W.ownsRow q 9 1 v ns.length (ns.map strV)) ∧ Below p w0 W
theorem Gat.turn {p q : Nat} {w0 : World} {ns : List (List UInt8)} {A B : World} {row : Option Nat} (h : Gat p q w0 ns A) (hg : A.grownBy B row) (hr : ∀ r, row = some r → p < r ∧ r < q) : Gat p q w0 ns B := by
  obtain ⟨⟨v, h1, h2⟩, h3⟩ := h
  have hlt : p < A.heap.size := (Array.getElem?_eq_some_iff.1 h1).1
  refine ⟨⟨v, (hg.block _ hlt (fun e => by have := (hr _ e.symm).1; omega)).trans h1, h2.kept hg ?_⟩, h3.grown hg (by omega) (fun k hk => by have := (hr k hk).1; omega)⟩
  cases hv : v.ownBlock with
  | none => exact .inl rfl
  | some k => right; intro e; have := (h2.lt k hv).1; have := (hr k e.symm).2; omega
/-- one string more: what the append comes to, and what stands behind the store -/
theorem Gat.put {p q : Nat} {w0 : World} {ns : List (List UInt8)} {W wc : World} {v : Value} {y : List UInt8} (hv : W.heap[p]? = some (.cells #[v] 65 (0, 0))) (ho : W.ownsRow q 9 1 v ns.length (ns.map strV)) (hb : Below p w0 W) (hpq : p < q) (hq : q ≤ W.heap.size) (hc : Below W.heap.size W wc) (hn : ns.length ≤ 1000000) :
    ∃ (g cap : Nat) (wA : World), (Builtin.append_ #[65, 65] 65 #[v, .slice (some ⟨wc.heap.size, 0, none⟩) 1 1]).run Tryz.prog (wc.alloc (.cells #[.string ⟨y.toArray⟩] 9)) = .ok (.slice (some ⟨g, 0, none⟩) (ns.length + 1) cap) wA ∧
      wA.cell? ⟨p, 0, none⟩ = some v ∧ wA.frozen? ⟨p, 0, none⟩ = false ∧ Gat p q w0 (ns ++ [y]) (wA.setCell ⟨p, 0, none⟩ (.slice (some ⟨g, 0, none⟩) (ns.length + 1) cap)) ∧
      ∀ Y : Nat → Prop, (∀ k, Y k → p < k ∧ k < q) → KeepX Y W (wA.setCell ⟨p, 0, none⟩ (.slice (some ⟨g, 0, none⟩) (ns.length + 1) cap)) := by
  obtain ⟨i0, hi0, hz0, hz1, hz2⟩ := info_parts Tryz.infoStr
  have hplt : p < W.heap.size := (Array.getElem?_eq_some_iff.1 hv).1
  have hoc : wc.ownsRow q 9 1 v ns.length (ns.map strV) := ho.kept (row := none) ⟨hc.os, hc.tape, hc.output, hc.size, fun k hk _ => hc.block k hk⟩ (by cases v.ownBlock <;> simp)
  have hlt : ∀ k, v.ownBlock = some k → q ≤ k ∧ k < W.heap.size := fun k hk => ho.lt k hk
  obtain ⟨v', wA, hr, hown, hg, _⟩ := run_append_own (P := Tryz.prog) (w := wc.alloc (.cells #[.string ⟨y.toArray⟩] 9)) q 65 65 9 i0 (.string ⟨#[]⟩) 1 16 Tryz.underlying65 hi0 hz0 hz1 hz2 rfl (by decide) v ns.length (ns.map strV) (hoc.alloc _) ⟨wc.heap.size, 0, none⟩ 1 1 [.string ⟨y.toArray⟩] rfl (cell_one_new _ _ _) (fun z hz => by simp at hz; subst hz; rfl) (by unfold maxLen; omega) (by omega) (by have := hc.size; simp; omega)
  obtain ⟨g, cap, rfl⟩ : ∃ g cap, v' = .slice (some ⟨g, 0, none⟩) (ns.length + 1) cap := by
    rcases hown.2 with ⟨_, h0⟩ | ⟨g, cap, cur, hv, _⟩
    · omega
    · exact ⟨g, cap, hv⟩
  have hcs := hc.size
  have hgq : q ≤ g := (hown.lt g rfl).1
  have hblk : ∀ k, k < W.heap.size → (∀ j, v.ownBlock = some j → k ≠ j) → wA.heap[k]? = W.heap[k]? := by
    intro k hk hne
    rw [hg.block k (by simp; omega) (fun e => hne k e.symm rfl), Below.heap_alloc _ _ _ (by omega)]
    exact hc.block k hk
  have hp : wA.heap[p]? = some (.cells #[v] 65 (0, 0)) := (hblk p hplt (fun j hj => by have := (hlt j hj).1; omega)).trans hv
  refine ⟨g, cap, wA, hr, by rw [Lib.cell_of_heap hp]; rfl, Lib.frozen_of_heap hp 0, ⟨⟨.slice (some ⟨g, 0, none⟩) (ns.length + 1) cap, ?_, ?_⟩, ?_⟩, ?_⟩
  · simp [World.setCell, Array.getElem?_modify, hp]
  · have e1 : (ns ++ [y]).length = ns.length + 1 := by simp
    have e2 : (ns ++ [y]).map strV = ns.map strV ++ [strV y] := by simp
    rw [e1, e2]
    exact hown.kept (row := some p) ⟨rfl, rfl, rfl, by simp [World.setCell], fun k _ hk => Below.heap_setCell _ _ _ _ (fun e => hk (by simp [e]))⟩ (.inr (by intro e; simp only [Value.ownBlock, Option.some.injEq] at e; omega))
  · refine ⟨?_, ?_, ?_, ?_, ?_⟩
    · exact (hg.os.trans (hc.os.trans hb.os) : _)
    · exact (hg.tape.trans (hc.tape.trans hb.tape) : _)
    · exact (hg.output.trans (hc.output.trans hb.output) : _)
    · have := hg.size; have := hb.size; simp [World.setCell] at *; omega
    · intro k hk
      rw [Below.heap_setCell _ _ _ _ (fun e => by simp at e; omega), hblk k (by omega) (fun j hj => by have := (hlt j hj).1; omega)]
      exact hb.block k hk
  · intro Y hY
    refine ⟨?_, fun k hk => ?_⟩
    · have := hg.size; simp [World.setCell] at *; omega
    · have h1 := hY k hk
      rw [Below.heap_setCell _ _ _ _ (fun e => by simp at e; omega)]
      exact hblk k (by omega) (fun j hj => by have := (hlt j hj).1; omega)
theorem strs_of_row {W : World} {q : Nat} {v : Value} {ns : List (List UInt8)} (h : W.ownsRow q 9 1 v ns.length (ns.map strV)) (hn : ns.length ≤ 1000000) : Strs W v (ns.map toBA) := by
  rcases h.2 with ⟨rfl, h0⟩ | ⟨g, cap, cur, rfl, _, hcur, hcap, _, hsz, htk⟩
  · exact .inl ⟨by rw [List.length_eq_zero_iff.1 h0]; rfl, _, _, rfl⟩
  · refine .inr ⟨g, 0, cap, by simp, by simpa using hcap, by simpa using hn, ?_⟩
    intro k s hk
    rw [List.getElem?_map] at hk
    cases hnk : ns[k]? with
    | none => rw [hnk] at hk; simp at hk
    | some y =>
      rw [hnk] at hk
      simp only [Option.map_some, Option.some.injEq] at hk
      have hkl : k < ns.length := (List.getElem?_eq_some_iff.1 hnk).1
      have h1 : (ns.map strV)[k]? = some (strV y) := by rw [List.getElem?_map, hnk]; rfl
      rw [← htk, List.getElem?_take_of_lt (by omega)] at h1
      rw [Nat.zero_add, Lib.cell_of_heap hcur, ← Array.getElem?_toList, h1, ← hk]
      rfl
/-- the words among some pieces -/
def wordsOf {M : Nat} (l : List (Piece M)) : List (List UInt8) := (l.map (·.1)).filter fun a => !a.isEmpty
theorem wordsOf_snoc {M : Nat} (l : List (Piece M)) (x : Piece M) : wordsOf (l ++ [x]) = wordsOf l ++ (if x.1 = [] then [] else [x.1]) := by
  unfold wordsOf
  rw [List.map_append, List.filter_append]
  congr 1
  by_cases h : x.1 = []
  · simp [h]
  · have : (!x.1.isEmpty) = true := by simpa using h
    simp [h]
theorem wordsOf_le {M : Nat} (l : List (Piece M)) : (wordsOf l).length ≤ l.length := Nat.le_trans (List.length_filter_le _ _) (by simp)
set_option maxHeartbeats 2000000 in
set_option maxRecDepth 100000 in
theorem words_any (s : List UInt8) (w : World) (hs : s.length ≤ 20000) :
    Calls Tryz.prog 189 #[.string ⟨s.toArray⟩] w fun e w' => ∃ sv, e = .returned sv ∧ Strs w' sv ((Ld.words s).map toBA) ∧ Below w.heap.size w w' := by
  have HSS := hide (SplitSeq_any s 32)
  obtain ⟨i0, hi0, hz0, hz1, hz2⟩ := info_parts Tryz.infoStr
  refine callsIn_wide.1 (callsIn_of_wp_marks (n := 0) Tryz.func189 rfl trivial ?_ rfl)
  simp only [Tryz.ntmps189, List.size_toArray, List.length_cons, List.length_nil, Nat.reduceAdd, Nat.reduceSub, Array.replicate_succ, Array.replicate_zero, List.push_toArray, List.append_toArray, List.nil_append, List.cons_append]
  gi_wp2_with fail
  refine ⟨trivial, rfl, ?_⟩
  refine (callsIn_wide.2 (HSS.out _)).mono ?_
  rintro e w1 ⟨rfl, hw1⟩
  have hw1' : w1 = boxed3 (w.alloc (.cells #[.slice none 0 0] 65)) s 32 := hw1
  have hat := boxed3_at (w.alloc (.cells #[.slice none 0 0] 65)) s 32
  have hsz := boxed3_size (w.alloc (.cells #[.slice none 0 0] 65)) s 32
  have hbl := boxed3_below (w.alloc (.cells #[.slice none 0 0] 65)) s 32
  rw [← hw1'] at hat hsz hbl
  rw [World.size_alloc] at hat hsz hbl
  have hnew : w1.heap[w.heap.size]? = some (.cells #[.slice none 0 0] 65 (0, 0)) := (hbl.block _ (by simp)).trans (heap_alloc_new w _)
  have hbw : Below w.heap.size w w1 := ((Below.refl _ w).alloc (Nat.le_refl _) _).trans (hbl.mono (by simp))
  have hseq := splitSeq1_seq 32 s (w.heap.size + 1) (w.heap.size + 1 + 1) (w.heap.size + 1 + 2) 20000 w1 hs (by omega) hat.1 hat.2.1 hat.2.2 (by omega) (by omega)
  clear hw1 hw1' hat hbl
  gi_wp2_with fail
  refine range_law (α := Piece 20000) (gf := 229) (lb := #[.pointer (some ⟨w.heap.size + 1 + 1, 0, none⟩), .pointer (some ⟨w.heap.size + 1, 0, none⟩), .pointer (some ⟨w.heap.size + 1 + 2, 0, none⟩)]) rfl (fun _ _ => by kernel_rfl) hseq (fun k hk => by omega) (fun _ => rfl)
    (fun pre W => Gat w.heap.size (w.heap.size + 6) w (wordsOf pre) W) (fun _ _ => False)
    (fun s A B row h hg hr => h.turn hg (fun r e => by have := hr r e; unfold TurnX at this; omega)) (fun _ _ _ _ h _ _ => h)
    ⟨⟨_, hnew, World.ownsRow_nil _ _ _ _⟩, hbw⟩
    (fun x => { tmps := #[.string ⟨s.toArray⟩, undef, .slice none 0 0, .pointer (some ⟨w.heap.size, 0, none⟩), .string ⟨x.1.toArray⟩, .string ⟨s.toArray⟩, .func (.func 229) #[] #[.pointer (some ⟨w.heap.size + 1 + 1, 0, none⟩), .pointer (some ⟨w.heap.size + 1, 0, none⟩), .pointer (some ⟨w.heap.size + 1 + 2, 0, none⟩)], .string ⟨x.1.toArray⟩, undef, undef, undef, undef, undef, undef, undef, undef], defers := [] }) ?assign ?body ?done ?stop
  case assign =>
    intro l x W K hK
    gi_wp2
    exact hK
  case body =>
    rintro l pre x W hszW ⟨⟨v, hv, ho⟩, hb⟩ hlen
    obtain ⟨y, hy⟩ := x
    have hbt := bytes_list y
    have hbe : (⟨#[]⟩ : ByteArray).toList = [] := by rw [ByteArray.toList_eq]
    by_cases h0 : y = []
    · subst h0
      gi_wp2_with fail
      exact ⟨⟨Nat.le_refl _, fun _ _ => rfl⟩, by show Gat _ _ _ (wordsOf _) _; rw [wordsOf_snoc]; simp only [if_true, List.append_nil]; exact ⟨⟨v, hv, ho⟩, hb⟩⟩
    · have hyb : (y != []) = true := by simpa using h0
      have HV := hide hv
      have HO := hide ho
      have HB := hide hb
      have hlt : w.heap.size < W.heap.size := (Array.getElem?_eq_some_iff.1 hv).1
      have c0 : W.cell? ⟨w.heap.size, 0, none⟩ = some v := by rw [Lib.cell_of_heap hv]; rfl
      obtain ⟨a, n, cc, hvs⟩ : ∃ a n c, v = .slice a n c := by
        rcases ho.2 with ⟨hv, _⟩ | ⟨g, cap, cur, hv, _⟩
        · exact ⟨_, _, _, hv⟩
        · exact ⟨_, _, _, hv⟩
      subst hvs
      have HCL := hide (fun W => clone_list y W (by omega))
      have hyE : y.isEmpty = false := by simpa using h0
      have HNE := hide h0
      have hmx : Tryz.prog.follows .mixedOrders = true := by kernel_rfl
      have hszW2 : w.heap.size + 6 ≤ W.heap.size := by omega
      have HNL := hide (wordsOf_le pre)
      have HAP : Hid (∀ wc, Below W.heap.size W wc → _) := fun wc hbc => Gat.put (y := y) HV.out HO.out HB.out (by omega) hszW2 hbc (by have := HNL.out; omega)
      clear hv ho hb h0
      gi_wp2_with fail
      refine wpIn_region_any hmx ?_
      change wpAnyIn _ _ _ _ _ _ _ _ _ (World.drew _)
      refine wpAnyIn_ready (rs := [0, 1]) (by kernel_rfl) (by simp) ?_
      refine AllReadyIn.cons rfl (fun K hK => ?_) (AllReadyIn.cons rfl (fun K hK => ?_) AllReadyIn.nil)
      · go_simp
        refine hK _ _ ?_
        clear hK K
        refine wpAnyIn_ready (rs := [1]) (by kernel_rfl) (by simp) ?_
        refine AllReadyIn.cons rfl (fun K hK => ?_) AllReadyIn.nil
        go_simp
        refine hK _ _ ?_
        clear hK K
        refine wpAnyIn_ready (rs := [2]) (by kernel_rfl) (by simp) ?_
        refine AllReadyIn.cons rfl (fun K hK => ?_) AllReadyIn.nil
        go_simp
        refine ⟨trivial, rfl, ?_⟩
        refine (CallsIn.inRound l (callsIn_wide.2 (HCL.out _))).mono ?_
        rintro e wc ⟨rfl, hbc⟩
        have hbc2 : Below W.heap.size W wc := ⟨hbc.os, hbc.tape, hbc.output, hbc.size, hbc.block⟩
        have cC : wc.cell? ⟨w.heap.size, 0, none⟩ = some (.slice a n cc) := (hbc2.cell (p := ⟨w.heap.size, 0, none⟩) hlt).trans c0
        have hltc : w.heap.size < wc.heap.size := Nat.lt_of_lt_of_le hlt hbc2.size
        obtain ⟨g, cap, wA, hrun, hcA, hfA, hGA, hKA⟩ := HAP.out wc hbc2
        have HGA := hide hGA
        have HKA := hide hKA
        clear hGA hKA hbc hbc2
        refine hK _ _ ?_
        clear hK K
        refine wpAnyIn_ready (rs := [3]) (by kernel_rfl) (by simp) ?_
        refine AllReadyIn.cons rfl (fun K hK => ?_) AllReadyIn.nil
        go_simp
        refine hK _ _ ?_
        clear hK K
        refine wpAnyIn_ready (rs := [4]) (by kernel_rfl) (by simp) ?_
        refine AllReadyIn.cons rfl (fun K hK => ?_) AllReadyIn.nil
        rw [if_pos (by rfl)]
        refine wpIn_append_run (.tmp 10) (.tmp 13) 65 rfl hrun ?_
        refine hK _ _ ?_
        clear hK K
        refine wpAnyIn_ready (rs := [5]) (by kernel_rfl) (by simp) ?_
        refine AllReadyIn.cons rfl (fun K hK => ?_) AllReadyIn.nil
        go_simp
        refine hK _ _ ?_
        clear hK K
        refine wpAnyIn_done (by kernel_rfl) ?_ _
        gi_wp2_with fail
        exact ⟨HKA.out _ (fun k hk => by unfold TurnX at hk; omega), by show Gat _ _ _ (wordsOf _) _; rw [wordsOf_snoc, if_neg HNE.out]; exact HGA.out⟩
      · go_simp
        refine hK _ _ ?_
        clear hK K
        refine wpAnyIn_ready (rs := [0, 2]) (by kernel_rfl) (by simp) ?_
        refine AllReadyIn.cons rfl (fun K hK => ?_) (AllReadyIn.cons rfl (fun K hK => ?_) AllReadyIn.nil)
        · go_simp
          refine hK _ _ ?_
          clear hK K
          refine wpAnyIn_ready (rs := [2]) (by kernel_rfl) (by simp) ?_
          refine AllReadyIn.cons rfl (fun K hK => ?_) AllReadyIn.nil
          go_simp
          refine ⟨trivial, rfl, ?_⟩
          refine (CallsIn.inRound l (callsIn_wide.2 (HCL.out _))).mono ?_
          rintro e wc ⟨rfl, hbc⟩
          have hbc2 : Below W.heap.size W wc := ⟨hbc.os, hbc.tape, hbc.output, hbc.size, hbc.block⟩
          have cC : wc.cell? ⟨w.heap.size, 0, none⟩ = some (.slice a n cc) := (hbc2.cell (p := ⟨w.heap.size, 0, none⟩) hlt).trans c0
          have hltc : w.heap.size < wc.heap.size := Nat.lt_of_lt_of_le hlt hbc2.size
          obtain ⟨g, cap, wA, hrun, hcA, hfA, hGA, hKA⟩ := HAP.out wc hbc2
          have HGA := hide hGA
          have HKA := hide hKA
          clear hGA hKA hbc hbc2
          refine hK _ _ ?_
          clear hK K
          refine wpAnyIn_ready (rs := [3]) (by kernel_rfl) (by simp) ?_
          refine AllReadyIn.cons rfl (fun K hK => ?_) AllReadyIn.nil
          go_simp
          refine hK _ _ ?_
          clear hK K
          refine wpAnyIn_ready (rs := [4]) (by kernel_rfl) (by simp) ?_
          refine AllReadyIn.cons rfl (fun K hK => ?_) AllReadyIn.nil
          rw [if_pos (by rfl)]
          refine wpIn_append_run (.tmp 10) (.tmp 13) 65 rfl hrun ?_
          refine hK _ _ ?_
          clear hK K
          refine wpAnyIn_ready (rs := [5]) (by kernel_rfl) (by simp) ?_
          refine AllReadyIn.cons rfl (fun K hK => ?_) AllReadyIn.nil
          go_simp
          refine hK _ _ ?_
          clear hK K
          refine wpAnyIn_done (by kernel_rfl) ?_ _
          gi_wp2_with fail
          exact ⟨HKA.out _ (fun k hk => by unfold TurnX at hk; omega), by show Gat _ _ _ (wordsOf _) _; rw [wordsOf_snoc, if_neg HNE.out]; exact HGA.out⟩
        · go_simp
          refine ⟨trivial, rfl, ?_⟩
          refine (CallsIn.inRound l (callsIn_wide.2 (HCL.out _))).mono ?_
          rintro e wc ⟨rfl, hbc⟩
          have hbc2 : Below W.heap.size W wc := ⟨hbc.os, hbc.tape, hbc.output, hbc.size, hbc.block⟩
          have cC : wc.cell? ⟨w.heap.size, 0, none⟩ = some (.slice a n cc) := (hbc2.cell (p := ⟨w.heap.size, 0, none⟩) hlt).trans c0
          have hltc : w.heap.size < wc.heap.size := Nat.lt_of_lt_of_le hlt hbc2.size
          obtain ⟨g, cap, wA, hrun, hcA, hfA, hGA, hKA⟩ := HAP.out wc hbc2
          have HGA := hide hGA
          have HKA := hide hKA
          clear hGA hKA hbc hbc2
          refine hK _ _ ?_
          clear hK K
          refine wpAnyIn_ready (rs := [0, 3]) (by kernel_rfl) (by simp) ?_
          refine AllReadyIn.cons rfl (fun K hK => ?_) (AllReadyIn.cons rfl (fun K hK => ?_) AllReadyIn.nil)
          · go_simp
            refine hK _ _ ?_
            clear hK K
            refine wpAnyIn_ready (rs := [3]) (by kernel_rfl) (by simp) ?_
            refine AllReadyIn.cons rfl (fun K hK => ?_) AllReadyIn.nil
            go_simp
            refine hK _ _ ?_
            clear hK K
            refine wpAnyIn_ready (rs := [4]) (by kernel_rfl) (by simp) ?_
            refine AllReadyIn.cons rfl (fun K hK => ?_) AllReadyIn.nil
            rw [if_pos (by rfl)]
            refine wpIn_append_run (.tmp 10) (.tmp 13) 65 rfl hrun ?_
            refine hK _ _ ?_
            clear hK K
            refine wpAnyIn_ready (rs := [5]) (by kernel_rfl) (by simp) ?_
            refine AllReadyIn.cons rfl (fun K hK => ?_) AllReadyIn.nil
            go_simp
            refine hK _ _ ?_
            clear hK K
            refine wpAnyIn_done (by kernel_rfl) ?_ _
            gi_wp2_with fail
            exact ⟨HKA.out _ (fun k hk => by unfold TurnX at hk; omega), by show Gat _ _ _ (wordsOf _) _; rw [wordsOf_snoc, if_neg HNE.out]; exact HGA.out⟩
          · go_simp
            refine hK _ _ ?_
            clear hK K
            refine wpAnyIn_ready (rs := [0]) (by kernel_rfl) (by simp) ?_
            refine AllReadyIn.cons rfl (fun K hK => ?_) AllReadyIn.nil
            go_simp
            refine hK _ _ ?_
            clear hK K
            refine wpAnyIn_ready (rs := [4]) (by kernel_rfl) (by simp) ?_
            refine AllReadyIn.cons rfl (fun K hK => ?_) AllReadyIn.nil
            rw [if_pos (by rfl)]
            refine wpIn_append_run (.tmp 10) (.tmp 13) 65 rfl hrun ?_
            refine hK _ _ ?_
            clear hK K
            refine wpAnyIn_ready (rs := [5]) (by kernel_rfl) (by simp) ?_
            refine AllReadyIn.cons rfl (fun K hK => ?_) AllReadyIn.nil
            go_simp
            refine hK _ _ ?_
            clear hK K
            refine wpAnyIn_done (by kernel_rfl) ?_ _
            gi_wp2_with fail
            exact ⟨HKA.out _ (fun k hk => by unfold TurnX at hk; omega), by show Gat _ _ _ (wordsOf _) _; rw [wordsOf_snoc, if_neg HNE.out]; exact HGA.out⟩
  case done =>
    rintro xs W hS ⟨⟨v, hv, ho⟩, hb⟩ hD
    have HD := hide hD
    have HE : Hid (wordsOf xs = Ld.words s) := by show _ = _; unfold wordsOf Ld.words; rw [hS]
    have HB := hide hb
    have HO := hide ho
    have c0 : W.cell? ⟨w.heap.size, 0, none⟩ = some v := by rw [Lib.cell_of_heap hv]; rfl
    have hlenx : xs.length ≤ 20001 := by
      have h1 := congrArg List.length hS
      have h2 := Ld.split_len 32 s
      rw [List.length_map] at h1
      omega
    obtain ⟨a, n, cc, hvs⟩ : ∃ a n c, v = .slice a n c := by
      rcases ho.2 with ⟨hv, _⟩ | ⟨g, cap, cur, hv, _⟩
      · exact ⟨_, _, _, hv⟩
      · exact ⟨_, _, _, hv⟩
    subst hvs
    clear hv ho hb hD hS
    gi_wp2_with fail
    refine ⟨by simp, .inl ⟨_, _, rfl, run_takeDeferred HD.out, ?_⟩⟩
    have hg := grownBy_putObj' W w1.heap.size (.deferred none)
    refine ⟨_, results_tmp rfl _ _ _, _, rfl, ?_, HB.out.grown hg (by have := (Array.getElem?_eq_some_iff.1 HD.out).1; omega) (fun k hk => by cases hk; omega)⟩
    rw [← HE.out]
    refine strs_of_row (HO.out.kept hg (by cases hvb : Value.ownBlock (.slice a n cc) with | none => exact .inl rfl | some k => right; intro e; have := (HO.out.lt k hvb).1; simp only [Option.some.injEq] at e; omega)) (Nat.le_trans (wordsOf_le xs) (by omega))
  case stop =>
    rintro pre W _ h _
    exact h.elim
end Go.Proofs.YtgldbliohpfljaaGreatDoor
