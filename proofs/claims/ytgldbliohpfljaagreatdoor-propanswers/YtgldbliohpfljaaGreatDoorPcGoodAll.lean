/-
  The walks of package prop's Good where there is no machine, or no expression; what Good told, in memory. A map whatever its keys and elements are: what is found in it, and how it grows; keys of two numbers. The document's keys of a state and a number. Package induct in plain words: what fails behind k good scans in a row, and what is told of it. What the document's Induct remembers: a map from a state and a number to whether it fails there. The walk of the closure in the document's Induct: does it fail at a state, behind so many good scans? The walk of the document's Good.
-/
import Derived.Test.YtgldbliohpfljaaGreatDoorPrGoodAll
import Derived.Test.YtgldbliohpfljaaGreatDoorRcLeastAll
import Derived.Test.YtgldbliohpfljaaGreatDoorPrSearchAll
import Derived.Test.YtgldbliohpfljaaGreatDoorRfPathXAll
import Derived.Test.YtgldbliohpfljaaGreatDoorRwEvalAll
import Derived.Maps.OwnSet
import Derived.Maps.OwnOps
import Derived.Maps.Views
import Derived.DeepKeys4
import Derived.Test.YtgldbliohpfljaaGreatDoorNaEdgesAll
import Derived.Test.YtgldbliohpfljaaGreatDoorRfStep
import Derived.Test.YtgldbliohpfljaaGreatDoorRfMachOfAll
import Derived.Deep.RegionHeld3
namespace Go.Proofs.YtgldbliohpfljaaGreatDoor
section
open Go.RowKit
theorem ptrNilP (w : World) : (binOp BinOp.eql 22 (.pointer none) (.pointer none)).run Tryz.prog w = .ok (.bool true) w := by kernel_rfl
set_option maxHeartbeats 2000000 in
set_option maxRecDepth 100000 in
theorem PGood_nilM (v : Value) (w : World) : Calls Tryz.prog 10 #[.pointer none, v] w fun e w' => e = .returned (.tuple #[.slice none 0 0, .iface 40 (.int .i64 7)]) ∧ Below w.heap.size w w' := by
  have pn := ptrNilP
  go_enter Tryz.func10, Tryz.ntmps10
  go_wp2_with fail
  refine bodyPost_ret (results_tmp2 rfl _ _ _) rfl ?_
  exact ⟨rfl, Below.refl _ _⟩
set_option maxHeartbeats 2000000 in
set_option maxRecDepth 100000 in
theorem PGood_nilE (bm : Nat) (w : World) : Calls Tryz.prog 10 #[.pointer (some ⟨bm, 0, none⟩), .nilIface] w fun e w' => e = .returned (.tuple #[.slice none 0 0, .iface 40 (.int .i64 7)]) ∧ Below w.heap.size w w' := by
  have pn := fun w a => ptrNe w a
  go_enter Tryz.func10, Tryz.ntmps10
  go_wp2_with fail
  refine bodyPost_ret (results_tmp2 rfl _ _ _) rfl ?_
  exact ⟨rfl, Below.refl _ _⟩
namespace Rf
theorem GT.goodAt {w W : World} {g S I : Nat} {us : List Nat} {row : Nat → List Bool} (h : GT w g S I us row W) (hus : us.length = S) : GoodAt W (.slice (some ⟨g, 0, none⟩) S S) S I row := by
  refine ⟨g, S, rfl, Nat.le_refl _, fun s hs => ?_⟩
  obtain ⟨b, hb⟩ : ∃ b, us[s]? = some b := ⟨_, List.getElem?_eq_getElem (by omega)⟩
  obtain ⟨hr, _⟩ := h.rows _ b hb
  have hl := h.len s (by omega)
  have r0 := h.top.cell s (.slice (some ⟨b, 0, none⟩) I I) (by rw [List.getElem?_append_left (by simp; omega), List.getElem?_map, hb]; rfl)
  refine ⟨b, I, r0, Nat.le_refl _, fun i hi => ?_⟩
  exact hr.cell i _ (show (row s)[i]? = some ((row s).getD i false) by rw [List.getD_eq_getElem?_getD, List.getElem?_eq_getElem (by omega)]; rfl)
/-- a row of it -/
theorem row_bools {W : World} {a d I : Nat} {l : List Bool} (hl : l.length = I) (hI : I ≤ 1000000) (h : ∀ i, i < I → W.cell? ⟨a, i, none⟩ = some (.bool (l.getD i false))) : Bools W (.slice (some ⟨a, 0, none⟩) I d) l := by
  refine ⟨some ⟨a, 0, none⟩, d, by rw [hl], by rw [hl]; exact hI, fun i b hb => ⟨a, rfl, ?_⟩⟩
  obtain ⟨hi, hb2⟩ := List.getElem?_eq_some_iff.1 hb
  rw [h i (by omega)]
  simp [hi, hb2]
theorem own_rowN {W : World} {q n c g : Nat} {p : List Nat} (h : W.ownsRow q 3 1 (.slice (some ⟨g, 0, none⟩) n c) n (p.map natV)) (hn : 0 < n) : n ≤ c ∧ ∀ (k x : Nat), p[k]? = some x → W.cell? ⟨g, k, none⟩ = some (.int .i64 (x : Int)) := by
  obtain ⟨b, c', e, _, h2, h3⟩ := own_row (p := p) h hn (by have := h.1; simpa using this)
  simp only [Value.slice.injEq, Option.some.injEq, Addr.mk.injEq, and_true, true_and] at e
  obtain ⟨rfl, rfl⟩ := e
  exact ⟨h2, h3⟩
end Rf
end
section
open Go.RowKit Go.Maps
namespace Dm
variable {kt mt et : TypeId} {K : Type} {val : K → Value} {lit : K → Lit} {ok : K → Prop}
/-- keys of a kind -/
structure Kind (kt : TypeId) (K : Type) (val : K → Value) (lit : K → Lit) (ok : K → Prop) : Prop where
  law : Keyed Tryz.prog kt
  key : ∀ k, ok k → keyOf Tryz.prog kt (val k) = some (lit k)
  inj : ∀ k j, val k = val j → k = j
theorem Kind.lit_inj (h : Kind kt K val lit ok) {k j : K} (hk : ok k) (hj : ok j) (e : lit k = lit j) : k = j := h.inj _ _ (h.law.inj (h.key k hk) ((h.key j hj).trans (congrArg some e.symm)))
/-- how an element reads: as itself -/
def rd (v : Value) : Option (DataW Value × List MemPlace) := some (.held v, [])
/-- a map tells at each key what f tells -/
def DM (kt : TypeId) (lit : K → Lit) (ok : K → Prop) (W : World) (b n : Nat) (f : K → Option Value) : Prop := ∃ D : DataW Value, W.ownsMap Tryz.prog kt rd b n D ∧ ∀ k, ok k → D.atKey (lit k) .nil = (match f k with | some x => .held x | none => .nil)
theorem DM.made (W : World) : DM kt lit ok (W.alloc (.map #[] 0)) W.heap.size 0 (fun _ => none) := ⟨_, World.ownsMap_made _ _ _ _, fun _ _ => rfl⟩
theorem DM.lt {W : World} {b n : Nat} {f : K → Option Value} (h : DM kt lit ok W b n f) : b < W.heap.size := by obtain ⟨_, h, _⟩ := h; exact h.lt
theorem DM.kept {W W' : World} {b n : Nat} {f : K → Option Value} (h : DM kt lit ok W b n f) (hb : W'.heap[b]? = W.heap[b]?) : DM kt lit ok W' b n f := by
  obtain ⟨D, ⟨es, clock, h1, h2⟩, h3⟩ := h
  exact ⟨D, ⟨es, clock, hb.trans h1, h2⟩, h3⟩
theorem DM.more {W : World} {b n m : Nat} {f : K → Option Value} (h : DM kt lit ok W b n f) (hn : n ≤ m) : DM kt lit ok W b m f := by
  obtain ⟨D, h1, h2⟩ := h
  exact ⟨D, h1.mono hn, h2⟩
def lookV (z : Value) (c : Bool) (x : Option Value) : Value := if c then .tuple #[x.getD z, .bool x.isSome] else x.getD z
theorem DM.look (hK : Kind kt K val lit ok) (hu : Tryz.prog.underlying mt = some (.map kt et)) {z : Value} (hz : ∀ w, (zeroValue et).run Tryz.prog w = .ok z w) {W : World} {b n : Nat} {f : K → Option Value} (h : DM kt lit ok W b n f) (c : Bool) (k : K) (hk : ok k) : (Instr.lookup mt (.map (some b)) (val k) c).run Tryz.prog W = .ok (lookV z c (f k)) W := by
  obtain ⟨D, ⟨es, clock, hb, F, _, rfl⟩, h3⟩ := h
  have h4 := h3 k hk
  rcases Maps.fit_look c hK.law hu (hz W) hb F (hK.key k hk) with ⟨hrun, _, hat⟩ | ⟨e0, y, _, _, hrun, hRv, hat, _⟩
  · rw [hat .nil] at h4
    cases hf : f k with
    | some x => rw [hf] at h4; cases h4
    | none =>
      rw [hrun]
      cases c <;> rfl
  · rw [hat .nil] at h4
    obtain rfl : y = (.held e0.val, []) := (Option.some.inj hRv).symm
    cases hf : f k with
    | none => rw [hf] at h4; cases h4
    | some x =>
      rw [hf] at h4
      have h5 : e0.val = x := DataW.held.inj h4
      rw [hrun, h5]
      cases c <;> rfl
open Classical in
theorem DM.put (hK : Kind kt K val lit ok) (hu : Tryz.prog.underlying mt = some (.map kt et)) {W : World} {b n : Nat} {f : K → Option Value} (h : DM kt lit ok W b n f) (hn : n ≤ 1000000) (k : K) (x : Value) (hk : ok k) : ∃ W', (Instr.mapUpdate mt (.map (some b)) (val k) x).run Tryz.prog W = .ok () W' ∧ DM kt lit ok W' b (n + 1) (fun q => if q = k then some x else f q) ∧ W.grownBy W' (some b) := by
  obtain ⟨D, ho, h3⟩ := h
  obtain ⟨W', hrun, ho', hg⟩ := ho.update hK.law hu (by unfold maxLen; omega) (hK.key k hk) (show rd x = some (.held x, []) from rfl)
  refine ⟨W', hrun, ⟨_, ho', fun q hq => ?_⟩, hg⟩
  by_cases e : q = k
  · subst e
    rw [atKey_put_same ho.isMap (hK.law.key (hK.key q hq))]
    dsimp only
    rw [if_pos rfl]
  · rw [atKey_put_other (fun h => e (hK.lit_inj hq hk h)), h3 q hq]
    dsimp only
    rw [if_neg e]
/-- two numbers -/
def prV (p : Int × Int) : Value := .agg #[.int .i64 p.1, .int .i64 p.2]
def prK (p : Int × Int) : Lit := .string (keyBytes [.int .i64 p.1, .int .i64 p.2])
def prOk (p : Int × Int) : Prop := (-100000 ≤ p.1 ∧ p.1 ≤ 100000) ∧ (-100000 ≤ p.2 ∧ p.2 ≤ 100000)
theorem prV_inj (p q : Int × Int) (h : prV p = prV q) : p = q := by
  have h1 := Value.agg.inj h
  have e1 := congrArg (fun a : Array Value => a[0]?) h1
  have e2 := congrArg (fun a : Array Value => a[1]?) h1
  simp at e1 e2
  exact Prod.ext e1 e2
theorem lits_int (m : Nat) (x : Int) (h : (Lit.int .i64 x).wf = true) : Tryz.prog.keyLits (m + 1) 3 [.int .i64 x] = some [.int .i64 x] := by
  unfold Program.keyLits
  simp only [Tryz.underlying3]
  rw [h]
  rfl
theorem wf_small {x : Int} (h1 : -100000 ≤ x) (h2 : x ≤ 100000) : (Lit.int .i64 x).wf = true := by simp [Lit.wf, IntKind.min, IntKind.max, IntKind.signed, IntKind.bits]; omega
end Dm
end
section
open Go.RowKit Go.Maps
namespace Dm
theorem key_Key (p : Int × Int) (h : prOk p) : keyOf Tryz.prog 139 (prV p) = some (prK p) := by
  have w1 : (Lit.int .i64 p.1).wf = true := wf_small h.1.1 h.1.2
  have w2 : (Lit.int .i64 p.2).wf = true := wf_small h.2.1 h.2.2
  obtain ⟨m, hm⟩ : ∃ m, Tryz.prog.types.size = m + 1 := ⟨Tryz.prog.types.size - 1, by kernel_rfl⟩
  have c1 : Tryz.prog.cellsOf 3 = 1 := by kernel_rfl
  have c2 : Tryz.prog.cellsOf 139 = 2 := by kernel_rfl
  have kt : Tryz.prog.keyType 139 = true := by kernel_rfl
  unfold keyOf
  simp only [Tryz.underlying139]
  rw [kt]
  have hf : (prV p).formed Tryz.prog 139 = true := by
    unfold prV Value.formed
    simp only [Tryz.underlying139, c2]
    rfl
  rw [hf, hm]
  have hl : Tryz.prog.keyLits (m + 1 + 1) 139 (prV p).cells.toList = some [.int .i64 p.1, .int .i64 p.2] := by
    have e1 := lits_int m _ w1
    have e2 := lits_int m _ w2
    unfold Program.keyLits
    simp only [Tryz.underlying139]
    rw [if_pos (by rw [c2]; exact ⟨rfl, by kernel_rfl⟩)]
    simp [prV, Value.cells, c1, e1, e2]
  rw [hl]
  rfl
theorem kindKey : Kind 139 (Int × Int) prV prK prOk := ⟨Keyed.of_law (deep_law_laid (m := 9) (by kernel_rfl) (by decide) (of_decide_eq_true (by kernel_rfl)) (by kernel_rfl) (by kernel_rfl)), key_Key, prV_inj⟩
end Dm
end
section
namespace In
/-- from a state, behind k good scans in a row, comes one that isn't -/
def fails (next : Nat → List Nat) (row : Nat → List Bool) : Nat → Nat → Bool
  | 0, s => (row s).contains false
  | k + 1, s => (List.range (row s).length).any fun i => (row s).getD i false && fails next row k ((next s).getD i 0)
/-- of each state -/
def failsL (next : Nat → List Nat) (row : Nat → List Bool) (S k : Nat) : List Bool := (List.range S).map (fails next row k)
theorem failsL_len (next : Nat → List Nat) (row : Nat → List Bool) (S k : Nat) : (failsL next row S k).length = S := by simp [failsL]
theorem failsL_at (next : Nat → List Nat) (row : Nat → List Bool) (S k s : Nat) (h : s < S) : (failsL next row S k)[s]? = some (fails next row k s) := by simp [failsL, h]
/-- does it fail anywhere? -/
def anyF (next : Nat → List Nat) (row : Nat → List Bool) (S k : Nat) : Bool := (failsL next row S k).contains true
/-- what is told: a code, and by how many; n are still to be tried -/
def run (no : Bool) (L : Nat) (any : Nat → Bool) : Nat → Nat → Nat × Nat
  | 0, k => (3, k - 1)
  | n + 1, k => if no && Decidable.decide (L ≤ k) then (2, k) else if any k then run no L any n (k + 1) else (1, k)
theorem run_code (no : Bool) (L : Nat) (any : Nat → Bool) : ∀ n k, (run no L any n k).1 = 1 ∨ (run no L any n k).1 = 2 ∨ (run no L any n k).1 = 3
  | 0, _ => .inr (.inr rfl)
  | n + 1, k => by
    unfold run
    split
    · exact .inr (.inl rfl)
    · split
      · exact run_code no L any n (k + 1)
      · exact .inl rfl
theorem run_range (no : Bool) (L : Nat) (any : Nat → Bool) : ∀ n k, 1 ≤ k → k - 1 ≤ (run no L any n k).2 ∧ (run no L any n k).2 ≤ k + n - 1
  | 0, k, h => by unfold run; simp
  | n + 1, k, h => by
    unfold run
    split
    · exact ⟨by show k - 1 ≤ k; omega, by show k ≤ k + (n + 1) - 1; omega⟩
    · split
      · have := run_range no L any n (k + 1) (by omega)
        omega
      · exact ⟨by show k - 1 ≤ k; omega, by show k ≤ k + (n + 1) - 1; omega⟩
/-- with one more to be tried nothing is told otherwise -/
theorem run_more (no : Bool) (L : Nat) (any : Nat → Bool) : ∀ n k, (run no L any n k).1 ≠ 3 → run no L any (n + 1) k = run no L any n k
  | 0, k, h => (h rfl).elim
  | n + 1, k, h => by
    rw [run]
    conv => rhs; rw [run]
    unfold run at h
    split
    · rfl
    · rename_i h1
      rw [if_neg h1] at h
      split
      · rename_i h2
        rw [if_pos h2] at h
        exact run_more no L any n (k + 1) h
      · rfl
/-- what is proved: nothing fails there, and it is not refuted there -/
theorem run_one (no : Bool) (L : Nat) (any : Nat → Bool) : ∀ n k, (run no L any n k).1 = 1 → any (run no L any n k).2 = false ∧ k ≤ (run no L any n k).2 ∧ (no = true → (run no L any n k).2 < L)
  | 0, _, h => by unfold run at h; simp at h
  | n + 1, k, h => by
    unfold run at h ⊢
    by_cases h1 : (no && Decidable.decide (L ≤ k)) = true
    · rw [if_pos h1] at h; simp at h
    · rw [if_neg h1] at h ⊢
      by_cases h2 : any k = true
      · rw [if_pos h2] at h ⊢
        obtain ⟨a, b, c⟩ := run_one no L any n (k + 1) h
        exact ⟨a, by omega, c⟩
      · rw [if_neg h2]
        refine ⟨by simpa using h2, Nat.le_refl _, fun hn => ?_⟩
        subst hn
        simp at h1
        exact h1
/-- what is refuted: by as many as there are -/
theorem run_two (no : Bool) (L : Nat) (any : Nat → Bool) : ∀ n k, k ≤ L → (run no L any n k).1 = 2 → no = true ∧ (run no L any n k).2 = L
  | 0, _, _, h => by unfold run at h; simp at h
  | n + 1, k, hk, h => by
    unfold run at h ⊢
    by_cases h1 : (no && Decidable.decide (L ≤ k)) = true
    · rw [if_pos h1]
      simp at h1
      exact ⟨h1.1, by omega⟩
    · rw [if_neg h1] at h ⊢
      by_cases h2 : any k = true
      · rw [if_pos h2] at h ⊢
        by_cases h3 : k < L
        · exact run_two no L any n (k + 1) h3 h
        · exfalso
          have e : no = false := by
            cases no
            · rfl
            · simp at h1; omega
          subst e
          have : ∀ n k, (run false L any n k).1 ≠ 2 := by
            intro n
            induction n with
            | zero => intro k h; unfold run at h; simp at h
            | succ n ih =>
              intro k h
              unfold run at h
              rw [if_neg (by simp)] at h
              split at h
              · exact ih _ h
              · simp at h
          exact this _ _ h
      · rw [if_neg h2] at h; simp at h
/-- what stays open: all were tried -/
theorem run_three (no : Bool) (L : Nat) (any : Nat → Bool) : ∀ n k, (run no L any n k).1 = 3 → (run no L any n k).2 = k + n - 1 ∧ (no = true → 0 < n → k + n - 1 < L)
  | 0, k, _ => by unfold run; simp
  | n + 1, k, h => by
    unfold run at h ⊢
    by_cases h1 : (no && Decidable.decide (L ≤ k)) = true
    · rw [if_pos h1] at h; simp at h
    · rw [if_neg h1] at h ⊢
      by_cases h2 : any k = true
      · rw [if_pos h2] at h ⊢
        obtain ⟨a, b⟩ := run_three no L any n (k + 1) h
        refine ⟨by omega, fun hn _ => ?_⟩
        cases n with
        | zero =>
          subst hn
          simp at h1
          omega
        | succ n => have := b hn (by omega); omega
      · rw [if_neg h2] at h; simp at h
theorem run_false (L : Nat) (any : Nat → Bool) : ∀ n k, (run false L any n k).1 ≠ 2 := by
  intro n
  induction n with
  | zero => intro k h; unfold run at h; simp at h
  | succ n ih =>
    intro k h
    unfold run at h
    rw [if_neg (by simp)] at h
    split at h
    · exact ih _ h
    · simp at h
theorem run_ref (L : Nat) (any : Nat → Bool) (n k : Nat) (hn : 1 ≤ n) (h : L ≤ k) : run true L any n k = (2, k) := by
  obtain ⟨m, rfl⟩ : ∃ m, n = m + 1 := ⟨n - 1, by omega⟩
  unfold run
  rw [if_pos (by simpa using h)]
theorem run_prv (no : Bool) (L : Nat) (any : Nat → Bool) (n k : Nat) (hn : 1 ≤ n) (h : no = true → ¬ L ≤ k) (ha : any k = false) : run no L any n k = (1, k) := by
  obtain ⟨m, rfl⟩ : ∃ m, n = m + 1 := ⟨n - 1, by omega⟩
  unfold run
  rw [if_neg (by simp only [Bool.and_eq_true, decide_eq_true_eq]; exact fun h1 => h h1.1 h1.2), if_neg (by rw [ha]; exact Bool.false_ne_true)]
theorem run_go (no : Bool) (L : Nat) (any : Nat → Bool) (n k : Nat) (hn : 1 ≤ n) (h : no = true → ¬ L ≤ k) (ha : any k = true) : run no L any n k = run no L any (n - 1) (k + 1) := by
  obtain ⟨m, rfl⟩ : ∃ m, n = m + 1 := ⟨n - 1, by omega⟩
  conv => lhs; unfold run
  rw [if_neg (by simp only [Bool.and_eq_true, decide_eq_true_eq]; exact fun h1 => h h1.1 h1.2), if_pos ha]
  rfl
/-- good scans in a row, and behind them one that isn't: it fails there -/
theorem fails_of {next : Nat → List Nat} {row : Nat → List Bool} {wt : Nat × Nat → Nat → Nat} {S : Nat} (hl : ∀ s, s < S → (row s).length = (next s).length) (hx : ∀ s t, s < S → t ∈ next s → t < S) (hg : ∀ (q : Nat × Nat) i, i < (next q.1).length → wt q i ≤ 0 → (row q.1).getD i false = true) (hb : ∀ (q : Nat × Nat) i, i < (next q.1).length → 0 < wt q i → (row q.1)[i]? = some false) : ∀ (m : List Nat) (q : Nat × Nat) (i : Nat), q.1 < S → Pr.Fine next wt 0 q m → i < (next (Pr.go next wt q m).1).length → 0 < wt (Pr.go next wt q m) i → fails next row m.length q.1 = true
  | [], q, i, hq, _, hi, hw => by
    show (row q.1).contains false = true
    rw [List.contains_iff_mem]
    exact List.mem_of_getElem? (hb q i hi hw)
  | j :: m, q, i, hq, hf, hi, hw => by
    show fails next row (m.length + 1) q.1 = true
    unfold fails
    rw [List.any_eq_true]
    refine ⟨j, List.mem_range.2 (by rw [hl _ hq]; exact hf.1), ?_⟩
    rw [Bool.and_eq_true]
    refine ⟨hg q j hf.1 hf.2.1, ?_⟩
    refine fails_of hl hx hg hb m (Pr.step next wt q j) i ?_ hf.2.2 hi hw
    refine hx q.1 _ hq ?_
    show (next q.1).getD j 0 ∈ _
    rw [List.getD_eq_getElem?_getD, List.getElem?_eq_getElem hf.1]
    exact List.getElem_mem hf.1
theorem go_low {next : Nat → List Nat} {wt : Nat × Nat → Nat → Nat} {S : Nat} (hx : ∀ s t, s < S → t ∈ next s → t < S) : ∀ (m : List Nat) (q : Nat × Nat), q.1 < S → Pr.Fine next wt 0 q m → (Pr.go next wt q m).1 < S
  | [], _, hq, _ => hq
  | j :: m, q, hq, hf => go_low hx m _ (hx q.1 _ hq (by
      show (next q.1).getD j 0 ∈ _
      rw [List.getD_eq_getElem?_getD, List.getElem?_eq_getElem hf.1]
      exact List.getElem_mem hf.1)) hf.2.2
/-- where nothing fails behind k, what breaks does so by no more than k -/
theorem broke_short {next : Nat → List Nat} {row : Nat → List Bool} {wt : Nat × Nat → Nat → Nat} {S k : Nat} (hS : 0 < S) (hl : ∀ s, s < S → (row s).length = (next s).length) (hx : ∀ s t, s < S → t ∈ next s → t < S) (hg : ∀ (q : Nat × Nat) i, i < (next q.1).length → wt q i ≤ 0 → (row q.1).getD i false = true) (hb : ∀ (q : Nat × Nat) i, i < (next q.1).length → 0 < wt q i → (row q.1)[i]? = some false) (hk : anyF next row S k = false) (l : List Nat) (h : Pr.Broke next wt 0 l) : l.length ≤ k := by
  obtain ⟨m, i, rfl, h1, h2, h3⟩ := h
  refine Classical.byContradiction fun hn => ?_
  simp at hn
  have he : m = m.take (m.length - k) ++ m.drop (m.length - k) := (List.take_append_drop _ _).symm
  have hlen : (m.drop (m.length - k)).length = k := by simp; omega
  rw [he, Pr.fine_append] at h1
  rw [he, Pr.go_append] at h2 h3
  have h0 := go_low hx _ (0, 0) hS h1.1
  have h4 := fails_of hl hx hg hb (m.drop (m.length - k)) _ i h0 h1.2 h2 h3
  rw [hlen] at h4
  have h5 : anyF next row S k = true := by
    unfold anyF
    rw [List.contains_iff_mem]
    exact List.mem_map.2 ⟨_, List.mem_range.2 h0, h4⟩
  rw [hk] at h5
  cases h5
end In
end
section
open Go.RowKit Go.Maps
namespace Dm
def nkV (p : Nat × Nat) : Value := prV ((p.1 : Int), (p.2 : Int))
def nkK (p : Nat × Nat) : Lit := prK ((p.1 : Int), (p.2 : Int))
def nkOk (p : Nat × Nat) : Prop := p.1 ≤ 100000 ∧ p.2 ≤ 100000
theorem kindNat {kt : TypeId} (h : Kind kt (Int × Int) prV prK prOk) : Kind kt (Nat × Nat) nkV nkK nkOk := by
  refine ⟨h.law, fun p hp => h.key _ ⟨⟨by show -100000 ≤ (p.1 : Int); omega, by show (p.1 : Int) ≤ 100000; have := hp.1; omega⟩, ⟨by show -100000 ≤ (p.2 : Int); omega, by show (p.2 : Int) ≤ 100000; have := hp.2; omega⟩⟩, fun p q e => ?_⟩
  have e1 := prV_inj _ _ e
  simp only [Prod.mk.injEq] at e1
  exact Prod.ext (by omega) (by omega)
/-- of some keys: how many have nothing yet -/
def left {K : Type} (L : List K) (f : K → Option Value) : Nat := (L.filter fun q => (f q).isNone).length
theorem left_le {K : Type} (L : List K) (f : K → Option Value) : left L f ≤ L.length := List.length_filter_le _ _
open Classical in
theorem left_mono {K : Type} (k : K) (x : Value) (f : K → Option Value) : ∀ L : List K, left L (fun q => if q = k then some x else f q) ≤ left L f
  | [] => Nat.le_refl _
  | a :: l => by
    have ih := left_mono k x f l
    unfold left at ih ⊢
    by_cases e : a = k
    · rw [List.filter_cons_of_neg (by simp [e])]
      rw [List.filter_cons]
      split
      · rw [List.length_cons]; omega
      · exact ih
    · have e1 : (fun q => if q = k then some x else f q) a = f a := if_neg e
      rw [List.filter_cons, List.filter_cons, e1]
      split
      · rw [List.length_cons, List.length_cons]; omega
      · exact ih
open Classical in
theorem left_put {K : Type} (k : K) (x : Value) (f : K → Option Value) (hf : f k = none) : ∀ L : List K, k ∈ L → left L (fun q => if q = k then some x else f q) + 1 ≤ left L f
  | [], h => by simp at h
  | a :: l, h => by
    by_cases e : a = k
    · have hm := left_mono k x f l
      unfold left at hm ⊢
      rw [List.filter_cons_of_neg (by simp [e]), List.filter_cons_of_pos (by rw [e, hf]; rfl), List.length_cons]
      omega
    · have hl : k ∈ l := by
        rcases List.mem_cons.1 h with h | h
        · exact absurd h.symm e
        · exact h
      have ih := left_put k x f hf l hl
      unfold left at ih ⊢
      have e1 : (fun q => if q = k then some x else f q) a = f a := if_neg e
      rw [List.filter_cons, List.filter_cons, e1]
      split
      · rw [List.length_cons, List.length_cons]; omega
      · exact ih
end Dm
namespace In
open Dm
/-- all states and numbers that may be asked -/
def keysL (S K : Nat) : List (Nat × Nat) := (List.range S).flatMap fun s => (List.range (K + 1)).map fun k => (s, k)
theorem keysL_len (S K : Nat) : (keysL S K).length = S * (K + 1) := by
  unfold keysL
  rw [List.length_flatMap]
  generalize K + 1 = m
  induction S with
  | zero => simp
  | succ S ih =>
    rw [List.range_succ, List.map_append, List.sum_append, ih, Nat.succ_mul]
    simp
theorem keysL_mem {S K s k : Nat} (hs : s < S) (hk : k ≤ K) : (s, k) ∈ keysL S K := by
  unfold keysL
  rw [List.mem_flatMap]
  exact ⟨s, List.mem_range.2 hs, List.mem_map.2 ⟨k, List.mem_range.2 (by omega), rfl⟩⟩
/-- what is remembered is so -/
def Memo (bm S K : Nat) (next : Nat → List Nat) (row : Nat → List Bool) (f : Nat × Nat → Option Value) (W : World) : Prop := ∃ n, DM 139 nkK nkOk W bm n f ∧ n + left (keysL S K) f ≤ S * (K + 1) ∧ ∀ s k v, s < S → k ≤ K → f (s, k) = some v → v = .bool (fails next row k s)
theorem Memo.made (W : World) (S K : Nat) (next : Nat → List Nat) (row : Nat → List Bool) : Memo W.heap.size S K next row (fun _ => none) (W.alloc (.map #[] 0)) := by
  refine ⟨0, DM.made W, ?_, fun s k v _ _ h => by cases h⟩
  have := left_le (keysL S K) (fun _ => none)
  rw [keysL_len] at this
  omega
theorem Memo.kept {bm S K : Nat} {next : Nat → List Nat} {row : Nat → List Bool} {f : Nat × Nat → Option Value} {W W' : World} (h : Memo bm S K next row f W) (hb : W'.heap[bm]? = W.heap[bm]?) : Memo bm S K next row f W' := by
  obtain ⟨n, h1, h2, h3⟩ := h
  exact ⟨n, h1.kept hb, h2, h3⟩
theorem Memo.lt {bm S K : Nat} {next : Nat → List Nat} {row : Nat → List Bool} {f : Nat × Nat → Option Value} {W : World} (h : Memo bm S K next row f W) : bm < W.heap.size := by
  obtain ⟨n, h1, _⟩ := h
  exact h1.lt
theorem Memo.look {bm S K s k : Nat} {next : Nat → List Nat} {row : Nat → List Bool} {f : Nat × Nat → Option Value} {W : World} (h : Memo bm S K next row f W) (hs : s < S) (hk : k ≤ K) (hS : S ≤ 100000) (hK : K ≤ 100000) : (f (s, k) = none ∧ (Instr.lookup 136 (.map (some bm)) (.agg #[.int .i64 (s : Int), .int .i64 (k : Int)]) true).run Tryz.prog W = .ok (.tuple #[.bool false, .bool false]) W) ∨ (Instr.lookup 136 (.map (some bm)) (.agg #[.int .i64 (s : Int), .int .i64 (k : Int)]) true).run Tryz.prog W = .ok (.tuple #[.bool (fails next row k s), .bool true]) W := by
  obtain ⟨n, h1, h2, h3⟩ := h
  have hl := h1.look (kindNat kindKey) Tryz.underlying136 (z := .bool false) (fun w => by kernel_rfl) true (s, k) ⟨by show s ≤ 100000; omega, by show k ≤ 100000; omega⟩
  cases hf : f (s, k) with
  | none =>
    rw [hf] at hl
    exact .inl ⟨rfl, hl⟩
  | some v =>
    have e := h3 s k v hs hk hf
    subst e
    rw [hf] at hl
    exact .inr hl
theorem Memo.put {bm S K s k : Nat} {next : Nat → List Nat} {row : Nat → List Bool} {f : Nat × Nat → Option Value} {W : World} (h : Memo bm S K next row f W) (hs : s < S) (hk : k ≤ K) (hS : S ≤ 4096) (hK : K ≤ 100) (hf : f (s, k) = none) : ∃ W' f', (Instr.mapUpdate 136 (.map (some bm)) (.agg #[.int .i64 (s : Int), .int .i64 (k : Int)]) (.bool (fails next row k s))).run Tryz.prog W = .ok () W' ∧ Memo bm S K next row f' W' ∧ (∀ s' k', k < k' → f' (s', k') = f (s', k')) ∧ W.grownBy W' (some bm) := by
  obtain ⟨n, h1, h2, h3⟩ := h
  have hbig : S * (K + 1) ≤ 1000000 := Nat.le_trans (Nat.mul_le_mul hS (by omega : K + 1 ≤ 101)) (by decide)
  obtain ⟨W', hrun, hd, hg⟩ := h1.put (kindNat kindKey) Tryz.underlying136 (by omega) (s, k) (.bool (fails next row k s)) ⟨by show s ≤ 100000; omega, by show k ≤ 100000; omega⟩
  have hl := left_put (s, k) (.bool (fails next row k s)) f hf (keysL S K) (keysL_mem hs hk)
  refine ⟨W', _, hrun, ⟨n + 1, hd, by omega, fun s' k' v hs' hk' hv => ?_⟩, fun s' k' hlt => ?_, hg⟩
  · split at hv
    · rename_i e
      cases e
      exact (Option.some.inj hv).symm
    · exact h3 s' k' v hs' hk' hv
  · rw [if_neg]
    intro e
    cases e
    omega
end In
end
section
open Go.RowKit Go.Maps
namespace In
open Rf (Fr)
/-- what the closure reads -/
structure Std (S I bm b11 b3 b9 b12 bx go gc gx xc : Nat) (next : Nat → List Nat) (row : Nat → List Bool) (W : World) : Prop where
  c11 : W.cell? ⟨b11, 0, none⟩ = some (.map (some bm))
  c3 : W.cell? ⟨b3, 0, none⟩ = some (.pointer (some ⟨bx, 0, none⟩))
  c9 : W.cell? ⟨b9, 0, none⟩ = some (.slice (some ⟨go, 0, none⟩) S gc)
  c12 : W.cell? ⟨b12, 0, none⟩ = some (.func (.func 57) #[] #[.pointer (some ⟨b11, 0, none⟩), .pointer (some ⟨b3, 0, none⟩), .pointer (some ⟨b9, 0, none⟩), .pointer (some ⟨b12, 0, none⟩)])
  c4 : W.cell? ⟨bx, 4, none⟩ = some (.slice (some ⟨gx, 0, none⟩) S xc)
  caps : S ≤ gc ∧ S ≤ xc
  nx : ∀ s, s < S → ∃ g o c, W.cell? ⟨gx, s, none⟩ = some (.slice (some ⟨g, o, none⟩) I c) ∧ I ≤ c ∧ ∀ (i t : Nat), (next s)[i]? = some t → W.cell? ⟨g, o + i, none⟩ = some (.int .i64 (t : Int))
  gd : ∀ s, s < S → ∃ a d, W.cell? ⟨go, s, none⟩ = some (.slice (some ⟨a, 0, none⟩) I d) ∧ I ≤ d ∧ ∀ i, i < I → W.cell? ⟨a, i, none⟩ = some (.bool ((row s).getD i false))
theorem Std.of {S I bm b11 b3 b9 b12 bx go gc gx xc : Nat} {next : Nat → List Nat} {row : Nat → List Bool} {w W : World} (h : Std S I bm b11 b3 b9 b12 bx go gc gx xc next row w) (hc : ∀ g i v, w.cell? ⟨g, i, none⟩ = some v → W.cell? ⟨g, i, none⟩ = some v) : Std S I bm b11 b3 b9 b12 bx go gc gx xc next row W := by
  refine ⟨hc _ _ _ h.c11, hc _ _ _ h.c3, hc _ _ _ h.c9, hc _ _ _ h.c12, hc _ _ _ h.c4, h.caps, fun s hs => ?_, fun s hs => ?_⟩
  · obtain ⟨g, o, c, h1, h2, h3⟩ := h.nx s hs
    exact ⟨g, o, c, hc _ _ _ h1, h2, fun i t ht => hc _ _ _ (h3 i t ht)⟩
  · obtain ⟨a, d, h1, h2, h3⟩ := h.gd s hs
    exact ⟨a, d, hc _ _ _ h1, h2, fun i hi => hc _ _ _ (h3 i hi)⟩
theorem Memo.obj {bm S K : Nat} {next : Nat → List Nat} {row : Nat → List Bool} {f : Nat × Nat → Option Value} {W : World} (h : Memo bm S K next row f W) : ∃ es clock, W.heap[bm]? = some (.map es clock) := by
  obtain ⟨n, ⟨D, ⟨es, clock, h1, _⟩, _⟩, _⟩ := h
  exact ⟨es, clock, h1⟩
/-- where the map's block is one, all cells stand -/
theorem cells_stand {bm : Nat} {w W : World} (ho : ∃ es clock, w.heap[bm]? = some (.map es clock)) (hf : Fr bm bm w W) : ∀ g i v, w.cell? ⟨g, i, none⟩ = some v → W.cell? ⟨g, i, none⟩ = some v := fun g i v hc => by
  obtain ⟨es, clock, h⟩ := ho
  exact hf.cell h h hc
/-- the first n inputs -/
def accI (g : Nat → Bool) (n : Nat) : Bool := (List.range n).any g
theorem accI_succ (g : Nat → Bool) (n : Nat) : accI g (n + 1) = (accI g n || g n) := by
  unfold accI
  rw [List.range_succ, List.any_append]
  simp
def stepI (next : Nat → List Nat) (row : Nat → List Bool) (k s i : Nat) : Bool := match k with
  | 0 => !(row s).getD i false
  | k + 1 => (row s).getD i false && fails next row k ((next s).getD i 0)
theorem fails_acc (next : Nat → List Nat) (row : Nat → List Bool) (I k s : Nat) (hl : (row s).length = I) : accI (stepI next row k s) I = fails next row k s := by
  cases k with
  | succ k =>
    unfold accI fails
    rw [hl]
    rfl
  | zero =>
    unfold accI fails
    rw [Bool.eq_iff_iff, List.any_eq_true, List.contains_iff_mem]
    constructor
    · rintro ⟨i, hi, h⟩
      have hil : i < (row s).length := by rw [hl]; exact List.mem_range.1 hi
      have e : (row s)[i] = false := by
        have h2 : stepI next row 0 s i = !(row s).getD i false := rfl
        rw [h2] at h
        simpa [hil] using h
      rw [← e]
      exact List.getElem_mem hil
    · intro h
      obtain ⟨i, hi, e⟩ := List.getElem_of_mem h
      refine ⟨i, List.mem_range.2 (by rw [← hl]; exact hi), ?_⟩
      show (!(row s).getD i false) = true
      simp [hi, e]
/-- the closure at a number -/
def BadOK (S I K bm b11 b3 b9 b12 bx go gc gx xc : Nat) (next : Nat → List Nat) (row : Nat → List Bool) (k : Nat) : Prop := ∀ (s : Nat) (W : World) (f : Nat × Nat → Option Value), s < S → Std S I bm b11 b3 b9 b12 bx go gc gx xc next row W → Memo bm S K next row f W →
  Calls Tryz.prog 57 #[.int .i64 (s : Int), .int .i64 (k : Int), .pointer (some ⟨b11, 0, none⟩), .pointer (some ⟨b3, 0, none⟩), .pointer (some ⟨b9, 0, none⟩), .pointer (some ⟨b12, 0, none⟩)] W fun e W' => e = .returned (.bool (fails next row k s)) ∧ ∃ f', Memo bm S K next row f' W' ∧ (∀ s' k', k < k' → f' (s', k') = f (s', k')) ∧ Fr bm bm W W'
set_option maxHeartbeats 8000000 in
set_option maxRecDepth 100000 in
theorem bad_step (S I K bm b11 b3 b9 b12 bx go gc gx xc : Nat) (next : Nat → List Nat) (row : Nat → List Bool) (k : Nat) (hnl : ∀ s, (next s).length = I) (hnx : ∀ f s, f < S → s ∈ next f → s < S) (hrl : ∀ s, (row s).length = I) (hS : S ≤ 4096) (hK : K ≤ 100) (hkK : k ≤ K) (hI : I ≤ 64)
    (hrec : ∀ k', k = k' + 1 → BadOK S I K bm b11 b3 b9 b12 bx go gc gx xc next row k') : BadOK S I K bm b11 b3 b9 b12 bx go gc gx xc next row k := by
  intro s w f hs hstd hmemo
  have hfn : ∀ (args : Array Value) (w : World), (callFunc 57 args).run Tryz.prog w = .ok (.enter 57 args) w := fun _ _ => by kernel_rfl
  obtain ⟨kI, hkI⟩ : ∃ kI : Int, kI = (k : Int) := ⟨_, rfl⟩
  have hk0 : 0 ≤ kI := by omega
  have hk1 : kI ≤ 100 := by omega
  have HKI := hide hkI
  have HOBJ := hide hmemo.obj
  have HSTD : Hid (∀ W, Fr bm bm w W → Std S I bm b11 b3 b9 b12 bx go gc gx xc next row W) := fun W hW => hstd.of (cells_stand hmemo.obj hW)
  have HM := hide hmemo
  obtain ⟨gr, or_, cr, x5, hcr, hnr⟩ := hstd.nx s hs
  have HNR := hide hnr
  have hsi : (s : Int) < (S : Int) := by omega
  have x11 := hstd.c11
  have x3 := hstd.c3
  have x4 := hstd.c4
  obtain ⟨hcp1, hcp2⟩ := hstd.caps
  have hlook := hmemo.look hs hkK (by omega) (by omega)
  rw [← hkI] at hlook ⊢
  have HREC := hide hrec
  have HNX := hide hnx
  have HNL := hide hnl
  have HFA := hide (fails_acc next row I k s (hrl s))
  clear hstd hmemo hnr hrec hnx hnl hrl
  rcases hlook with ⟨hf, hlk⟩ | hlk
  · have HF := hide hf
    clear hf hkI
    go_enter Tryz.func57, Tryz.ntmps57
    go_wp2_with fail
    clear hlk x11 x3 x4 x5
    go_loopw [32, 11] (fun iv xv wr => ∃ (i : Nat) (f' : Nat × Nat → Option Value), i ≤ I ∧ iv = .int .i64 (i : Int) ∧ xv = .bool (accI (stepI next row k s) i) ∧ Hid (Memo bm S K next row f' wr) ∧ Hid (∀ s' k', k ≤ k' → f' (s', k') = f (s', k')) ∧ Hid (Fr bm bm w wr)) (fun iv _ _ => I - (intOf iv).toNat)
    case atStart => exact ⟨0, f, Nat.zero_le _, rfl, rfl, HM.out, fun _ _ _ => rfl, Fr.refl _ _ _⟩
    case round =>
      obtain ⟨i, f', hi, rfl, rfl, HMr, HFr, HWr⟩ := hrel
      obtain ⟨wo, hwo⟩ : ∃ wo, wo = wr := ⟨_, rfl⟩
      subst hwo
      by_cases hlt : i < I
      · have hii : (i : Int) < (I : Int) := by omega
        have hST := HSTD.out wo HWr.out
        have hil : i < (next s).length := by rw [HNL.out]; exact hlt
        have hnr2 := (cells_stand HOBJ.out HWr.out) _ _ _ (HNR.out i _ (List.getElem?_eq_getElem hil))
        have htS := HNX.out s _ hs (List.getElem_mem hil)
        obtain ⟨ag, dg, y1, hdg, hgd⟩ := hST.gd s hs
        have y2 := hgd i hlt
        have y9 := hST.c9
        have y12 := hST.c12
        have HSU : Hid (accI (stepI next row k s) (i + 1) = (accI (stepI next row k s) i || stepI next row k s i)) := accI_succ _ i
        obtain ⟨xb, hxb⟩ : ∃ xb, xb = accI (stepI next row k s) i := ⟨_, rfl⟩
        rw [← hxb] at HSU ⊢
        obtain ⟨gb, hgb⟩ : ∃ gb, gb = (row s).getD i false := ⟨_, rfl⟩
        rw [← hgb] at y2
        have HGB := hide hgb
        have HTE : Hid ((next s).getD i 0 = (next s)[i]) := by show _ = _; simp [hil]
        generalize (next s)[i] = t at *
        clear hgd hST hxb hgb hil
        cases xb with
        | true =>
          by_cases hk : k = 0
          · have hkb : (kI == 0) = true := by have := HKI.out; simp; omega
            go_wp2_with fail
            go_roundw
            case rel => exact ⟨i + 1, f', by omega, by go_num, by rw [HSU.out]; rfl, HMr.out, HFr.out, HWr.out⟩
            case measure => simp [intOf]; omega
          · have hkb : (kI == 0) = false := by have := HKI.out; simp; omega
            go_wp2_with fail
            go_roundw
            case rel => exact ⟨i + 1, f', by omega, by go_num, by rw [HSU.out]; rfl, HMr.out, HFr.out, HWr.out⟩
            case measure => simp [intOf]; omega
        | false =>
          cases k with
          | zero =>
            have hkb : (kI == 0) = true := by have := HKI.out; simp; omega
            have HSV : Hid (accI (stepI next row 0 s) (i + 1) = !gb) := by show _ = _; rw [HSU.out, Bool.false_or, HGB.out]; rfl
            clear HSU
            cases gb with
            | true =>
              go_wp2_with fail
              go_roundw
              case rel => exact ⟨i + 1, f', by omega, by go_num, by rw [HSV.out]; rfl, HMr.out, HFr.out, HWr.out⟩
              case measure => simp [intOf]; omega
            | false =>
              go_wp2_with fail
              go_roundw
              case rel => exact ⟨i + 1, f', by omega, by go_num, by rw [HSV.out]; rfl, HMr.out, HFr.out, HWr.out⟩
              case measure => simp [intOf]; omega
          | succ k =>
            have hkb : (kI == 0) = false := by have := HKI.out; simp; omega
            have HSV : Hid (accI (stepI next row (k + 1) s) (i + 1) = (gb && fails next row k t)) := by show _ = _; rw [HSU.out, Bool.false_or, HGB.out, ← HTE.out]; rfl
            clear HSU
            cases gb with
            | false =>
              go_wp2_with fail
              go_roundw
              case rel => exact ⟨i + 1, f', by omega, by go_num, by rw [HSV.out]; rfl, HMr.out, HFr.out, HWr.out⟩
              case measure => simp [intOf]; omega
            | true =>
              have HCL := hide (HREC.out k rfl t wo f' htS (HSTD.out wo HWr.out) HMr.out)
              have hke : (k : Int) = kI - 1 := by have := HKI.out; omega
              rw [hke] at HCL
              have hkp : 1 ≤ kI := by omega
              clear hke
              go_wp2_with fail
              refine HCL.out.mono ?_
              rintro e w2 ⟨rfl, f2, hm2, hf2, hw2⟩
              have HM2 := hide hm2
              have HF2 : Hid (∀ s' k', k + 1 ≤ k' → f2 (s', k') = f (s', k')) := fun s' k' h => (hf2 s' k' (by omega)).trans (HFr.out s' k' h)
              have HW2 : Hid (Fr bm bm w w2) := HWr.out.trans hw2
              generalize fails next row k t = fb at *
              clear hm2 hf2 hw2 HCL
              go_wp2_with fail
              go_roundw
              case rel => exact ⟨i + 1, f2, by omega, by go_num, by rw [HSV.out]; rfl, HM2.out, HF2.out, HW2.out⟩
              case measure => simp [intOf]; omega
      · obtain rfl : i = I := by omega
        have hST := HSTD.out wo HWr.out
        have z11 := hST.c11
        obtain ⟨w3, f3, hput, hm3, hf3, hg3⟩ := HMr.out.put hs hkK hS hK ((HFr.out s k (Nat.le_refl _)).trans HF.out)
        have HM3 := hide hm3
        have HF3 : Hid (∀ s' k', k < k' → f3 (s', k') = f (s', k')) := fun s' k' h => (hf3 s' k' h).trans (HFr.out s' k' (by omega))
        have HW3 : Hid (Fr bm bm w w3) := HWr.out.grown_a hg3
        rw [← HKI.out] at hput
        rw [HFA.out]
        obtain ⟨fb, hfb⟩ : ∃ fb, fb = fails next row k s := ⟨_, rfl⟩
        have HFB := hide hfb
        rw [← hfb] at hput ⊢
        have hii : ¬ (i : Int) < (i : Int) := by omega
        clear hm3 hf3 hg3 hST hfb
        go_wp2_with fail
        go_ret
        exact ⟨ret_bool HFB.out, f3, HM3.out, HF3.out, HW3.out⟩
  · generalize fails next row k s = fb at *
    clear hkI x3 x4 x5
    go_enter Tryz.func57, Tryz.ntmps57
    go_wp2_with fail
    go_ret
    exact ⟨ret_bool rfl, f, HM.out, fun _ _ _ => rfl, Fr.refl _ _ _⟩
theorem bad_any (S I K bm b11 b3 b9 b12 bx go gc gx xc : Nat) (next : Nat → List Nat) (row : Nat → List Bool) (hnl : ∀ s, (next s).length = I) (hnx : ∀ f s, f < S → s ∈ next f → s < S) (hrl : ∀ s, (row s).length = I) (hS : S ≤ 4096) (hK : K ≤ 100) (hI : I ≤ 64) : ∀ k, k ≤ K → BadOK S I K bm b11 b3 b9 b12 bx go gc gx xc next row k
  | 0, h => bad_step _ _ _ _ _ _ _ _ _ _ _ _ _ _ _ 0 hnl hnx hrl hS hK h hI (fun k' e => by omega)
  | k + 1, h => bad_step _ _ _ _ _ _ _ _ _ _ _ _ _ _ _ (k + 1) hnl hnx hrl hS hK h hI (fun k' e => by
      obtain rfl : k' = k := by omega
      exact bad_any S I K bm b11 b3 b9 b12 bx go gc gx xc next row hnl hnx hrl hS hK hI k' (by omega))
end In
end
section
namespace Rf
open Go.RowKit
/-- what names are, or were: the closures over a state's box -/
theorem askG_any (K : Nat) (hK : K = 49 ∨ K = 50) (g b1 n : Nat) (f : List UInt8 → Bool) (w : World) (hc : w.cell? ⟨g, 0, none⟩ = some (.map (some b1))) (hm : BM w b1 n f) (nm : List UInt8) (hn : nm.length ≤ maxLen) :
    Calls Tryz.prog K #[.string ⟨nm.toArray⟩, .pointer (some ⟨g, 0, none⟩)] w fun e w' => e = .returned (.bool (f nm)) ∧ Below w.heap.size w w' := by
  have hl := hm.look nm hn
  clear hm
  generalize f nm = y at *
  rcases hK with rfl | rfl
  · go_enter Tryz.func49, Tryz.ntmps49
    go_wp2_with fail
    go_ret
    exact ⟨rfl, Below.refl _ _⟩
  · go_enter Tryz.func50, Tryz.ntmps50
    go_wp2_with fail
    go_ret
    exact ⟨rfl, Below.refl _ _⟩
set_option maxRecDepth 100000 in
theorem BX.tells {w0 W : World} {n b : Nat} {st : St} (K : Nat) (hK : K = 49 ∨ K = 50) (h : BX w0 n st b W) : R3.Tells (fun nm => nm.length ≤ maxLen) (.func (.func K) #[] #[.pointer (some ⟨b, 0, none⟩)]) st.is W := by
  obtain ⟨m1, m2, h1, ⟨x1, x2, e, h2, _⟩, _⟩ := h
  have e1 : x1 = m1 := by
    simp only [Value.agg.injEq, List.toArray_eq_iff, List.cons.injEq, Value.map.injEq, Option.some.injEq, and_true] at e
    exact e.1.symm
  subst e1
  refine ⟨K, _, rfl, ?_, fun W' hW nm hn => askG_any K hK b x1 n st.is W' ?_ (h2.below hW) nm hn⟩
  · rcases hK with rfl | rfl <;> exact fun _ _ => by kernel_rfl
  · have := (two_cells ((hW.block _ (lt_some h1)).trans h1)).1
    exact this
set_option maxHeartbeats 16000000 in
set_option maxRecDepth 100000 in
theorem RGood_any (bx g : Nat) (p : Ld.Prg) (x : Ex) (w : World) (hm : IsRMach w bx p) (hL : RLaid w) (hck : Ld.check p = none) (hq6 : (Ld.kindL p.names 1).length ≤ 6) (hS4 : Mc.total (Mc.parts p) ≤ 4096) (hx : IsRx (fun _ => True) w x g) (hnm : ∀ n, n ∈ x.named true → n.length ≤ maxLen) :
    Calls Tryz.prog 14 #[.pointer (some ⟨bx, 0, none⟩), .pointer (some ⟨g, 0, none⟩)] w fun e w' => ∃ o, e = .returned o ∧ GoodAt w' o (Mc.total (Mc.parts p)) (2 ^ (Ld.kindL p.names 1).length) (Pr.goodRow p x (2 ^ (Ld.kindL p.names 1).length)) ∧ Below w.heap.size w w' := by
  obtain ⟨i0, hi0, hz0, hz1, hz2⟩ := info_parts Tryz.infoBool
  obtain ⟨i1, hi1, hy0, hy1, hy2⟩ := info_parts Tryz.infoBools
  obtain ⟨nv, rv, nx, us0, q0, k1, k2, _⟩ := hm
  obtain ⟨nv', rv', he, hn, hr⟩ := id k2
  simp only [Value.agg.injEq, List.toArray_eq_iff, List.cons.injEq, and_true] at he
  obtain ⟨rfl, rfl⟩ := he
  obtain ⟨na, nc, rfl, _⟩ := hn.slice
  obtain ⟨ra, rc, rfl, _⟩ := hr.slice
  obtain ⟨n, hnn⟩ : ∃ n, n = p.names.length := ⟨_, rfl⟩
  obtain ⟨m, hmm⟩ : ∃ m, m = p.rungs.length := ⟨_, rfl⟩
  obtain ⟨q, hqq⟩ : ∃ q, q = (Ld.kindL p.names 1).length := ⟨_, rfl⟩
  obtain ⟨S, hSS⟩ : ∃ S, S = Mc.total (Mc.parts p) := ⟨_, rfl⟩
  obtain ⟨I, hII⟩ : ∃ I, I = 2 ^ q := ⟨_, rfl⟩
  rw [← hqq] at k1 hq6 ⊢
  rw [← hSS] at k1 hS4 ⊢
  rw [← hII] at k1 ⊢
  rw [← hnn, ← hmm] at k1 k2
  rw [← hnn] at hn
  have hI64 : I ≤ 64 := by rw [hII]; exact Nat.le_trans (Nat.pow_le_pow_right (by decide) hq6) (by decide)
  have HKC : Hid (∀ W, Below w.heap.size w W → (W.cell? ⟨bx, 0, none⟩ = some (.slice na n nc) ∧ W.cell? ⟨bx, 1, none⟩ = some (.slice ra m rc)) ∧ (W.cell? ⟨bx, 2, none⟩ = some (.int .i64 (S : Int)) ∧ W.cell? ⟨bx, 3, none⟩ = some (.int .i64 (I : Int)))) := fun W hW => ⟨(k1.below hW).cells.1, (k1.below hW).cells.2.1⟩
  have HSTA : Hid (∀ W (s : Nat), Below w.heap.size w W → s ≤ 1000000 → Calls Tryz.prog 45 #[.pointer (some ⟨bx, 0, none⟩), .int .i64 (s : Int)] W fun e w' => Below W.heap.size W w' ∧ ∃ v', e = .returned v' ∧ StIs w' v' 12 (state p s)) := fun W s hW hs =>
    RState_any _ p _ _ _ S I s W (k1.below hW) (k2.below hW) (hL.below hW) hck hs
  have HIN : Hid (∀ W (k : Nat), Below w.heap.size w W → k ≤ 1000000 → Calls Tryz.prog 47 #[.pointer (some ⟨bx, 0, none⟩), .int .i64 (k : Int)] W fun e w' => ∃ v, e = .returned v ∧ w'.ownsRow W.heap.size 4 1 v (bitsTo k (Ld.kindL p.names 1).length).length ((bitsTo k (Ld.kindL p.names 1).length).map boolV) ∧ Below W.heap.size W w') := fun W k hW hk => by
    rw [bitsTo_len]
    exact RInput_any _ p.names _ _ _ S I k W (k1.below hW) (hn.below hW) ⟨_, _, _, rfl⟩ hk
  have HSTP : Hid (∀ W (s k : Nat) sv iv, Below w.heap.size w W → StIs W sv 12 (state p s) → Bools W iv (bitsTo k (Ld.kindL p.names 1).length) → Calls Tryz.prog 46 #[.agg #[.slice na n nc, .slice ra m rc], sv, iv] W fun e w' => Below W.heap.size W w' ∧ ∃ v', e = .returned v' ∧ StIs w' v' 212 (step p (state p s) (bitsTo k (Ld.kindL p.names 1).length))) := fun W s k sv iv hW hs hb =>
    Step_any p _ sv iv 12 _ _ W (k2.below hW) hck hs (by omega) hb (bitsTo_len _ _)
  have HEV : Hid (∀ W (s k b1 b2 : Nat) (W1 W2 : World), Below w.heap.size w W → BX W1 212 (step p (state p s) (bitsTo k (Ld.kindL p.names 1).length)) b1 W → BX W2 12 (state p s) b2 W → Calls Tryz.prog 48 #[.pointer (some ⟨g, 0, none⟩), .func (.func 49) #[] #[.pointer (some ⟨b1, 0, none⟩)], .func (.func 50) #[] #[.pointer (some ⟨b2, 0, none⟩)]] W fun e w' => e = .returned (.bool (Pr.good p x s k)) ∧ Below W.heap.size W w') := fun W s k b1 b2 W1 W2 hW h1 h2 => by
    have h := R3.reval_any (fun nm => nm.length ≤ maxLen) x g _ _ _ _ W hnm (IsRx.later hx hW) (h1.tells _ (.inl rfl)) (h2.tells _ (.inr rfl))
    rw [doc_good p hck x s k] at h
    exact h
  have HLR : Hid (∀ k : Nat, (bitsTo (k : Int) (Ld.kindL p.names 1).length).length ≤ 1000000) := fun k => by rw [bitsTo_len, ← hqq]; omega
  have HRL : Hid (∀ s, (Pr.goodRow p x I s).length = I) := fun s => Pr.goodRow_len p x I s
  have HRS : Hid (∀ s k, k < I → (Pr.goodRow p x I s).take (k + 1) = (Pr.goodRow p x I s).take k ++ [Pr.good p x s k]) := fun s k hk => range_take_succ (Pr.good p x s) I k hk
  have HOS : Hid (∀ s, s < S → ((List.range S).map (Pr.goodRow p x I)).take (s + 1) = ((List.range S).map (Pr.goodRow p x I)).take s ++ [Pr.goodRow p x I s]) := fun s hs => range_take_succ (Pr.goodRow p x I) S s hs
  have HOL : Hid (((List.range S).map (Pr.goodRow p x I)).length = S) := by show _ = _; simp
  have HGA : Hid (∀ W o us, BolR w.heap.size W o us ((List.range S).map (Pr.goodRow p x I)) → GoodAt W o S I (Pr.goodRow p x I)) := fun W o us h => h.goodAt (by rw [hSS]; exact Mc.total_pos _ (Mc.parts_ok p)) (by rw [hII]; exact Nat.pow_pos (by decide)) (fun s => Pr.goodRow_len p x I s)
  obtain ⟨rows, hrows⟩ : ∃ rows, rows = (List.range S).map (Pr.goodRow p x I) := ⟨_, rfl⟩
  rw [← hrows] at HGA HOS HOL
  clear hrows
  obtain ⟨⟨c0, c1⟩, c2, c3⟩ := HKC.out w (Below.refl _ _)
  have hmf : ∀ (fn : Fn) (first cap : Array Value) (w : World), (Instr.makeFunc fn first cap).run Tryz.prog w = .ok (.func fn first cap) w := fun _ _ _ _ => rfl
  clear k1 k2 hn hr hx hnm hck hL hnn hmm hqq hSS hII
  go_enter Tryz.func14, Tryz.ntmps14
  go_wp2_with fail
  clear c0 c1 c2 c3
  go_loopw [15, 5] (fun i o wr => ∃ (s : Nat) (xa : Option Addr) (xc : Nat) (us : List Value), s ≤ S ∧ i = .int .i64 (s : Int) ∧ o = .slice xa s xc ∧ Hid (BolR w.heap.size wr (.slice xa s xc) us (rows.take s)) ∧ Hid (Below w.heap.size w wr)) (fun i _ _ => S - (intOf i).toNat)
  case atStart => exact ⟨0, none, 0, [], Nat.zero_le _, rfl, rfl, BolR.nil _ _, Below.refl _ _⟩
  case round =>
    obtain ⟨s, xa, xc, us, hs, rfl, rfl, HR, HBW⟩ := hrel
    obtain ⟨wo, hwo⟩ : ∃ wo, wo = wr := ⟨_, rfl⟩
    subst hwo
    by_cases hlt : s < S
    · have hsi : (s : Int) < (S : Int) := by omega
      have HST := hide (HSTA.out wo s HBW.out (by omega))
      go_wp2_with fail
      refine HST.out.mono ?_
      rintro e wB ⟨hbB, sv, rfl, hst⟩
      obtain ⟨m1, m2, hsv, _⟩ := id hst
      subst hsv
      obtain ⟨wC, hwC⟩ : ∃ wC, wC = wB.alloc (.cells #[.map (some m1), .map (some m2)] 123) := ⟨_, rfl⟩
      have HBX : Hid (BX wo 12 (state p s) wB.heap.size wC) := by show BX _ _ _ _ _; rw [hwC]; exact BX.new hbB hst
      have hboC : Below wo.heap.size wo wC := by rw [hwC]; exact then_ hbB (below_al _ _)
      have HBOC := hide hboC
      obtain ⟨_, c2, c3⟩ := HKC.out wC (then_ HBW.out hboC)
      obtain ⟨_, d2, d3⟩ := HKC.out wB (then_ HBW.out hbB)
      have HWC := hide hwC
      have e3 := fun o => cell_alloc_keep wB o _ _ d3
      clear hst hbB hwC hboC HST
      go_wp2_with fail
      rw [← HWC.out]
      clear c2 c3 d2 d3 e3
      go_loopw [25, 8] (fun i l wr => ∃ (k : Nat) (la : Option Addr) (lc : Nat), k ≤ I ∧ i = .int .i64 (k : Int) ∧ l = .slice la k lc ∧ Hid (wr.ownsRow wC.heap.size 4 1 (.slice la k lc) k (((Pr.goodRow p x I s).take k).map boolV)) ∧ Hid (Below wC.heap.size wC wr)) (fun i _ _ => I - (intOf i).toNat)
      case atStart => exact ⟨0, none, 0, Nat.zero_le _, rfl, rfl, World.ownsRow_nil _ _ _ _, Below.refl _ _⟩
      case round =>
        obtain ⟨k, la, lc, hk, rfl, rfl, HO, HBC⟩ := hrel
        have HB : Hid (Below wo.heap.size wo wr) := then_ HBOC.out HBC.out
        obtain ⟨wi, hwi⟩ : ∃ wi, wi = wr := ⟨_, rfl⟩
        subst hwi
        by_cases hlt2 : k < I
        · have hki : (k : Int) < (I : Int) := by omega
          have HBWI : Hid (Below w.heap.size w wi) := then_ HBW.out HB.out
          have HBXI : Hid (BX wo 12 (state p s) wB.heap.size wi) := HBX.out.below HBC.out
          obtain ⟨z1, z2, hz, hzs, _⟩ := HBXI.out
          have HZ := hide hz
          have HZS := hide hzs
          have HDR : Hid (Below wi.heap.size wi wi.drew) := ⟨rfl, rfl, rfl, Nat.le_refl _, fun _ _ => rfl⟩
          have HKE : Hid (∀ W, Below wi.heap.size wi W → W.cell? ⟨bx, 0, none⟩ = some (.slice na n nc) ∧ W.cell? ⟨bx, 1, none⟩ = some (.slice ra m rc) ∧ W.cell? ⟨wB.heap.size, 0, none⟩ = some (.map (some z1)) ∧ W.cell? ⟨wB.heap.size, 1, none⟩ = some (.map (some z2))) := fun W hW => by
            have h1 := (HKC.out W (then_ HBWI.out hW)).1
            have h2 := two_cells ((hW.block _ (lt_some HZ.out)).trans HZ.out)
            exact ⟨h1.1, h1.2, h2.1, h2.2.1⟩
          have HIN2 : Hid (∀ W, Below wi.heap.size wi W → Calls Tryz.prog 47 #[.pointer (some ⟨bx, 0, none⟩), .int .i64 (k : Int)] W fun e w' => ∃ v, e = .returned v ∧ w'.ownsRow W.heap.size 4 1 v (bitsTo k (Ld.kindL p.names 1).length).length ((bitsTo k (Ld.kindL p.names 1).length).map boolV) ∧ Below W.heap.size W w') := fun W hW => HIN.out W k (then_ HBWI.out hW) (by omega)
          have HSTP2 : Hid (∀ W iv, Below wi.heap.size wi W → Bools W iv (bitsTo k (Ld.kindL p.names 1).length) → Calls Tryz.prog 46 #[.agg #[.slice na n nc, .slice ra m rc], .agg #[.map (some z1), .map (some z2)], iv] W fun e w' => Below W.heap.size W w' ∧ ∃ v', e = .returned v' ∧ StIs w' v' 212 (step p (state p s) (bitsTo k (Ld.kindL p.names 1).length))) := fun W iv hW hb => HSTP.out W s k _ iv (then_ HBWI.out hW) (HZS.out.below hW) hb
          have HLK := hide (HLR.out k)
          obtain ⟨x0, x1, x2, x3⟩ := HKE.out wi (Below.refl _ _)
          have HAD : Hid (∀ o, Below wi.heap.size wi (wi.alloc o).drew) := fun o => then_ (below_al wi o) ⟨rfl, rfl, rfl, Nat.le_refl _, fun _ _ => rfl⟩
          clear hz hzs
          go_upto_region 10 with fail
          go_cut [10] (fun v wx => ∃ b, v = .pointer (some ⟨b, 0, none⟩) ∧ BX wi 212 (step p (state p s) (bitsTo k (Ld.kindL p.names 1).length)) b wx)
          case first =>
            go_region_held3 (fun W => W.cell? ⟨bx, 0, none⟩ = some (.slice na n nc) ∧ W.cell? ⟨bx, 1, none⟩ = some (.slice ra m rc) ∧ W.cell? ⟨wB.heap.size, 0, none⟩ = some (.map (some z1)) ∧ W.cell? ⟨wB.heap.size, 1, none⟩ = some (.map (some z2))) ((refine HKE.out _ ?_; first | exact ((HB2.out.setCell (p := ⟨w1.heap.size, 0, none⟩) HB1.out.size _).setCell (p := ⟨w1.heap.size, 1, none⟩) HB1.out.size _) | exact ((HB2.out.setCell (p := ⟨wi.heap.size, 0, none⟩) (Nat.le_refl _) _).setCell (p := ⟨wi.heap.size, 1, none⟩) (Nat.le_refl _) _) | exact HDR.out | exact HAD.out _ | exact HB1.out | exact HB2.out | exact (then_ HB1.out (below_al _ _)) | exact (then_ HB2.out (below_al _ _)) | exact (then_ HDR.out (below_al _ _)) | exact below_al _ _ | exact Below.refl _ _)) ((first
              | (go_at_call 47; (with_reducible refine (HIN2.out _ HDR.out).mono ?_); rintro e w1 ⟨iv, rfl, hown, hb⟩; have HB1 : Hid (Below wi.heap.size wi w1) := then_ HDR.out hb; have HBO := hide (bools_of hown HLK.out); clear hb hown)
              | (go_at_call 47; (with_reducible refine (HIN2.out _ (below_al _ _)).mono ?_); rintro e w1 ⟨iv, rfl, hown, hb⟩; have HB1 : Hid (Below wi.heap.size wi w1) := then_ (below_al _ _) hb; have HV : Hid (w1.heap[wi.heap.size]? = some (.cells #[.map none, .map none] 123 (0, 0))) := at1 hb; have HBO := hide (bools_of hown HLK.out); clear hb hown)
              | (go_at_call 47; (with_reducible refine (HIN2.out _ (then_ HDR.out (below_al _ _))).mono ?_); rintro e w1 ⟨iv, rfl, hown, hb⟩; have HB1 : Hid (Below wi.heap.size wi w1) := then_ (then_ HDR.out (below_al _ _)) hb; have HV : Hid (w1.heap[wi.heap.size]? = some (.cells #[.map none, .map none] 123 (0, 0))) := at1 hb; have HBO := hide (bools_of hown HLK.out); clear hb hown)
              | (go_at_call 47; (with_reducible refine (HIN2.out _ (HAD.out _)).mono ?_); rintro e w1 ⟨iv, rfl, hown, hb⟩; have HB1 : Hid (Below wi.heap.size wi w1) := then_ (HAD.out _) hb; have HV : Hid (w1.heap[wi.heap.size]? = some (.cells #[.map none, .map none] 123 (0, 0))) := at1d hb; have HBO := hide (bools_of hown HLK.out); clear hb hown)
              | (go_at_call 46; (with_reducible refine (HSTP2.out _ _ HB1.out HBO.out).mono ?_); rintro e w2 ⟨hb, v2, rfl, hst⟩; have HB2 : Hid (Below wi.heap.size wi w2) := then_ HB1.out hb; have HV2 := hide ((hb.block _ (lt_some HV.out)).trans HV.out); obtain ⟨t0, t1, t2, t3⟩ := two_cells HV2.out; have HST2 := hide hst; obtain ⟨y1, y2, hy, _⟩ := id hst; subst hy; clear hb hst)
              | (go_at_call 46; (with_reducible refine (HSTP2.out _ _ HB1.out HBO.out).mono ?_); rintro e w2 ⟨hb, v2, rfl, hst⟩; have HB2 : Hid (Below wi.heap.size wi w2) := then_ HB1.out hb; have HB12 := hide hb; have HST2 := hide hst; obtain ⟨y1, y2, hy, _⟩ := id hst; subst hy; clear hb hst)
              | (go_at_call 46; (with_reducible refine (HSTP2.out _ _ (then_ HB1.out (below_al _ _)) (HBO.out.below (below_al _ _))).mono ?_); rintro e w2 ⟨hb, v2, rfl, hst⟩; have HB2 : Hid (Below wi.heap.size wi w2) := then_ (then_ HB1.out (below_al _ _)) hb; have HV2 : Hid (w2.heap[w1.heap.size]? = some (.cells #[.map none, .map none] 123 (0, 0))) := at1 hb; obtain ⟨t0, t1, t2, t3⟩ := two_cells HV2.out; have HST2 := hide hst; obtain ⟨y1, y2, hy, _⟩ := id hst; subst hy; clear hb hst)))
            all_goals go_wp2_with fail
            all_goals go_meet
            all_goals first
              | exact ⟨_, rfl, BX.new HB2.out HST2.out⟩
              | exact ⟨_, rfl, BX.put HV2.out HB2.out HB1.out.size HST2.out⟩
              | exact ⟨_, rfl, BX.put HV2.out HB2.out (Nat.le_refl _) HST2.out⟩
          case rest =>
            obtain ⟨b, rfl, hbx⟩ := hcut
            obtain ⟨_, _, _, _, hbw, _⟩ := id hbx
            have HEV2 := hide (HEV.out wc s k b wB.heap.size wi wo (then_ HBWI.out hbw) hbx (HBXI.out.below hbw))
            have HBC2 := hide hbw
            have HSU := hide (HRS.out s k hlt2)
            generalize Pr.good p x s k = gd at *
            clear hbx hbw x0 x1 x2 x3
            go_wp2_with fail
            refine HEV2.out.mono ?_
            rintro e w5 ⟨rfl, hb5⟩
            have HB5 : Hid (Below wi.heap.size wi w5) := then_ HBC2.out hb5
            obtain ⟨xs, hxs⟩ : ∃ xs, xs = (Pr.goodRow p x I s).take k := ⟨_, rfl⟩
            rw [← hxs] at HO HSU
            have HO5 := hide (own_below HO.out HB5.out)
            have HOWN : Hid (∀ o, (w5.alloc o).ownsRow wC.heap.size 4 1 (.slice la k lc) k (xs.map boolV)) := fun o => HO5.out.alloc o
            have HONE : Hid (∀ u ∈ [Value.bool gd], u.oneCell' = true) := by
              intro u hu
              simp only [List.mem_cons, List.not_mem_nil, or_false] at hu
              subst hu; rfl
            have HC5 : Hid (Below wC.heap.size wC w5) := then_ HBC.out HB5.out
            have hzw : wC.heap.size ≤ w5.heap.size := HC5.out.size
            have HFIN : Hid (∀ (o : Obj) (g2 cap : Nat) (wD : World), wD.ownsRow wC.heap.size 4 1 (.slice (some ⟨g2, 0, none⟩) (k + 1) cap) (k + 1) (xs.map boolV ++ [.bool gd]) → (w5.alloc o).grownBy wD (Value.slice la k lc).ownBlock →
                wD.ownsRow wC.heap.size 4 1 (.slice (some ⟨g2, 0, none⟩) (k + 1) cap) (k + 1) (((Pr.goodRow p x I s).take (k + 1)).map boolV) ∧ Below wC.heap.size wC wD) := by
              intro o g2 cap wD hown hgrow
              rw [HSU.out, List.map_append]
              exact ⟨hown, (HC5.out.alloc (by omega) o).grown hgrow (by simp; omega) (fun j e => (HO5.out.lt j e).1)⟩
            clear hxs hb5
            go_wp2_with (at_builtin; refine wpList_append_lies _ rfl (.tmp 37) (.tmp 42) 51 rfl wC.heap.size 4 i0 _ 1 1 Tryz.underlying51 hi0 hz0 hz1 hz2 rfl (by decide) (.slice la k lc) k (xs.map boolV) rfl (HOWN.out _) ⟨w5.heap.size, 0, none⟩ 1 1 [.bool gd] rfl rfl (World.news_of_block (heap_alloc_new w5 _)) HONE.out (by decide) (by unfold maxLen; omega) (by omega) (by simp; omega) (w5.heap.size + 1) (by simp) ?_; intro g2 cap2 wD hown hgrow hat hltg; obtain ⟨hoD, hcD⟩ := HFIN.out _ g2 cap2 wD hown hgrow; have HOD := hide hoD; have HCD := hide hcD; clear hown hgrow hat hoD hcD)
            go_roundw
            case rel => exact ⟨k + 1, _, _, by omega, by go_num, rfl, HOD.out, HCD.out⟩
            case measure => simp [intOf]; omega
        · obtain rfl : k = I := by omega
          have hle : (Pr.goodRow p x k s).take k = Pr.goodRow p x k s := List.take_of_length_le (by rw [HRL.out]; exact Nat.le_refl _)
          rw [hle] at HO
          have HSU := hide (HOS.out s hlt)
          have HTL : Hid ((rows.take s).length = s) := by show _ = _; rw [List.length_take, HOL.out]; omega
          have HRr := hide (HR.out.below HB.out)
          have HOWN : Hid (∀ o, (wi.alloc o).ownsRow w.heap.size 51 1 (.slice xa s xc) s us) := fun o => by
            have h := HRr.out.own.alloc o
            rw [HTL.out] at h
            exact h
          have HONE : Hid (∀ u ∈ [Value.slice la k lc], u.oneCell' = true) := by
            intro u hu
            simp only [List.mem_cons, List.not_mem_nil, or_false] at hu
            subst hu; rfl
          have HBWI : Hid (Below w.heap.size w wi) := then_ HBW.out HB.out
          have HZC : Hid (w.heap.size ≤ wC.heap.size) := (then_ HBW.out HBOC.out).size
          have hzw : w.heap.size ≤ wi.heap.size := HBWI.out.size
          have HFIN : Hid (∀ (o : Obj) (g2 cap : Nat) (wD : World), wD.ownsRow w.heap.size 51 1 (.slice (some ⟨g2, 0, none⟩) (s + 1) cap) (s + 1) (us ++ [.slice la k lc]) → (wi.alloc o).grownBy wD (Value.slice xa s xc).ownBlock →
              BolR w.heap.size wD (.slice (some ⟨g2, 0, none⟩) (s + 1) cap) (us ++ [.slice la k lc]) (rows.take (s + 1)) ∧ Below w.heap.size w wD) := by
            intro o g2 cap wD hown hgrow
            rw [HSU.out]
            exact ⟨HRr.out.put (by rw [HRL.out]; exact own_mono HO.out HZC.out) o (by rw [HTL.out]; exact hown) hgrow, (HBWI.out.alloc HBWI.out.size o).grown hgrow (by simp; omega) (fun j e => ((HOWN.out o).lt j e).1)⟩
          have hki : ¬ (k : Int) < (k : Int) := by omega
          clear hle
          go_wp2_with (at_builtin; refine wpList_append_lies _ rfl (.tmp 45) (.tmp 47) 31 rfl w.heap.size 51 i1 _ 1 24 Tryz.underlying31 hi1 hy0 hy1 hy2 rfl (by decide) (.slice xa s xc) s us rfl (HOWN.out _) ⟨wi.heap.size, 0, none⟩ 1 1 [.slice la k lc] rfl rfl (World.news_of_block (heap_alloc_new wi _)) HONE.out (by decide) (by unfold maxLen; omega) (by omega) (by simp; omega) (wi.heap.size + 1) (by simp) ?_; intro g2 cap2 wD hown hgrow hat hltg; obtain ⟨hrD, hbD⟩ := HFIN.out _ g2 cap2 wD hown hgrow; have HRD := hide hrD; have HBD := hide hbD; clear hown hgrow hat hrD hbD)
          go_roundw
          case rel => exact ⟨s + 1, _, _, _, by omega, by go_num, rfl, HRD.out, HBD.out⟩
          case measure => simp [intOf]; omega
    · obtain rfl : s = S := by omega
      have HF : Hid (GoodAt wo (.slice xa s xc) s I (Pr.goodRow p x I)) := by
        refine HGA.out wo _ us ?_
        have h := HR.out
        rw [List.take_of_length_le (by rw [HOL.out]; exact Nat.le_refl _)] at h
        exact h
      have hsi : ¬ (s : Int) < (s : Int) := by omega
      go_wp2_with fail
      go_ret
      exact ⟨_, rfl, HF.out, HBW.out⟩
end Rf
end
end Go.Proofs.YtgldbliohpfljaaGreatDoor
