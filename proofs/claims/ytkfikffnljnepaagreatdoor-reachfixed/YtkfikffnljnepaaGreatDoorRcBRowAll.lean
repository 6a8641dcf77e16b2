/-
  A machine's table, state by state, as it lies in memory. The document's table of what comes of which, in plain words: it is package machine's. Plain mathematics of chapter 5: the least sets that are shut (TARSKI), and what the two have to do with each other. The document's fixed points, step by step, in plain words: what it comes to is what package reach's does. The document's fixed points, in plain words: a pass over all states; what it comes to. Slices of bools that came in, at whatever offset. (Out of RcTarM.) Rows of bools in memory, and what lies behind them.
-/
import Derived.Test.YtkfikffnljnepaaGreatDoorRfStateMAll
import Derived.Test.YtkfikffnljnepaaGreatDoorRcMathAll
namespace Go.Proofs.YtkfikffnljnepaaGreatDoor
section
open Go.RowKit
/-- where a state leads to, input by input -/
def Mc.nexts (p : Ld.Prg) (s : Nat) : List Nat := (List.range (2 ^ (Ld.kindL p.names 1).length)).map fun i => Mc.number (Mc.parts p) (Mc.after1 p (Ld.kindL p.names 1).length s i).is (Mc.after1 p (Ld.kindL p.names 1).length s i).ct
theorem Mc.nexts_len (p : Ld.Prg) (s : Nat) : (Mc.nexts p s).length = 2 ^ (Ld.kindL p.names 1).length := by simp [Mc.nexts]
theorem Mc.nexts_row (p : Ld.Prg) (s : Nat) : Mc.nextRow p (Ld.kindL p.names 1).length (2 ^ (Ld.kindL p.names 1).length) s = (Mc.nexts p s).map intV := by simp [Mc.nexts, Mc.nextRow, intV]
theorem Mc.nexts_lt (p : Ld.Prg) (hck : Ld.check p = none) (s x : Nat) (h : x ∈ Mc.nexts p s) : x < Mc.total (Mc.parts p) := by
  unfold Mc.nexts at h
  obtain ⟨i, _, rfl⟩ := List.mem_map.1 h
  exact Mc.number_after p _ (Sc.step_bd p hck _ _ (Mc.state_bd p hck s) (bitsTo_len _ _)).1
/-- a machine's table: from each state, by each input -/
def NextAt (W : World) (bm S I : Nat) (next : Nat → List Nat) (gN : Nat) (uN : List Nat) : Prop := W.cell? ⟨bm, 4, none⟩ = some (.slice (some ⟨gN, 0, none⟩) S S) ∧ uN.length = S ∧ ∀ (s b : Nat), uN[s]? = some b → W.cell? ⟨gN, s, none⟩ = some (.slice (some ⟨b, 0, none⟩) I I) ∧ ∀ (i x : Nat), (next s)[i]? = some x → W.cell? ⟨b, i, none⟩ = some (.int .i64 (x : Int))
theorem NextAt.below {W W' : World} {bm S I gN : Nat} {next : Nat → List Nat} {uN : List Nat} (h : NextAt W bm S I next gN uN) (hb : Below W.heap.size W W') : NextAt W' bm S I next gN uN :=
  have key : ∀ (p : Addr) v, W.cell? p = some v → W'.cell? p = some v := fun _ _ hv => (hb.cell (World.block_lt_of_cell? _ _ hv)).trans hv
  ⟨key _ _ h.1, h.2.1, fun s b hs => ⟨key _ _ (h.2.2 s b hs).1, fun i x hx => key _ _ ((h.2.2 s b hs).2 i x hx)⟩⟩
/-- a slice of one that the call has built -/
theorem own_one (W : World) (q : Nat) (e : TypeId) (v : Value) (hq : q ≤ W.heap.size) : (W.alloc (.cells #[v] e)).ownsRow q e 1 (.slice (some ⟨W.heap.size, 0, none⟩) 1 1) 1 [v] :=
  ⟨by simp, .inr ⟨W.heap.size, 1, #[v], rfl, hq, heap_alloc_new W _, Nat.le_refl _, by decide, by simp, by simp⟩⟩
end
section
namespace Rf
open Go.RowKit
theorem nextL_is (p : Ld.Prg) (hck : Ld.check p = none) (s : Nat) : nextL p (2 ^ (Ld.kindL p.names 1).length) s = Mc.nexts p s := by
  unfold nextL Mc.nexts
  exact List.map_congr_left fun i _ => nxt_is p hck s i
theorem nextsL_small (p : Ld.Prg) (hck : Ld.check p = none) (S I : Nat) (hS : Mc.total (Mc.parts p) ≤ 4096) : ∀ b, b ∈ nextsL p S I → ∀ i, i ∈ b → i ≤ 1000000 := fun b hb i hi => by
  obtain ⟨s, _, rfl⟩ := List.mem_map.1 hb
  obtain ⟨j, _, rfl⟩ := List.mem_map.1 hi
  have h := (nxt_small p hck s j hS).1 0 (Nat.zero_le _)
  rw [numAt_zero] at h
  exact h
theorem nextsL_map (p : Ld.Prg) (hck : Ld.check p = none) (S : Nat) : (nextsL p S (2 ^ (Ld.kindL p.names 1).length)).map asI = (List.range S).map fun s => asI (Mc.nexts p s) := by
  unfold nextsL
  rw [List.map_map]
  exact List.map_congr_left fun s _ => by show asI _ = asI _; rw [nextL_is p hck]
end Rf
end
section
namespace Rc
/-- is a state in a list? -/
def Has (l : List Bool) (s : Nat) : Prop := l.getD s false = true
def Some (next : Nat → List Nat) (X : Nat → Prop) (s : Nat) : Prop := ∃ t, t ∈ next s ∧ X t
def All (next : Nat → List Nat) (X : Nat → Prop) (s : Nat) : Prop := ∀ t, t ∈ next s → X t
/-- the fewest states that have some, and are shut -/
structure Grown (S : Nat) (E : (Nat → Prop) → Nat → Prop) (l r : List Bool) : Prop where
  len : r.length = S
  more : ∀ s, s < S → Has l s → Has r s
  shut : ∀ s, s < S → E (Has r) s → Has r s
  least : ∀ X : Nat → Prop, (∀ s, s < S → Has l s → X s) → (∀ s, s < S → E X s → X s) → ∀ s, s < S → Has r s → X s
theorem has_ext {S : Nat} {a b : List Bool} (ha : a.length = S) (hb : b.length = S) (h : ∀ s, s < S → (Has a s ↔ Has b s)) : a = b := by
  apply Mc.ext_getD (by omega)
  intro k hk
  have := h k (by omega)
  unfold Has at this
  cases h1 : a.getD k false <;> cases h2 : b.getD k false <;> simp_all
theorem Grown.one {S : Nat} {E : (Nat → Prop) → Nat → Prop} {l a b : List Bool} (ha : Grown S E l a) (hb : Grown S E l b) : a = b :=
  has_ext ha.len hb.len fun s hs => ⟨ha.least (Has b) hb.more hb.shut s hs, hb.least (Has a) ha.more ha.shut s hs⟩
/-- what is shut grows no more -/
theorem Grown.again {S : Nat} {E : (Nat → Prop) → Nat → Prop} {l a b : List Bool} (ha : Grown S E l a) (hb : Grown S E a b) : b = a :=
  has_ext hb.len ha.len fun s hs => ⟨hb.least (Has a) (fun _ _ h => h) ha.shut s hs, hb.more s hs⟩
def turn (l : List Bool) : List Bool := l.map (!·)
theorem turn_turn (l : List Bool) : turn (turn l) = l := by unfold turn; rw [List.map_map]; simp [Function.comp_def]
theorem turn_len (l : List Bool) : (turn l).length = l.length := by simp [turn]
theorem turn_at (l : List Bool) (s : Nat) (hs : s < l.length) : (turn l).getD s false = !l.getD s false := by simp [turn, hs]
theorem forces_comes {S : Nat} {next : Nat → List Nat} {l f c : List Bool} (hne : ∀ s, s < S → next s ≠ []) (hf : Grown S (All next) l f) (hc : Grown S (Some next) l c) (s : Nat) (hs : s < S) (h : Has f s) : Has c s :=
  hf.least (Has c) hc.more (fun t ht ha => hc.shut t ht (by
    cases hn : next t with
    | nil => exact absurd hn (hne t ht)
    | cons x r => exact ⟨x, by rw [hn]; simp, ha x (by rw [hn]; simp)⟩)) s hs h
theorem forces_not {S : Nat} {next : Nat → List Nat} {l f : List Bool} (hf : Grown S (All next) l f) (s : Nat) (hs : s < S) (h : ¬ Has f s) : ∃ t, t ∈ next s ∧ ¬ Has f t := by
  refine Classical.byContradiction fun hx => h (hf.shut s hs fun t ht => ?_)
  exact Classical.byContradiction fun hn => hx ⟨t, ht, hn⟩
/-- from the first state one may come to some just if one that is come to is among them -/
theorem comes_zero {S : Nat} {next : Nat → List Nat} {q : Qu} {l c : List Bool} (hS : 1 ≤ S) (hq : Far next S q) (hc : Grown S (Some next) l c) : Has c 0 ↔ ∃ s, s < S ∧ 0 ≤ (q.at_ s).far ∧ Has l s := by
  constructor
  · intro h0
    refine Classical.byContradiction fun hx => ?_
    have := hc.least (fun s => (q.at_ s).far < 0) (fun s hs hl => Classical.byContradiction fun hn => hx ⟨s, hs, by omega, hl⟩) (fun s hs ⟨t, ht, hf⟩ => Classical.byContradiction fun hn => by
      have := (hq.near s t hs (by omega) ht).1
      omega) 0 (by omega) h0
    rw [hq.zero] at this
    omega
  · rintro ⟨s, hs, hf, hl⟩
    have key : ∀ (n : Nat) (s : Nat), s < S → (q.at_ s).far = n → Has c s → Has c 0 := by
      intro n
      induction n with
      | zero => intro s hs h1 h2; rw [hq.one s hs h1] at h2; exact h2
      | succ n ih =>
        intro s hs h1 h2
        obtain ⟨p1, p2, p3⟩ := hq.par s hs (by omega)
        exact ih _ p1 (by omega) (hc.shut _ p1 ⟨s, List.mem_of_getElem? p3, h2⟩)
    exact key ((q.at_ s).far.toNat) s hs (by omega) (hc.more s hs hl)
/-- how sets grow: those that lead to one that was put in are asked -/
structure Grow (S : Nat) (E : (Nat → Prop) → Nat → Prop) (next : Nat → List Nat) (l : List Bool) (cur : List Bool) (fresh : List Nat) : Prop where
  len : cur.length = S
  more : ∀ s, s < S → Has l s → Has cur s
  least : ∀ X : Nat → Prop, (∀ s, s < S → Has l s → X s) → (∀ s, s < S → E X s → X s) → ∀ s, s < S → Has cur s → X s
  frin : ∀ s, s ∈ fresh → s < S
  open_ : ∀ s, s < S → ¬ Has cur s → E (Has cur) s → ∃ t, t ∈ fresh ∧ t ∈ next s
/-- while those ahead of 'last' are asked: the first j are done -/
structure GrowIn (S : Nat) (E : (Nat → Prop) → Nat → Prop) (next : Nat → List Nat) (l : List Bool) (cur : List Bool) (fresh : List Nat) (pre : List Nat) (j : Nat) : Prop where
  len : cur.length = S
  more : ∀ s, s < S → Has l s → Has cur s
  least : ∀ X : Nat → Prop, (∀ s, s < S → Has l s → X s) → (∀ s, s < S → E X s → X s) → ∀ s, s < S → Has cur s → X s
  frin : ∀ s, s ∈ fresh → s < S
  open_ : ∀ s, s < S → ¬ Has cur s → E (Has cur) s → (∃ t, t ∈ fresh ∧ t ∈ next s) ∨ s ∈ pre.drop j
/-- a way of asking: more is asked of more, and of where a state leads to alone -/
structure Asks (next : Nat → List Nat) (E : (Nat → Prop) → Nat → Prop) : Prop where
  mono : ∀ (X Y : Nat → Prop) (s : Nat), (∀ t, X t → Y t) → E X s → E Y s
  near : ∀ (X Y : Nat → Prop) (s : Nat), (∀ t, t ∈ next s → (X t ↔ Y t)) → E X s → E Y s
theorem asks_some (next : Nat → List Nat) : Asks next (Some next) := ⟨fun _ _ _ h ⟨t, h1, h2⟩ => ⟨t, h1, h t h2⟩, fun _ _ _ h ⟨t, h1, h2⟩ => ⟨t, h1, (h t h1).1 h2⟩⟩
theorem asks_all (next : Nat → List Nat) : Asks next (All next) := ⟨fun _ _ _ h ha t ht => h t (ha t ht), fun _ _ _ h ha t ht => (h t ht).1 (ha t ht)⟩
theorem has_lt {l : List Bool} {s : Nat} (h : Has l s) : s < l.length := by
  refine Classical.byContradiction fun hn => ?_
  unfold Has at h
  rw [List.getD_eq_getElem?_getD, List.getElem?_eq_none (by omega)] at h
  cases h
theorem has_set (l : List Bool) (s t : Nat) (hs : s < l.length) : Has (l.set s true) t ↔ t = s ∨ Has l t := by
  unfold Has
  rw [Sc.getD_set]
  by_cases h : t = s
  · subst h; simp [hs]
  · simp [h]
theorem Grow.pop {S : Nat} {E : (Nat → Prop) → Nat → Prop} {next : Nat → List Nat} {l cur : List Bool} {fresh pre : List Nat} {last : Nat} (h : Grow S E next l cur (fresh ++ [last])) (hp : ∀ s, s < S → last ∈ next s → s ∈ pre) : GrowIn S E next l cur fresh pre 0 :=
  ⟨h.len, h.more, h.least, fun s hs => h.frin s (by simp [hs]), fun s hs hn he => by
    obtain ⟨t, h1, h2⟩ := h.open_ s hs hn he
    rcases List.mem_append.1 h1 with h1 | h1
    · exact .inl ⟨t, h1, h2⟩
    · simp at h1; subst h1; exact .inr (by rw [List.drop_zero]; exact hp s hs h2)⟩
theorem GrowIn.end_ {S : Nat} {E : (Nat → Prop) → Nat → Prop} {next : Nat → List Nat} {l cur : List Bool} {fresh pre : List Nat} (h : GrowIn S E next l cur fresh pre pre.length) : Grow S E next l cur fresh :=
  ⟨h.len, h.more, h.least, h.frin, fun s hs hn he => by
    rcases h.open_ s hs hn he with h1 | h1
    · exact h1
    · rw [List.drop_length] at h1; cases h1⟩
theorem GrowIn.pass {S : Nat} {E : (Nat → Prop) → Nat → Prop} {next : Nat → List Nat} {l cur : List Bool} {fresh pre : List Nat} {j s : Nat} (h : GrowIn S E next l cur fresh pre j) (hj : pre[j]? = some s) (hx : Has cur s ∨ ¬ E (Has cur) s) : GrowIn S E next l cur fresh pre (j + 1) :=
  ⟨h.len, h.more, h.least, h.frin, fun t ht hn he => by
    rcases h.open_ t ht hn he with h1 | h1
    · exact .inl h1
    · obtain ⟨hjl, e⟩ := List.getElem?_eq_some_iff.1 hj
      rw [List.drop_eq_getElem_cons hjl] at h1
      rcases List.mem_cons.1 h1 with h1 | h1
      · rw [e] at h1
        subst h1
        rcases hx with hx | hx
        · exact absurd hx hn
        · exact absurd he hx
      · exact .inr h1⟩
theorem GrowIn.put {S : Nat} {E : (Nat → Prop) → Nat → Prop} {next : Nat → List Nat} {l cur : List Bool} {fresh pre : List Nat} {j s : Nat} (ha : Asks next E) (h : GrowIn S E next l cur fresh pre j) (hj : pre[j]? = some s) (hs : s < S) (he : E (Has cur) s) : GrowIn S E next l (cur.set s true) (fresh ++ [s]) pre (j + 1) := by
  have hsl : s < cur.length := by rw [h.len]; exact hs
  have hset := fun t => has_set cur s t hsl
  refine ⟨by simp [h.len], fun t ht hl => (hset t).2 (.inr (h.more t ht hl)), ?_, ?_, ?_⟩
  · intro X h1 h2 t ht hx
    rcases (hset t).1 hx with rfl | hx
    · exact h2 _ hs (ha.mono (Has cur) X _ (fun u hu => h.least X h1 h2 u (by rw [← h.len]; exact has_lt hu) hu) he)
    · exact h.least X h1 h2 t ht hx
  · intro t ht
    rcases List.mem_append.1 ht with ht | ht
    · exact h.frin t ht
    · simp at ht; subst ht; exact hs
  · intro t ht hn hE
    have hnt : ¬ Has cur t := fun hx => hn ((hset t).2 (.inr hx))
    have hts : t ≠ s := fun e => hn ((hset t).2 (.inl e))
    by_cases hE0 : E (Has cur) t
    · rcases h.open_ t ht hnt hE0 with ⟨u, h1, h2⟩ | h1
      · exact .inl ⟨u, by simp [h1], h2⟩
      · obtain ⟨hjl, e⟩ := List.getElem?_eq_some_iff.1 hj
        rw [List.drop_eq_getElem_cons hjl] at h1
        rcases List.mem_cons.1 h1 with h1 | h1
        · rw [e] at h1; exact absurd h1 hts
        · exact .inr h1
    · refine .inl ⟨s, by simp, Classical.byContradiction fun hns => hE0 (ha.near _ _ t (fun u hu => ?_) hE)⟩
      rw [hset u]
      exact ⟨fun hx => hx.resolve_left (fun e => hns (by rw [← e]; exact hu)), .inr⟩
/-- all that were told are fresh at first -/
theorem Grow.start {S : Nat} {E : (Nat → Prop) → Nat → Prop} {next : Nat → List Nat} {l : List Bool} {fresh : List Nat} (hl : l.length = S) (hit : ∀ (X : Nat → Prop) s, s < S → E X s → ∃ t, t ∈ next s ∧ X t) (hf : ∀ s, s ∈ fresh ↔ Has l s) : Grow S E next l l fresh :=
  ⟨hl, fun _ _ h => h, fun X h1 _ s hs h => h1 s hs h, fun s hs => by rw [← hl]; exact has_lt ((hf s).1 hs), fun s hs _ he => by
    obtain ⟨t, h1, h2⟩ := hit _ s hs he
    exact ⟨t, (hf t).2 h2, h1⟩⟩
theorem Grow.done {S : Nat} {E : (Nat → Prop) → Nat → Prop} {next : Nat → List Nat} {l cur : List Bool} (h : Grow S E next l cur []) : Grown S E l cur :=
  ⟨h.len, h.more, fun s hs he => Classical.byContradiction fun hn => (by obtain ⟨t, ht, _⟩ := h.open_ s hs hn he; cases ht), h.least⟩
end Rc
end
section
namespace Rf
open Rc
/-- so far: all that was given, and nothing that need not be -/
structure Iter (S : Nat) (E : (Nat → Prop) → Nat → Prop) (l cur : List Bool) : Prop where
  len : cur.length = S
  base : ∀ s, s < S → Has l s → Has cur s
  least : ∀ X : Nat → Prop, (∀ s, s < S → Has l s → X s) → (∀ s, s < S → E X s → X s) → ∀ s, s < S → Has cur s → X s
theorem Iter.start {S : Nat} {E : (Nat → Prop) → Nat → Prop} {l : List Bool} (hl : l.length = S) : Iter S E l l := ⟨hl, fun _ _ h => h, fun _ h _ s hs hx => h s hs hx⟩
theorem Iter.pass {S : Nat} {next : Nat → List Nat} {E : (Nat → Prop) → Nat → Prop} {l cur nxt : List Bool} (ha : Asks next E) (h : Iter S E l cur) (hn : nxt.length = S) (hx : ∀ s, s < S → (Has nxt s ↔ Has cur s ∨ E (Has cur) s)) : Iter S E l nxt := by
  refine ⟨hn, fun s hs hl => (hx s hs).2 (.inl (h.base s hs hl)), fun X h1 h2 s hs hh => ?_⟩
  have h3 := h.least X h1 h2
  rcases (hx s hs).1 hh with h4 | h4
  · exact h3 s hs h4
  · exact h2 s hs (ha.mono _ _ s (fun t ht => h3 t (by have := has_lt ht; rw [h.len] at this; exact this) ht) h4)
theorem Iter.done {S : Nat} {E : (Nat → Prop) → Nat → Prop} {l cur : List Bool} (h : Iter S E l cur) (hs : ∀ s, s < S → E (Has cur) s → Has cur s) : Grown S E l cur := ⟨h.len, h.base, hs, h.least⟩
end Rf
end
section
namespace Rf
open Rc
/-- how many of these are among some -/
def cnt (cur : List Bool) (l : List Nat) : Nat := (l.filter fun t => cur.getD t false).length
theorem cnt_all (cur : List Bool) (l : List Nat) : cnt cur l = l.length ↔ ∀ t, t ∈ l → Has cur t := by
  unfold cnt
  rw [List.length_filter_eq_length_iff]
  exact Iff.rfl
theorem cnt_some (cur : List Bool) (l : List Nat) : 0 < cnt cur l ↔ ∃ t, t ∈ l ∧ Has cur t := by
  unfold cnt
  rw [List.length_pos_iff_exists_mem]
  exact ⟨fun ⟨t, ht⟩ => ⟨t, (List.mem_filter.1 ht).1, (List.mem_filter.1 ht).2⟩, fun ⟨t, h1, h2⟩ => ⟨t, List.mem_filter.2 ⟨h1, h2⟩⟩⟩
theorem cnt_succ (cur : List Bool) (l : List Nat) (k : Nat) (h : k < l.length) : cnt cur (l.take (k + 1)) = cnt cur (l.take k) + if cur.getD l[k] false = true then 1 else 0 := by
  unfold cnt
  rw [List.take_succ_eq_append_getElem h, List.filter_append, List.length_append]
  congr 1
  by_cases hc : cur.getD l[k] false = true
  · rw [if_pos hc]; simp only [List.filter_cons, hc, if_true, List.filter_nil, List.length_singleton]
  · rw [if_neg hc]
    have : cur.getD l[k] false = false := by simpa using hc
    simp only [List.filter_cons, this]
    rfl
theorem cnt_le (cur : List Bool) (l : List Nat) : cnt cur l ≤ l.length := List.length_filter_le _ _
/-- kinds: 0 stays, 1 comes, 2 forces -/
def fstep (kd : Nat) (next : Nat → List Nat) (cur : List Bool) (s : Nat) : Bool :=
  if kd = 0 then cur.getD s false && decide (cnt cur (next s) = (next s).length)
  else if kd = 1 then cur.getD s false || decide (0 < cnt cur (next s))
  else cur.getD s false || decide (cnt cur (next s) = (next s).length)
def fpass (kd : Nat) (next : Nat → List Nat) (S : Nat) (cur : List Bool) : List Bool := (List.range S).map (fstep kd next cur)
theorem fpass_len (kd : Nat) (next : Nat → List Nat) (S : Nat) (cur : List Bool) : (fpass kd next S cur).length = S := by simp [fpass]
theorem fpass_at (kd : Nat) (next : Nat → List Nat) (S : Nat) (cur : List Bool) (s : Nat) (h : s < S) : (fpass kd next S cur).getD s false = fstep kd next cur s := by
  rw [List.getD_eq_getElem?_getD, fpass, List.getElem?_map, List.getElem?_range h]
  rfl
/-- how many may still turn -/
def left (kd : Nat) (cur : List Bool) : Nat := if kd = 0 then cur.countP (fun b => b) else (turn cur).countP (fun b => b)
theorem count_lt : ∀ (a b : List Bool), a.length = b.length → (∀ i, b.getD i false = true → a.getD i false = true) → b ≠ a → b.countP (fun b => b) < a.countP (fun b => b)
  | [], [], _, _, h => absurd rfl h
  | [], _ :: _, h, _, _ => by simp at h
  | _ :: _, [], h, _, _ => by simp at h
  | x :: a, y :: b, hl, hi, hne => by
    have hl2 : a.length = b.length := by simpa using hl
    have hi2 : ∀ i, b.getD i false = true → a.getD i false = true := fun i h => by have := hi (i + 1); simpa using this (by simpa using h)
    have h0 : y = true → x = true := fun h => by have := hi 0; simpa using this (by simpa using h)
    have hle : b.countP (fun b => b) ≤ a.countP (fun b => b) := by
      by_cases e : b = a
      · rw [e]; exact Nat.le_refl _
      · exact Nat.le_of_lt (count_lt a b hl2 hi2 e)
    by_cases e : b = a
    · subst e
      cases x <;> cases y
      · exact absurd rfl hne
      · cases h0 rfl
      · simp
      · exact absurd rfl hne
    · have := count_lt a b hl2 hi2 e
      cases x <;> cases y
      · simpa using this
      · cases h0 rfl
      · simp; omega
      · simpa using this
theorem has_turn (S : Nat) (l : List Bool) (hl : l.length = S) (s : Nat) (hs : s < S) : Has (turn l) s ↔ ¬ Has l s := by
  unfold Has
  rw [turn_at l s (by omega)]
  simp
theorem left_lt (kd : Nat) (next : Nat → List Nat) (S : Nat) (cur : List Bool) (hl : cur.length = S) (hne : fpass kd next S cur ≠ cur) : left kd (fpass kd next S cur) < left kd cur := by
  unfold left
  by_cases h0 : kd = 0
  · rw [if_pos h0, if_pos h0]
    refine count_lt _ _ (by rw [fpass_len, hl]) (fun i h => ?_) hne
    by_cases hi : i < S
    · rw [fpass_at _ _ _ _ _ hi] at h
      unfold fstep at h
      rw [if_pos h0] at h
      simp only [Bool.and_eq_true] at h
      exact h.1
    · rw [List.getD_eq_getElem?_getD, List.getElem?_eq_none (by rw [fpass_len]; omega)] at h
      cases h
  · rw [if_neg h0, if_neg h0]
    refine count_lt _ _ (by rw [turn_len, turn_len, fpass_len, hl]) (fun i h => ?_) (fun e => hne (by rw [← turn_turn (fpass kd next S cur), e, turn_turn]))
    by_cases hi : i < S
    · rw [turn_at _ _ (by rw [fpass_len]; exact hi), fpass_at _ _ _ _ _ hi] at h
      rw [turn_at _ _ (by omega)]
      unfold fstep at h
      rw [if_neg h0] at h
      cases hc : cur.getD i false with
      | false => rfl
      | true => rw [hc] at h; split at h <;> simp at h
    · rw [List.getD_eq_getElem?_getD, List.getElem?_eq_none (by rw [turn_len, fpass_len]; omega)] at h
      cases h
def FInv (kd S : Nat) (next : Nat → List Nat) (l cur : List Bool) : Prop := cur.length = S ∧ if kd = 0 then Iter S (Some next) (turn l) (turn cur) else if kd = 1 then Iter S (Some next) l cur else Iter S (All next) l cur
def FGrown (kd S : Nat) (next : Nat → List Nat) (l r : List Bool) : Prop := r.length = S ∧ if kd = 0 then Grown S (Some next) (turn l) (turn r) else if kd = 1 then Grown S (Some next) l r else Grown S (All next) l r
theorem FInv.start (kd S : Nat) (next : Nat → List Nat) (l : List Bool) (hl : l.length = S) : FInv kd S next l l := by
  refine ⟨hl, ?_⟩
  split
  · exact Iter.start (by rw [turn_len]; exact hl)
  · split
    · exact Iter.start hl
    · exact Iter.start hl
theorem fpass_has (kd S : Nat) (next : Nat → List Nat) (cur : List Bool) (s : Nat) (hs : s < S) : Has (fpass kd next S cur) s ↔ (if kd = 0 then Has cur s ∧ ∀ t, t ∈ next s → Has cur t else if kd = 1 then Has cur s ∨ Some next (Has cur) s else Has cur s ∨ All next (Has cur) s) := by
  have e : Has (fpass kd next S cur) s ↔ fstep kd next cur s = true := by
    unfold Has
    rw [fpass_at _ _ _ _ _ hs]
  rw [e]
  unfold fstep
  split
  · rw [Bool.and_eq_true, decide_eq_true_eq, cnt_all]
    exact Iff.rfl
  · split
    · rw [Bool.or_eq_true, decide_eq_true_eq, cnt_some]
      exact Iff.rfl
    · rw [Bool.or_eq_true, decide_eq_true_eq, cnt_all]
      exact Iff.rfl
theorem FInv.pass {kd S : Nat} {next : Nat → List Nat} {l cur : List Bool} (h : FInv kd S next l cur) (hnx : ∀ f s, f < S → s ∈ next f → s < S) : FInv kd S next l (fpass kd next S cur) := by
  obtain ⟨hl, h⟩ := h
  refine ⟨fpass_len _ _ _ _, ?_⟩
  by_cases h0 : kd = 0
  · rw [if_pos h0] at h ⊢
    refine h.pass (asks_some next) (by rw [turn_len, fpass_len]) (fun s hs => ?_)
    rw [has_turn S _ (fpass_len _ _ _ _) s hs, has_turn S _ hl s hs, fpass_has kd S next cur s hs, if_pos h0]
    constructor
    · intro hx
      by_cases hc : Has cur s
      · refine .inr (Classical.byContradiction fun hn => hx ⟨hc, fun t ht => Classical.byContradiction fun hnt => hn ⟨t, ht, (has_turn S _ hl t (hnx s t hs ht)).2 hnt⟩⟩)
      · exact .inl hc
    · rintro (hx | ⟨t, ht, hx⟩) ⟨h1, h2⟩
      · exact hx h1
      · exact (has_turn S _ hl t (hnx s t hs ht)).1 hx (h2 t ht)
  · rw [if_neg h0] at h ⊢
    by_cases h1 : kd = 1
    · rw [if_pos h1] at h ⊢
      refine h.pass (asks_some next) (fpass_len _ _ _ _) (fun s hs => ?_)
      rw [fpass_has kd S next cur s hs, if_neg h0, if_pos h1]
    · rw [if_neg h1] at h ⊢
      refine h.pass (asks_all next) (fpass_len _ _ _ _) (fun s hs => ?_)
      rw [fpass_has kd S next cur s hs, if_neg h0, if_neg h1]
theorem FInv.done {kd S : Nat} {next : Nat → List Nat} {l cur : List Bool} (h : FInv kd S next l cur) (hnx : ∀ f s, f < S → s ∈ next f → s < S) (he : fpass kd next S cur = cur) : FGrown kd S next l cur := by
  obtain ⟨hl, h⟩ := h
  refine ⟨hl, ?_⟩
  have hf := fun s hs => fpass_has kd S next cur s hs
  rw [he] at hf
  by_cases h0 : kd = 0
  · rw [if_pos h0] at h ⊢
    refine h.done (fun s hs ⟨t, ht, hx⟩ => ?_)
    rw [has_turn S _ hl s hs]
    intro hc
    have := (hf s hs).1 hc
    rw [if_pos h0] at this
    exact (has_turn S _ hl t (hnx s t hs ht)).1 hx (this.2 t ht)
  · rw [if_neg h0] at h ⊢
    by_cases h1 : kd = 1
    · rw [if_pos h1] at h ⊢
      refine h.done (fun s hs hx => (hf s hs).2 ?_)
      rw [if_neg h0, if_pos h1]
      exact .inr hx
    · rw [if_neg h1] at h ⊢
      refine h.done (fun s hs hx => (hf s hs).2 ?_)
      rw [if_neg h0, if_neg h1]
      exact .inr hx
end Rf
end
section
open Go.RowKit
/-- a slice of bools that came in -/
def BoolsO (w : World) (v : Value) (l : List Bool) : Prop :=
  (l = [] ∧ ∃ a cap, v = .slice a 0 cap) ∨ ∃ g o cap, v = .slice (some ⟨g, o, none⟩) l.length cap ∧ l.length ≤ cap ∧ ∀ (k : Nat) x, l[k]? = some x → w.cell? ⟨g, o + k, none⟩ = some (.bool x)
theorem BoolsO.below {w w' : World} {v : Value} {l : List Bool} (h : BoolsO w v l) (hb : Below w.heap.size w w') : BoolsO w' v l := by
  rcases h with h | ⟨g, o, cap, h1, h2, h3⟩
  · exact .inl h
  · exact .inr ⟨g, o, cap, h1, h2, fun k x hk => (hb.cell (World.block_lt_of_cell? _ _ (h3 k x hk))).trans (h3 k x hk)⟩
theorem BoolsO.slice {w : World} {v : Value} {l : List Bool} (h : BoolsO w v l) : ∃ a c, v = .slice a l.length c := by
  rcases h with ⟨rfl, a, c, rfl⟩ | ⟨g, o, cap, rfl, _⟩
  · exact ⟨a, c, rfl⟩
  · exact ⟨_, _, rfl⟩
theorem BoolsO.cell {w : World} {a : Option Addr} {n c : Nat} {l : List Bool} (h : BoolsO w (.slice a n c) l) (k : Nat) (x : Bool) (hx : l[k]? = some x) : ∃ g o, a = some ⟨g, o, none⟩ ∧ w.cell? ⟨g, o + k, none⟩ = some (.bool x) := by
  rcases h with ⟨h0, _⟩ | ⟨g, o, cap, h1, h2, h3⟩
  · rw [h0] at hx; simp at hx
  · simp only [Value.slice.injEq] at h1
    exact ⟨g, o, h1.1, h3 k x hx⟩
theorem Bools.o {w : World} {v : Value} {l : List Bool} (h : Bools w v l) (hc : l = [] ∨ ∃ g cap, v = .slice (some ⟨g, 0, none⟩) l.length cap ∧ l.length ≤ cap) : BoolsO w v l := by
  rcases hc with h0 | ⟨g, cap, hv, hle⟩
  · obtain ⟨a, c, h1, _⟩ := h
    subst h0
    exact .inl ⟨rfl, a, c, h1⟩
  · obtain ⟨a, c, h1, _, h3⟩ := h
    refine .inr ⟨g, 0, cap, hv, hle, fun k x hx => ?_⟩
    obtain ⟨g', e1, e2⟩ := h3 k x hx
    rw [hv] at h1
    simp only [Value.slice.injEq] at h1
    rw [← h1.1] at e1
    cases e1
    rw [Nat.zero_add]
    exact e2
end
section
open Go.RowKit
/-- a row of bools, and what lies behind them -/
def BRow (W : World) (g : Nat) (l : List Bool) (rest : List Value) : Prop := RowIs W g 4 (l.map boolV ++ rest)
theorem BRow.below {W W' : World} {g : Nat} {l : List Bool} {rest : List Value} (h : BRow W g l rest) (hb : Below W.heap.size W W') : BRow W' g l rest := RowIs.below h hb
theorem BRow.cell {W : World} {g : Nat} {l : List Bool} {rest : List Value} (h : BRow W g l rest) (k : Nat) (b : Bool) (hb : l[k]? = some b) : W.cell? ⟨g, k, none⟩ = some (.bool b) :=
  RowIs.cell h k _ (by rw [List.getElem?_append_left (by rw [List.length_map]; exact (List.getElem?_eq_some_iff.1 hb).1), List.getElem?_map, hb]; rfl)
theorem BRow.set {W : World} {g : Nat} {l : List Bool} {rest : List Value} (h : BRow W g l rest) (k : Nat) (b : Bool) (hk : k < l.length) : BRow (W.setCell ⟨g, k, none⟩ (.bool b)) g (l.set k b) rest := by
  have h1 := RowIs.set h k (.bool b)
  rw [List.set_append_left _ _ (by rw [List.length_map]; exact hk)] at h1
  unfold BRow
  rw [List.map_set]
  exact h1
theorem BRow.bools {W : World} {g cp : Nat} {l : List Bool} {rest : List Value} (h : BRow W g l rest) (hl : l.length ≤ 1000000) : Bools W (.slice (some ⟨g, 0, none⟩) l.length cp) l :=
  ⟨_, _, rfl, hl, fun i b hb => ⟨g, rfl, h.cell i b hb⟩⟩
def lenV : Value → Nat
  | .slice _ n _ => n
  | _ => 0
theorem own_pop {W : World} {q g n cap : Nat} {e : TypeId} {xs : List Value} (h : W.ownsRow q e 1 (.slice (some ⟨g, 0, none⟩) (n + 1) cap) (n + 1) xs) : W.ownsRow q e 1 (.slice (some ⟨g, 0, none⟩) n cap) n (xs.take n) := by
  obtain ⟨h0, h1⟩ := h
  refine ⟨by rw [List.length_take]; omega, ?_⟩
  rcases h1 with ⟨hx, _⟩ | ⟨g', cap', cur, hx, h2, h3, h4, h5, h6, h7⟩
  · cases hx
  · simp only [Value.slice.injEq, Option.some.injEq, Addr.mk.injEq, true_and] at hx
    obtain ⟨⟨rfl, _⟩, rfl⟩ := hx
    refine .inr ⟨g, cap, cur, rfl, h2, h3, by omega, h5, h6, ?_⟩
    rw [← h7, List.take_take]
    congr 1
    omega
theorem grown_trans {A B C : World} {r : Option Nat} (h : A.grownBy B r) (k : B.grownBy C r) : A.grownBy C r :=
  ⟨k.os.trans h.os, k.tape.trans h.tape, k.output.trans h.output, Nat.le_trans h.size k.size, fun b hb hr => (k.block b (Nat.lt_of_lt_of_le hb h.size) hr).trans (h.block b hb hr)⟩
theorem grown_of_below {A B : World} (r : Option Nat) (h : Below A.heap.size A B) : A.grownBy B r := ⟨h.os, h.tape, h.output, h.size, fun b hb _ => h.block b hb⟩
end
end Go.Proofs.YtkfikffnljnepaaGreatDoor
