/-
  Plain mathematics of chapter 5: the least sets that are shut (TARSKI), and what the two have to do with each other. Rows of bools in memory, and what lies behind them. How a set of states grows, in memory. Slices of bools: how long they are. The walks of package reach's within, without, turned and fits, and of slices.ContainsFunc over numbers, slices.Clone over bools. The walks of package reach's Stays, Comes and Forces where they refuse. The walks of package reach's Far and Path where they refuse.
-/
import Derived.Test.YtkfikffnljnepaaGreatDoorRfFarWAll
import Derived.Test.YtkfikffnljnepaaGreatDoorRfStateMAll
import Derived.Test.YtkfikffnljnepaaGreatDoorRcAheadAll
import Derived.Test.YtkfikffnljnepaaGreatDoorScStepAll
import Derived.Laws.EntriesVeiled
import Derived.Deep.QuietTactic
import Derived.BigQuiet
namespace Go.Proofs.YtkfikffnljnepaaGreatDoor
section
namespace Rc
/-- is a state in a list? -/
def Has (l : List Bool) (s : Nat) : Prop := l.getD s false = true
def Some (next : Nat → List Nat) (X : Nat → Prop) (s : Nat) : Prop := ∃ t, t ∈ next s ∧ X t
def All (next : Nat → List Nat) (X : Nat → Prop) (s : Nat) : Prop := ∀ t, t ∈ next s → X t
/-- the fewest states that have some, and are shut -/
structure Grown (S : Nat) (E : (Nat → Prop) → Nat → Prop) (l r : List Bool) : Prop where
  len : r.length = S
  more : ∀ s, s < S → Has l s → Has r s
  shut : ∀ s, s < S → E (Has r) s → Has r s
  least : ∀ X : Nat → Prop, (∀ s, s < S → Has l s → X s) → (∀ s, s < S → E X s → X s) → ∀ s, s < S → Has r s → X s
theorem has_ext {S : Nat} {a b : List Bool} (ha : a.length = S) (hb : b.length = S) (h : ∀ s, s < S → (Has a s ↔ Has b s)) : a = b := by
  apply Mc.ext_getD (by omega)
  intro k hk
  have := h k (by omega)
  unfold Has at this
  cases h1 : a.getD k false <;> cases h2 : b.getD k false <;> simp_all
theorem Grown.one {S : Nat} {E : (Nat → Prop) → Nat → Prop} {l a b : List Bool} (ha : Grown S E l a) (hb : Grown S E l b) : a = b :=
  has_ext ha.len hb.len fun s hs => ⟨ha.least (Has b) hb.more hb.shut s hs, hb.least (Has a) ha.more ha.shut s hs⟩
/-- what is shut grows no more -/
theorem Grown.again {S : Nat} {E : (Nat → Prop) → Nat → Prop} {l a b : List Bool} (ha : Grown S E l a) (hb : Grown S E a b) : b = a :=
  has_ext hb.len ha.len fun s hs => ⟨hb.least (Has a) (fun _ _ h => h) ha.shut s hs, hb.more s hs⟩
def turn (l : List Bool) : List Bool := l.map (!·)
theorem turn_turn (l : List Bool) : turn (turn l) = l := by unfold turn; rw [List.map_map]; simp [Function.comp_def]
theorem turn_len (l : List Bool) : (turn l).length = l.length := by simp [turn]
theorem turn_at (l : List Bool) (s : Nat) (hs : s < l.length) : (turn l).getD s false = !l.getD s false := by simp [turn, hs]
theorem forces_comes {S : Nat} {next : Nat → List Nat} {l f c : List Bool} (hne : ∀ s, s < S → next s ≠ []) (hf : Grown S (All next) l f) (hc : Grown S (Some next) l c) (s : Nat) (hs : s < S) (h : Has f s) : Has c s :=
  hf.least (Has c) hc.more (fun t ht ha => hc.shut t ht (by
    cases hn : next t with
    | nil => exact absurd hn (hne t ht)
    | cons x r => exact ⟨x, by rw [hn]; simp, ha x (by rw [hn]; simp)⟩)) s hs h
theorem forces_not {S : Nat} {next : Nat → List Nat} {l f : List Bool} (hf : Grown S (All next) l f) (s : Nat) (hs : s < S) (h : ¬ Has f s) : ∃ t, t ∈ next s ∧ ¬ Has f t := by
  refine Classical.byContradiction fun hx => h (hf.shut s hs fun t ht => ?_)
  exact Classical.byContradiction fun hn => hx ⟨t, ht, hn⟩
/-- from the first state one may come to some just if one that is come to is among them -/
theorem comes_zero {S : Nat} {next : Nat → List Nat} {q : Qu} {l c : List Bool} (hS : 1 ≤ S) (hq : Far next S q) (hc : Grown S (Some next) l c) : Has c 0 ↔ ∃ s, s < S ∧ 0 ≤ (q.at_ s).far ∧ Has l s := by
  constructor
  · intro h0
    refine Classical.byContradiction fun hx => ?_
    have := hc.least (fun s => (q.at_ s).far < 0) (fun s hs hl => Classical.byContradiction fun hn => hx ⟨s, hs, by omega, hl⟩) (fun s hs ⟨t, ht, hf⟩ => Classical.byContradiction fun hn => by
      have := (hq.near s t hs (by omega) ht).1
      omega) 0 (by omega) h0
    rw [hq.zero] at this
    omega
  · rintro ⟨s, hs, hf, hl⟩
    have key : ∀ (n : Nat) (s : Nat), s < S → (q.at_ s).far = n → Has c s → Has c 0 := by
      intro n
      induction n with
      | zero => intro s hs h1 h2; rw [hq.one s hs h1] at h2; exact h2
      | succ n ih =>
        intro s hs h1 h2
        obtain ⟨p1, p2, p3⟩ := hq.par s hs (by omega)
        exact ih _ p1 (by omega) (hc.shut _ p1 ⟨s, List.mem_of_getElem? p3, h2⟩)
    exact key ((q.at_ s).far.toNat) s hs (by omega) (hc.more s hs hl)
/-- how sets grow: those that lead to one that was put in are asked -/
structure Grow (S : Nat) (E : (Nat → Prop) → Nat → Prop) (next : Nat → List Nat) (l : List Bool) (cur : List Bool) (fresh : List Nat) : Prop where
  len : cur.length = S
  more : ∀ s, s < S → Has l s → Has cur s
  least : ∀ X : Nat → Prop, (∀ s, s < S → Has l s → X s) → (∀ s, s < S → E X s → X s) → ∀ s, s < S → Has cur s → X s
  frin : ∀ s, s ∈ fresh → s < S
  open_ : ∀ s, s < S → ¬ Has cur s → E (Has cur) s → ∃ t, t ∈ fresh ∧ t ∈ next s
/-- while those ahead of 'last' are asked: the first j are done -/
structure GrowIn (S : Nat) (E : (Nat → Prop) → Nat → Prop) (next : Nat → List Nat) (l : List Bool) (cur : List Bool) (fresh : List Nat) (pre : List Nat) (j : Nat) : Prop where
  len : cur.length = S
  more : ∀ s, s < S → Has l s → Has cur s
  least : ∀ X : Nat → Prop, (∀ s, s < S → Has l s → X s) → (∀ s, s < S → E X s → X s) → ∀ s, s < S → Has cur s → X s
  frin : ∀ s, s ∈ fresh → s < S
  open_ : ∀ s, s < S → ¬ Has cur s → E (Has cur) s → (∃ t, t ∈ fresh ∧ t ∈ next s) ∨ s ∈ pre.drop j
/-- a way of asking: more is asked of more, and of where a state leads to alone -/
structure Asks (next : Nat → List Nat) (E : (Nat → Prop) → Nat → Prop) : Prop where
  mono : ∀ (X Y : Nat → Prop) (s : Nat), (∀ t, X t → Y t) → E X s → E Y s
  near : ∀ (X Y : Nat → Prop) (s : Nat), (∀ t, t ∈ next s → (X t ↔ Y t)) → E X s → E Y s
theorem asks_some (next : Nat → List Nat) : Asks next (Some next) := ⟨fun _ _ _ h ⟨t, h1, h2⟩ => ⟨t, h1, h t h2⟩, fun _ _ _ h ⟨t, h1, h2⟩ => ⟨t, h1, (h t h1).1 h2⟩⟩
theorem asks_all (next : Nat → List Nat) : Asks next (All next) := ⟨fun _ _ _ h ha t ht => h t (ha t ht), fun _ _ _ h ha t ht => (h t ht).1 (ha t ht)⟩
theorem has_lt {l : List Bool} {s : Nat} (h : Has l s) : s < l.length := by
  refine Classical.byContradiction fun hn => ?_
  unfold Has at h
  rw [List.getD_eq_getElem?_getD, List.getElem?_eq_none (by omega)] at h
  cases h
theorem has_set (l : List Bool) (s t : Nat) (hs : s < l.length) : Has (l.set s true) t ↔ t = s ∨ Has l t := by
  unfold Has
  rw [Sc.getD_set]
  by_cases h : t = s
  · subst h; simp [hs]
  · simp [h]
theorem Grow.pop {S : Nat} {E : (Nat → Prop) → Nat → Prop} {next : Nat → List Nat} {l cur : List Bool} {fresh pre : List Nat} {last : Nat} (h : Grow S E next l cur (fresh ++ [last])) (hp : ∀ s, s < S → last ∈ next s → s ∈ pre) : GrowIn S E next l cur fresh pre 0 :=
  ⟨h.len, h.more, h.least, fun s hs => h.frin s (by simp [hs]), fun s hs hn he => by
    obtain ⟨t, h1, h2⟩ := h.open_ s hs hn he
    rcases List.mem_append.1 h1 with h1 | h1
    · exact .inl ⟨t, h1, h2⟩
    · simp at h1; subst h1; exact .inr (by rw [List.drop_zero]; exact hp s hs h2)⟩
theorem GrowIn.end_ {S : Nat} {E : (Nat → Prop) → Nat → Prop} {next : Nat → List Nat} {l cur : List Bool} {fresh pre : List Nat} (h : GrowIn S E next l cur fresh pre pre.length) : Grow S E next l cur fresh :=
  ⟨h.len, h.more, h.least, h.frin, fun s hs hn he => by
    rcases h.open_ s hs hn he with h1 | h1
    · exact h1
    · rw [List.drop_length] at h1; cases h1⟩
theorem GrowIn.pass {S : Nat} {E : (Nat → Prop) → Nat → Prop} {next : Nat → List Nat} {l cur : List Bool} {fresh pre : List Nat} {j s : Nat} (h : GrowIn S E next l cur fresh pre j) (hj : pre[j]? = some s) (hx : Has cur s ∨ ¬ E (Has cur) s) : GrowIn S E next l cur fresh pre (j + 1) :=
  ⟨h.len, h.more, h.least, h.frin, fun t ht hn he => by
    rcases h.open_ t ht hn he with h1 | h1
    · exact .inl h1
    · obtain ⟨hjl, e⟩ := List.getElem?_eq_some_iff.1 hj
      rw [List.drop_eq_getElem_cons hjl] at h1
      rcases List.mem_cons.1 h1 with h1 | h1
      · rw [e] at h1
        subst h1
        rcases hx with hx | hx
        · exact absurd hx hn
        · exact absurd he hx
      · exact .inr h1⟩
theorem GrowIn.put {S : Nat} {E : (Nat → Prop) → Nat → Prop} {next : Nat → List Nat} {l cur : List Bool} {fresh pre : List Nat} {j s : Nat} (ha : Asks next E) (h : GrowIn S E next l cur fresh pre j) (hj : pre[j]? = some s) (hs : s < S) (he : E (Has cur) s) : GrowIn S E next l (cur.set s true) (fresh ++ [s]) pre (j + 1) := by
  have hsl : s < cur.length := by rw [h.len]; exact hs
  have hset := fun t => has_set cur s t hsl
  refine ⟨by simp [h.len], fun t ht hl => (hset t).2 (.inr (h.more t ht hl)), ?_, ?_, ?_⟩
  · intro X h1 h2 t ht hx
    rcases (hset t).1 hx with rfl | hx
    · exact h2 _ hs (ha.mono (Has cur) X _ (fun u hu => h.least X h1 h2 u (by rw [← h.len]; exact has_lt hu) hu) he)
    · exact h.least X h1 h2 t ht hx
  · intro t ht
    rcases List.mem_append.1 ht with ht | ht
    · exact h.frin t ht
    · simp at ht; subst ht; exact hs
  · intro t ht hn hE
    have hnt : ¬ Has cur t := fun hx => hn ((hset t).2 (.inr hx))
    have hts : t ≠ s := fun e => hn ((hset t).2 (.inl e))
    by_cases hE0 : E (Has cur) t
    · rcases h.open_ t ht hnt hE0 with ⟨u, h1, h2⟩ | h1
      · exact .inl ⟨u, by simp [h1], h2⟩
      · obtain ⟨hjl, e⟩ := List.getElem?_eq_some_iff.1 hj
        rw [List.drop_eq_getElem_cons hjl] at h1
        rcases List.mem_cons.1 h1 with h1 | h1
        · rw [e] at h1; exact absurd h1 hts
        · exact .inr h1
    · refine .inl ⟨s, by simp, Classical.byContradiction fun hns => hE0 (ha.near _ _ t (fun u hu => ?_) hE)⟩
      rw [hset u]
      exact ⟨fun hx => hx.resolve_left (fun e => hns (by rw [← e]; exact hu)), .inr⟩
/-- all that were told are fresh at first -/
theorem Grow.start {S : Nat} {E : (Nat → Prop) → Nat → Prop} {next : Nat → List Nat} {l : List Bool} {fresh : List Nat} (hl : l.length = S) (hit : ∀ (X : Nat → Prop) s, s < S → E X s → ∃ t, t ∈ next s ∧ X t) (hf : ∀ s, s ∈ fresh ↔ Has l s) : Grow S E next l l fresh :=
  ⟨hl, fun _ _ h => h, fun X h1 _ s hs h => h1 s hs h, fun s hs => by rw [← hl]; exact has_lt ((hf s).1 hs), fun s hs _ he => by
    obtain ⟨t, h1, h2⟩ := hit _ s hs he
    exact ⟨t, (hf t).2 h2, h1⟩⟩
theorem Grow.done {S : Nat} {E : (Nat → Prop) → Nat → Prop} {next : Nat → List Nat} {l cur : List Bool} (h : Grow S E next l cur []) : Grown S E l cur :=
  ⟨h.len, h.more, fun s hs he => Classical.byContradiction fun hn => (by obtain ⟨t, ht, _⟩ := h.open_ s hs hn he; cases ht), h.least⟩
end Rc
end
section
open Go.RowKit
/-- a row of bools, and what lies behind them -/
def BRow (W : World) (g : Nat) (l : List Bool) (rest : List Value) : Prop := RowIs W g 4 (l.map boolV ++ rest)
theorem BRow.below {W W' : World} {g : Nat} {l : List Bool} {rest : List Value} (h : BRow W g l rest) (hb : Below W.heap.size W W') : BRow W' g l rest := RowIs.below h hb
theorem BRow.cell {W : World} {g : Nat} {l : List Bool} {rest : List Value} (h : BRow W g l rest) (k : Nat) (b : Bool) (hb : l[k]? = some b) : W.cell? ⟨g, k, none⟩ = some (.bool b) :=
  RowIs.cell h k _ (by rw [List.getElem?_append_left (by rw [List.length_map]; exact (List.getElem?_eq_some_iff.1 hb).1), List.getElem?_map, hb]; rfl)
theorem BRow.set {W : World} {g : Nat} {l : List Bool} {rest : List Value} (h : BRow W g l rest) (k : Nat) (b : Bool) (hk : k < l.length) : BRow (W.setCell ⟨g, k, none⟩ (.bool b)) g (l.set k b) rest := by
  have h1 := RowIs.set h k (.bool b)
  rw [List.set_append_left _ _ (by rw [List.length_map]; exact hk)] at h1
  unfold BRow
  rw [List.map_set]
  exact h1
theorem BRow.bools {W : World} {g cp : Nat} {l : List Bool} {rest : List Value} (h : BRow W g l rest) (hl : l.length ≤ 1000000) : Bools W (.slice (some ⟨g, 0, none⟩) l.length cp) l :=
  ⟨_, _, rfl, hl, fun i b hb => ⟨g, rfl, h.cell i b hb⟩⟩
def lenV : Value → Nat
  | .slice _ n _ => n
  | _ => 0
theorem own_pop {W : World} {q g n cap : Nat} {e : TypeId} {xs : List Value} (h : W.ownsRow q e 1 (.slice (some ⟨g, 0, none⟩) (n + 1) cap) (n + 1) xs) : W.ownsRow q e 1 (.slice (some ⟨g, 0, none⟩) n cap) n (xs.take n) := by
  obtain ⟨h0, h1⟩ := h
  refine ⟨by rw [List.length_take]; omega, ?_⟩
  rcases h1 with ⟨hx, _⟩ | ⟨g', cap', cur, hx, h2, h3, h4, h5, h6, h7⟩
  · cases hx
  · simp only [Value.slice.injEq, Option.some.injEq, Addr.mk.injEq, true_and] at hx
    obtain ⟨⟨rfl, _⟩, rfl⟩ := hx
    refine .inr ⟨g, cap, cur, rfl, h2, h3, by omega, h5, h6, ?_⟩
    rw [← h7, List.take_take]
    congr 1
    omega
theorem grown_trans {A B C : World} {r : Option Nat} (h : A.grownBy B r) (k : B.grownBy C r) : A.grownBy C r :=
  ⟨k.os.trans h.os, k.tape.trans h.tape, k.output.trans h.output, Nat.le_trans h.size k.size, fun b hb hr => (k.block b (Nat.lt_of_lt_of_le hb h.size) hr).trans (h.block b hb hr)⟩
theorem grown_of_below {A B : World} (r : Option Nat) (h : Below A.heap.size A B) : A.grownBy B r := ⟨h.os, h.tape, h.output, h.size, fun b hb _ => h.block b hb⟩
end
section
open Go.RowKit
namespace Rc
/-- how many are not in -/
def nF (l : List Bool) : Nat := (l.filter (!·)).length
theorem nF_set : ∀ (l : List Bool) (s : Nat), l[s]? = some false → nF (l.set s true) + 1 = nF l
  | [], s, h => by simp at h
  | x :: l, 0, h => by
    simp only [List.getElem?_cons_zero, Option.some.injEq] at h
    subst h
    simp [nF]
  | x :: l, s + 1, h => by
    have ih := nF_set l s (by simpa using h)
    unfold nF at ih ⊢
    rw [List.set_cons_succ, List.filter_cons, List.filter_cons]
    cases x <;> simp <;> omega
/-- those that are in, of the first k -/
def insTo (l : List Bool) (k : Nat) : List Nat := (List.range k).filter fun s => l.getD s false
theorem insTo_succ (l : List Bool) (k : Nat) : insTo l (k + 1) = insTo l k ++ (if l.getD k false then [k] else []) := by
  unfold insTo
  rw [List.range_succ, List.filter_append, List.filter_cons, List.filter_nil]
theorem insTo_len (l : List Bool) (k : Nat) : (insTo l k).length ≤ k := by
  have := List.length_filter_le (fun s => l.getD s false) (List.range k)
  rw [List.length_range] at this
  exact this
theorem insTo_all (l : List Bool) (S : Nat) (hl : l.length = S) (s : Nat) : s ∈ insTo l S ↔ Has l s := by
  unfold insTo Has
  rw [List.mem_filter, List.mem_range]
  refine ⟨fun h => h.2, fun h => ⟨?_, h⟩⟩
  rw [← hl]; exact has_lt h
end Rc
def isF : Value → Bool
  | .bool false => true
  | _ => false
/-- how many cells of a row are false -/
def falses (W : World) (g : Nat) : Nat := match W.heap[g]? with
  | some (.cells cs _ _) => (cs.toList.filter isF).length
  | _ => 0
theorem falses_row {W : World} {g : Nat} {l : List Bool} {rest : List Value} (h : BRow W g l rest) : falses W g = Rc.nF l + (rest.filter isF).length := by
  unfold falses
  rw [show W.heap[g]? = _ from h]
  show ((l.map boolV ++ rest).filter isF).length = _
  rw [List.filter_append, List.length_append, List.filter_map, List.length_map]
  unfold Rc.nF
  congr 2
  apply List.filter_congr
  intro x _
  cases x <;> rfl
/-- a function that tells whether a state enters, as the list stands -/
def Entering (w : World) (gi S : Nat) (rest : List Value) (f : Value) (eB : List Bool → Nat → Bool) : Prop := ∃ K cap, f = .func (.func K) #[] cap ∧ (∀ args w, (callFunc K args).run Tryz.prog w = .ok (.enter K args) w) ∧ ∀ (l : List Bool) (s : Nat) (W : World), w.grownBy W (some gi) → l.length = S → BRow W gi l rest → s < S → Calls Tryz.prog K (#[.int .i64 (s : Int)] ++ cap) W fun e w' => e = .returned (.bool (eB l s)) ∧ Below W.heap.size W w'
/-- what grow comes to -/
def Growed (w : World) (gi S : Nat) (rest : List Value) (E : (Nat → Prop) → Nat → Prop) (l : List Bool) (e : Ending) (w' : World) : Prop := e = .returned (.tuple #[]) ∧ w.grownBy w' (some gi) ∧ ∃ r, Rc.Grown S E l r ∧ BRow w' gi r rest
theorem AhAt.grown {W W' : World} {gA S q gi : Nat} {vs : List Value} {P : Nat → List Nat} (h : AhAt W gA S q vs P) (hg : W.grownBy W' (some gi)) (h1 : gi < gA) (h2 : gA < q) : AhAt W' gA S q vs P :=
  ⟨(hg.block _ h.top.lt (fun e => by cases e; omega)).trans h.top, h.len, fun t v hv => by
    refine (h.own t v hv).kept hg ?_
    cases hb : v.ownBlock with
    | none => exact .inl rfl
    | some b => exact .inr (fun e => by cases e; have := ((h.own t v hv).lt _ hb).1; omega), h.apart⟩
end
section
open Go.RowKit
theorem Bools.len {w : World} {v : Value} {l : List Bool} (h : Bools w v l) : l.length ≤ 1000000 := by obtain ⟨_, _, _, h, _⟩ := h; exact h
theorem Bools.slice {w : World} {v : Value} {l : List Bool} (h : Bools w v l) : ∃ a c, v = .slice a l.length c := by obtain ⟨a, c, h, _⟩ := h; exact ⟨a, c, h⟩
end
section
open Go.RowKit
/-- a function that tells something of a number -/
def SPred (w : World) (f : Value) (p : Nat → Bool) : Prop := ∃ K c, f = .func (.func K) #[] #[c] ∧ (∀ args w, (callFunc K args).run Tryz.prog w = .ok (.enter K args) w) ∧ ∀ (x : Nat) (W : World), Below w.heap.size w W → x ≤ 100000 → Calls Tryz.prog K #[.int .i64 (x : Int), c] W fun e w' => e = .returned (.bool (p x)) ∧ Below W.heap.size W w'
theorem SPred.below {w w' : World} {f : Value} {p : Nat → Bool} (h : SPred w f p) (hb : Below w.heap.size w w') : SPred w' f p := by
  obtain ⟨K, c, h1, h2, h3⟩ := h
  exact ⟨K, c, h1, h2, fun x W hW hx => h3 x W (hb.trans (hW.mono hb.size)) hx⟩
set_option maxHeartbeats 2000000 in
set_option maxRecDepth 100000 in
theorem within1_any (bx gi cp : Nat) (rest : List Value) (l : List Bool) (x : Nat) (w : World) (hx : w.cell? ⟨bx, 0, none⟩ = some (.slice (some ⟨gi, 0, none⟩) l.length cp)) (hr : BRow w gi l rest) :
    Calls Tryz.prog 54 #[.int .i64 (x : Int), .pointer (some ⟨bx, 0, none⟩)] w fun e w' => e = .returned (.bool (l.getD x false)) ∧ Below w.heap.size w w' := by
  obtain ⟨n, hn⟩ : ∃ n, n = l.length := ⟨_, rfl⟩
  by_cases hlt : x < l.length
  · have c0 := hr.cell x _ (List.getElem?_eq_getElem hlt)
    have hg : l.getD x false = l[x] := by simp [hlt]
    rw [hg]
    clear hg
    generalize l[x] = b at *
    rw [← hn] at hx hlt
    have hxi : (x : Int) < (n : Int) := by omega
    clear hn hr
    cases b
    all_goals
      go_enter Tryz.func54, Tryz.ntmps54
      go_wp2_with fail
      go_ret
      exact ⟨rfl, Below.refl _ _⟩
  · have hg : l.getD x false = false := by
      rw [List.getD_eq_getElem?_getD, List.getElem?_eq_none (by omega)]; rfl
    rw [hg]
    clear hg
    rw [← hn] at hx hlt
    have hxi : ¬ (x : Int) < (n : Int) := by omega
    clear hn hr
    go_enter Tryz.func54, Tryz.ntmps54
    go_wp2_with fail
    go_ret
    exact ⟨rfl, Below.refl _ _⟩
set_option maxHeartbeats 2000000 in
set_option maxRecDepth 100000 in
theorem within_any (gi cp : Nat) (rest : List Value) (l : List Bool) (w : World) (hr : BRow w gi l rest) :
    Calls Tryz.prog 31 #[.slice (some ⟨gi, 0, none⟩) l.length cp] w fun e w' => ∃ f, e = .returned f ∧ (∃ c, f = .func (.func 54) #[] #[c]) ∧ SPred w' f (fun x => l.getD x false) ∧ Below w.heap.size w w' := by
  have hmf : ∀ (fn : Fn) (first cap : Array Value) (w : World), (Instr.makeFunc fn first cap).run Tryz.prog w = .ok (.func fn first cap) w := fun _ _ _ _ => rfl
  have HR := hide hr
  have HP : Hid (SPred (w.alloc (.cells #[.slice (some ⟨gi, 0, none⟩) l.length cp] 45)) (.func (.func 54) #[] #[.pointer (some ⟨w.heap.size, 0, none⟩)]) (fun x => l.getD x false)) := by
    refine ⟨_, _, rfl, fun _ _ => by kernel_rfl, fun x W hW _ => ?_⟩
    have h1 : (w.alloc (.cells #[.slice (some ⟨gi, 0, none⟩) l.length cp] 45)).heap[w.heap.size]? = some (.cells #[.slice (some ⟨gi, 0, none⟩) l.length cp] 45 (0, 0)) := heap_alloc_new _ _
    have h2 := (hW.block _ (by simp)).trans h1
    exact within1_any _ gi cp rest l x W (by rw [Lib.cell_of_heap h2]; rfl) ((HR.out.below ((Below.refl _ _).alloc (Nat.le_refl _) _)).below hW)
  obtain ⟨n, hn⟩ : ∃ n, n = l.length := ⟨_, rfl⟩
  rw [← hn] at HP ⊢
  clear hr hn
  go_enter Tryz.func31, Tryz.ntmps31
  go_wp2_with fail
  go_ret
  exact ⟨_, rfl, ⟨_, rfl⟩, HP.out, (Below.refl _ _).alloc (Nat.le_refl _) _⟩
set_option maxHeartbeats 2000000 in
set_option maxRecDepth 100000 in
theorem without1_any (bx : Nat) (f : Value) (p : Nat → Bool) (x : Nat) (w : World) (hx : w.cell? ⟨bx, 0, none⟩ = some f) (hf : SPred w f p) (hx5 : x ≤ 100000) :
    Calls Tryz.prog 55 #[.int .i64 (x : Int), .pointer (some ⟨bx, 0, none⟩)] w fun e w' => e = .returned (.bool (!p x)) ∧ Below w.heap.size w w' := by
  obtain ⟨K, c, rfl, hent, hcall⟩ := hf
  have hent' : ∀ (args : Array Value) (w : World), (callFunc K args).run Tryz.prog w = .ok (.enter K args) w := hent
  have HC := hide (hcall x w (Below.refl _ _) hx5)
  generalize p x = y at *
  clear hcall hent
  go_enter Tryz.func55, Tryz.ntmps55
  go_wp2_with fail
  refine HC.out.mono ?_
  rintro e w1 ⟨rfl, hb1⟩
  have HB := hide hb1
  clear hb1 HC
  cases y
  all_goals
    go_wp2_with fail
    go_ret
    exact ⟨rfl, HB.out⟩
set_option maxHeartbeats 2000000 in
set_option maxRecDepth 100000 in
theorem without_any (gi cp : Nat) (rest : List Value) (l : List Bool) (w : World) (hr : BRow w gi l rest) :
    Calls Tryz.prog 35 #[.slice (some ⟨gi, 0, none⟩) l.length cp] w fun e w' => ∃ f, e = .returned f ∧ (∃ c, f = .func (.func 55) #[] #[c]) ∧ SPred w' f (fun x => !l.getD x false) ∧ Below w.heap.size w w' := by
  have hmf : ∀ (fn : Fn) (first cap : Array Value) (w : World), (Instr.makeFunc fn first cap).run Tryz.prog w = .ok (.func fn first cap) w := fun _ _ _ _ => rfl
  have HW := hide (within_any gi cp rest l w hr)
  obtain ⟨n, hn⟩ : ∃ n, n = l.length := ⟨_, rfl⟩
  rw [← hn] at HW ⊢
  clear hr hn
  go_enter Tryz.func35, Tryz.ntmps35
  go_wp2_with fail
  refine HW.out.mono ?_
  rintro e w1 ⟨f, rfl, ⟨c, rfl⟩, hp, hb1⟩
  have HB := hide (hb1.alloc hb1.size (.cells #[.func (.func 54) #[] #[c]] 82))
  have HP : Hid (SPred (w1.alloc (.cells #[.func (.func 54) #[] #[c]] 82)) (.func (.func 55) #[] #[.pointer (some ⟨w1.heap.size, 0, none⟩)]) (fun x => !l.getD x false)) := by
    refine ⟨_, _, rfl, fun _ _ => by kernel_rfl, fun x W hW hx => ?_⟩
    have h1 : (w1.alloc (.cells #[.func (.func 54) #[] #[c]] 82)).heap[w1.heap.size]? = some (.cells #[.func (.func 54) #[] #[c]] 82 (0, 0)) := heap_alloc_new _ _
    have h2 := (hW.block _ (by simp)).trans h1
    exact without1_any _ _ _ x W (by rw [Lib.cell_of_heap h2]; rfl) ((hp.below ((Below.refl _ _).alloc (Nat.le_refl _) _)).below hW) hx
  clear hp hb1 HW
  go_wp2_with fail
  go_ret
  exact ⟨_, rfl, ⟨_, rfl⟩, HP.out, HB.out⟩
/-- a row of numbers -/
def NRow (W : World) (g : Nat) (xs : List Nat) : Prop := ∀ (i x : Nat), xs[i]? = some x → W.cell? ⟨g, i, none⟩ = some (.int .i64 (x : Int))
theorem NRow.below {W W' : World} {g : Nat} {xs : List Nat} (h : NRow W g xs) (hb : Below W.heap.size W W') : NRow W' g xs := fun i x hx => (hb.cell (World.block_lt_of_cell? _ _ (h i x hx))).trans (h i x hx)
set_option maxHeartbeats 2000000 in
set_option maxRecDepth 100000 in
theorem indexF_any (xs : List Nat) (g n cp : Nat) (f : Value) (p : Nat → Bool) (w : World) (hn : xs.length = n) (hn5 : n ≤ 100000) (h : NRow w g xs) (hx5 : ∀ x, x ∈ xs → x ≤ 100000) (hf : SPred w f p) :
    Calls Tryz.prog 53 #[.slice (some ⟨g, 0, none⟩) n cp, f] w fun e w' => ∃ r : Int, e = .returned (.int .i64 r) ∧ (0 ≤ r ↔ xs.any p = true) ∧ -1 ≤ r ∧ Below w.heap.size w w' := by
  obtain ⟨K, c, rfl, hent, hcall⟩ := hf
  have hent' : ∀ (args : Array Value) (w : World), (callFunc K args).run Tryz.prog w = .ok (.enter K args) w := hent
  have HC := hide hcall
  have HR := hide h
  have HX5 := hide hx5
  have HN := hide hn
  clear hcall hent h hx5 hn
  go_enter Tryz.func53, Tryz.ntmps53
  go_wp2_with fail
  go_loopw [8] (fun i wr => ∃ k : Nat, k ≤ n ∧ i = .int .i64 (k : Int) ∧ Hid ((xs.take k).any p = false) ∧ Hid (Below w.heap.size w wr)) (fun i _ => n - (intOf i).toNat)
  case atStart => exact ⟨0, Nat.zero_le _, rfl, rfl, Below.refl _ _⟩
  case round =>
    obtain ⟨k, hk, rfl, HT, HB⟩ := hrel
    by_cases hlt : k < n
    · have hkl : k < xs.length := by rw [HN.out]; exact hlt
      have hx := List.getElem?_eq_getElem hkl
      have c0 := (HR.out.below HB.out) k _ hx
      have HCL := hide (HC.out xs[k] wr HB.out (HX5.out _ (List.getElem_mem hkl)))
      have HSU : Hid ((xs.take (k + 1)).any p = p xs[k]) := by show _ = _; rw [List.take_succ_eq_append_getElem hkl, List.any_append, HT.out]; simp
      have HMM := hide (List.getElem_mem hkl)
      generalize xs[k] = x at *
      clear hx
      go_wp2_with fail
      refine HCL.out.mono ?_
      rintro e w1 ⟨rfl, hb1⟩
      have HB1 := hide (HB.out.trans (hb1.mono HB.out.size))
      clear hb1 HCL
      cases hp : p x with
      | true =>
        have HA : Hid (xs.any p = true) := List.any_eq_true.2 ⟨x, HMM.out, hp⟩
        clear hp
        go_wp2_with fail
        go_ret
        exact ⟨(k : Int), rfl, ⟨fun _ => HA.out, fun _ => by omega⟩, by omega, HB1.out⟩
      | false =>
        rw [hp] at HSU
        clear hp
        go_wp2_with fail
        go_roundw
        case rel => exact ⟨k + 1, by omega, by go_num, HSU.out, HB1.out⟩
        case measure => simp [intOf]; omega
    · have hkn : k = n := by omega
      have HA : Hid (xs.any p = false) := by have := HT.out; rw [List.take_of_length_le (by rw [HN.out]; omega)] at this; exact this
      subst hkn
      go_wp2_with fail
      go_ret
      exact ⟨-1, rfl, ⟨fun h => by omega, fun h => by rw [HA.out] at h; cases h⟩, by omega, HB.out⟩
set_option maxHeartbeats 2000000 in
set_option maxRecDepth 100000 in
theorem containsF_any (xs : List Nat) (g n cp : Nat) (f : Value) (p : Nat → Bool) (w : World) (hn : xs.length = n) (hn5 : n ≤ 100000) (h : NRow w g xs) (hx5 : ∀ x, x ∈ xs → x ≤ 100000) (hf : SPred w f p) :
    Calls Tryz.prog 30 #[.slice (some ⟨g, 0, none⟩) n cp, f] w fun e w' => e = .returned (.bool (xs.any p)) ∧ Below w.heap.size w w' := by
  have HI := hide (indexF_any xs g n cp f p w hn hn5 h hx5 hf)
  obtain ⟨K, c, rfl, _, _⟩ := hf
  generalize xs.any p = y at *
  clear hn h hx5
  go_enter Tryz.func30, Tryz.ntmps30
  go_wp2_with fail
  refine HI.out.mono ?_
  rintro e w1 ⟨r, rfl, hr, _, hb1⟩
  have HB := hide hb1
  have HE : Hid (decide (0 ≤ r) = y) := by show _ = _; cases y <;> simp_all
  clear hb1 HI hr
  go_wp2_with fail
  go_ret
  exact ⟨by rw [← HE.out]; rfl, HB.out⟩
set_option maxHeartbeats 2000000 in
set_option maxRecDepth 100000 in
theorem fits_any (bm S I gN : Nat) (next : Nat → List Nat) (uN : List Nat) (v : Value) (l : List Bool) (w : World) (h : NextAt w bm S I next gN uN) (hv : Bools w v l) (hl : l.length = S) :
    Calls Tryz.prog 26 #[.pointer (some ⟨bm, 0, none⟩), v] w fun e w' => e = .returned .nilIface ∧ w' = w := by
  obtain ⟨a, c, rfl⟩ := hv.slice
  have c4 := h.1
  have pn := fun w a => ptrNe w a
  rw [hl]
  clear h hv hl
  go_enter Tryz.func26, Tryz.ntmps26
  go_wp2_with fail
  go_ret
  exact ⟨rfl, rfl⟩
set_option maxHeartbeats 2000000 in
set_option maxRecDepth 100000 in
theorem turned_any (v : Value) (l : List Bool) (w : World) (hv : Bools w v l) :
    Calls Tryz.prog 27 #[v] w fun e w' => ∃ g, e = .returned (.slice (some ⟨g, 0, none⟩) l.length l.length) ∧ BRow w' g (Rc.turn l) [] ∧ w.heap.size ≤ g ∧ Below w.heap.size w w' := by
  have HV := hide hv
  have hl6 := hv.len
  obtain ⟨a, c, rfl⟩ := hv.slice
  have mk := fun w => makeBs l.length hl6 w
  obtain ⟨cS, hcS⟩ : ∃ c, c = List.replicate l.length (Value.bool false) := ⟨_, rfl⟩
  rw [← hcS] at mk
  obtain ⟨w1, hw1⟩ : ∃ w1, w1 = w.alloc (.cells ⟨cS⟩ 4) := ⟨_, rfl⟩
  have HR1 : Hid (RowIs w1 w.heap.size 4 (((Rc.turn l).take 0).map boolV ++ List.replicate (l.length - (((Rc.turn l).take 0).map boolV).length) (.bool false))) := by
    show RowIs w1 w.heap.size 4 (List.replicate l.length (.bool false))
    rw [hw1, ← hcS]; exact RowIs.new _ _ _
  have HB1 : Hid (Below w.heap.size w w1) := by rw [hw1]; exact (Below.refl _ _).alloc (Nat.le_refl _) _
  obtain ⟨n, hn⟩ : ∃ n, n = l.length := ⟨_, rfl⟩
  have HN := hide hn
  rw [← hn] at HR1 mk hl6 HV ⊢
  clear hv hcS hn
  go_enter Tryz.func27, Tryz.ntmps27
  go_wp2_with fail
  rw [← hw1]
  clear hw1
  go_loopw [11] (fun i wr => ∃ k : Nat, k ≤ n ∧ i = .int .i64 (k : Int) ∧ Hid (RowIs wr w.heap.size 4 (((Rc.turn l).take k).map boolV ++ List.replicate (n - (((Rc.turn l).take k).map boolV).length) (.bool false))) ∧ Hid (Below w.heap.size w wr)) (fun i _ => n - (intOf i).toNat)
  case atStart => exact ⟨0, Nat.zero_le _, rfl, HR1.out, HB1.out⟩
  case round =>
    obtain ⟨k, hk, rfl, HR, HB⟩ := hrel
    have hlk : (((Rc.turn l).take k).map boolV).length = k := by rw [List.length_map, List.length_take, Rc.turn_len, ← HN.out]; omega
    by_cases hlt : k < n
    · have hkl : k < l.length := by rw [← HN.out]; exact hlt
      have hkt : k < (Rc.turn l).length := by rw [Rc.turn_len]; exact hkl
      have hx := List.getElem?_eq_getElem hkl
      obtain ⟨a2, c2, e2, _, b2⟩ := HV.out.below HB.out
      simp only [Value.slice.injEq] at e2
      obtain ⟨gv, ga, c0⟩ := b2 k _ hx
      obtain ⟨e2, _, _⟩ := e2
      rw [ga] at e2
      subst e2
      have d0 : wr.cell? ⟨w.heap.size, k, none⟩ = some (.bool false) := HR.out.cell k _ (by rw [List.getElem?_append_right (by omega), List.getElem?_replicate, if_pos (by omega)])
      have f0 := HR.out.frozen k
      have hte : (Rc.turn l)[k] = !l[k] := by simp [Rc.turn]
      have HRN : Hid (RowIs (wr.setCell ⟨w.heap.size, k, none⟩ (.bool (!l[k]))) w.heap.size 4 (((Rc.turn l).take (k + 1)).map boolV ++ List.replicate (n - (((Rc.turn l).take (k + 1)).map boolV).length) (.bool false))) := by
        have h1 := HR.out.set k (.bool (!l[k]))
        have h2 := fill_set (((Rc.turn l).take k).map boolV) (.bool false) (.bool (!l[k])) n (by omega)
        rw [hlk] at h2
        rw [hlk, h2] at h1
        rw [List.take_succ_eq_append_getElem hkt, List.map_append, hte]
        exact h1
      have HBN : Hid (Below w.heap.size w (wr.setCell ⟨w.heap.size, k, none⟩ (.bool (!l[k])))) := HB.out.setCell (p := ⟨w.heap.size, k, none⟩) (Nat.le_refl _) _
      generalize l[k] = x at *
      clear hlk hx hte b2 ga
      cases x
      all_goals
        go_wp2_with fail
        go_roundw
        case rel => exact ⟨k + 1, by omega, by go_num, HRN.out, HBN.out⟩
        case measure => simp [intOf]; omega
    · have hkn : k = n := by omega
      subst hkn
      have hrow := HR.out
      rw [hlk, Nat.sub_self, List.replicate_zero, List.take_of_length_le (by rw [Rc.turn_len, ← HN.out]; exact Nat.le_refl _)] at hrow
      have HRF := hide hrow
      clear hrow hlk
      go_wp2_with fail
      go_ret
      exact ⟨w.heap.size, rfl, HRF.out, Nat.le_refl _, HB.out⟩
end
section
open Go.RowKit
theorem beq_errno (x : Value) (w : World) : (binOp BinOp.neq 28 (.iface 35 x) .nilIface).run Tryz.prog w = .ok (.bool true) w := by kernel_rfl
theorem ptrNilM (w : World) : (binOp BinOp.eql 22 (.pointer none) (.pointer none)).run Tryz.prog w = .ok (.bool true) w := by kernel_rfl
set_option maxHeartbeats 2000000 in
set_option maxRecDepth 100000 in
theorem fits_nil (v : Value) (w : World) : Calls Tryz.prog 26 #[.pointer none, v] w fun e w' => e = .returned (.iface 35 (.int .i64 7)) ∧ w' = w := by
  have pn := ptrNilM
  go_enter Tryz.func26, Tryz.ntmps26
  go_wp2_with fail
  go_ret
  exact ⟨rfl, rfl⟩
set_option maxHeartbeats 2000000 in
set_option maxRecDepth 100000 in
theorem fits_bad (bm S I gN : Nat) (next : Nat → List Nat) (uN : List Nat) (sv : Option Addr) (n c : Nat) (w : World) (h : NextAt w bm S I next gN uN) (hn : n ≠ S) :
    Calls Tryz.prog 26 #[.pointer (some ⟨bm, 0, none⟩), .slice sv n c] w fun e w' => e = .returned (.iface 35 (.int .i64 3)) ∧ w' = w := by
  have c4 := h.1
  have pn := fun w a => ptrNe w a
  have hni : ((n : Int) != (S : Int)) = true := by simp; omega
  have hni2 : ¬ (n : Int) = (S : Int) := by omega
  clear h
  go_enter Tryz.func26, Tryz.ntmps26
  go_wp2_with fail
  go_ret
  exact ⟨rfl, rfl⟩
set_option maxHeartbeats 4000000 in
set_option maxRecDepth 100000 in
theorem Stays_bad (pm : Option Addr) (sv : Option Addr) (n c : Nat) (en : Int) (w : World) (hf : ∀ W, Below w.heap.size w W → Calls Tryz.prog 26 #[.pointer pm, .slice sv n c] W fun e w' => e = .returned (.iface 35 (.int .i64 en)) ∧ w' = W) :
    Calls Tryz.prog 12 #[.pointer pm, .slice sv n c] w fun e w' => e = .returned (.tuple #[.slice none 0 0, .iface 35 (.int .i64 en)]) ∧ Below w.heap.size w w' := by
  have HF := hide (hf (w.alloc (.cells #[.pointer pm] 22)) ((Below.refl _ _).alloc (Nat.le_refl _) _))
  have hbe := fun x w => beq_errno x w
  have HBA : Hid (Below w.heap.size w (w.alloc (.cells #[.pointer pm] 22))) := (Below.refl _ _).alloc (Nat.le_refl _) _
  clear hf
  go_enter Tryz.func12, Tryz.ntmps12
  go_wp2_with fail
  refine HF.out.mono ?_
  rintro e w0 ⟨rfl, hw0⟩
  subst hw0
  clear HF
  go_wp2_with fail
  refine bodyPost_ret (results_tmp2 rfl _ _ _) rfl ?_
  exact ⟨rfl, HBA.out⟩
set_option maxHeartbeats 4000000 in
set_option maxRecDepth 100000 in
theorem Comes_bad (pm : Option Addr) (sv : Option Addr) (n c : Nat) (en : Int) (w : World) (hf : ∀ W, Below w.heap.size w W → Calls Tryz.prog 26 #[.pointer pm, .slice sv n c] W fun e w' => e = .returned (.iface 35 (.int .i64 en)) ∧ w' = W) :
    Calls Tryz.prog 13 #[.pointer pm, .slice sv n c] w fun e w' => e = .returned (.tuple #[.slice none 0 0, .iface 35 (.int .i64 en)]) ∧ Below w.heap.size w w' := by
  have HF := hide (hf (w.alloc (.cells #[.pointer pm] 22)) ((Below.refl _ _).alloc (Nat.le_refl _) _))
  have hbe := fun x w => beq_errno x w
  have HBA : Hid (Below w.heap.size w (w.alloc (.cells #[.pointer pm] 22))) := (Below.refl _ _).alloc (Nat.le_refl _) _
  clear hf
  go_enter Tryz.func13, Tryz.ntmps13
  go_wp2_with fail
  refine HF.out.mono ?_
  rintro e w0 ⟨rfl, hw0⟩
  subst hw0
  clear HF
  go_wp2_with fail
  refine bodyPost_ret (results_tmp2 rfl _ _ _) rfl ?_
  exact ⟨rfl, HBA.out⟩
set_option maxHeartbeats 4000000 in
set_option maxRecDepth 100000 in
theorem Forces_bad (pm : Option Addr) (sv : Option Addr) (n c : Nat) (en : Int) (w : World) (hf : ∀ W, Below w.heap.size w W → Calls Tryz.prog 26 #[.pointer pm, .slice sv n c] W fun e w' => e = .returned (.iface 35 (.int .i64 en)) ∧ w' = W) :
    Calls Tryz.prog 14 #[.pointer pm, .slice sv n c] w fun e w' => e = .returned (.tuple #[.slice none 0 0, .iface 35 (.int .i64 en)]) ∧ Below w.heap.size w w' := by
  have HF := hide (hf (w.alloc (.cells #[.pointer pm] 22)) ((Below.refl _ _).alloc (Nat.le_refl _) _))
  have hbe := fun x w => beq_errno x w
  have HBA : Hid (Below w.heap.size w (w.alloc (.cells #[.pointer pm] 22))) := (Below.refl _ _).alloc (Nat.le_refl _) _
  clear hf
  go_enter Tryz.func14, Tryz.ntmps14
  go_wp2_with fail
  refine HF.out.mono ?_
  rintro e w0 ⟨rfl, hw0⟩
  subst hw0
  clear HF
  go_wp2_with fail
  refine bodyPost_ret (results_tmp2 rfl _ _ _) rfl ?_
  exact ⟨rfl, HBA.out⟩
end
section
open Go.RowKit
set_option maxHeartbeats 2000000 in
set_option maxRecDepth 100000 in
theorem Far_nil (w : World) : Calls Tryz.prog 6 #[.pointer none] w fun e w' => e = .returned (.tuple #[.slice none 0 0, .iface 35 (.int .i64 7)]) ∧ Below w.heap.size w w' := by
  have pn := ptrNilM
  go_enter Tryz.func6, Tryz.ntmps6
  go_wp2_with fail
  refine bodyPost_ret (results_tmp2 rfl _ _ _) rfl ?_
  exact ⟨rfl, Below.refl _ _⟩
set_option maxHeartbeats 2000000 in
set_option maxRecDepth 100000 in
theorem Path_nil (s : Int) (w : World) : Calls Tryz.prog 9 #[.pointer none, .int .i64 s] w fun e w' => e = .returned (.tuple #[.slice none 0 0, .iface 35 (.int .i64 7)]) ∧ Below w.heap.size w w' := by
  have pn := ptrNilM
  go_enter Tryz.func9, Tryz.ntmps9
  go_wp2_with fail
  refine bodyPost_ret (results_tmp2 rfl _ _ _) rfl ?_
  exact ⟨rfl, (Below.refl _ _).alloc (Nat.le_refl _) _⟩
set_option maxHeartbeats 2000000 in
set_option maxRecDepth 100000 in
theorem Path_out (bm S I gN : Nat) (next : Nat → List Nat) (uN : List Nat) (s : Int) (w : World) (h : NextAt w bm S I next gN uN) (hbad : s < 0 ∨ (S : Int) ≤ s) :
    Calls Tryz.prog 9 #[.pointer (some ⟨bm, 0, none⟩), .int .i64 s] w fun e w' => e = .returned (.tuple #[.slice none 0 0, .iface 35 (.int .i64 2)]) ∧ Below w.heap.size w w' := by
  have pn := fun w a => ptrNe w a
  obtain ⟨wA, hwA⟩ : ∃ wA, wA = w.alloc (.cells #[.int .i64 s] 3) := ⟨_, rfl⟩
  have hbA : Below w.heap.size w wA := by rw [hwA]; exact (Below.refl _ _).alloc (Nat.le_refl _) _
  have a0 : wA.cell? ⟨w.heap.size, 0, none⟩ = some (.int .i64 s) := by rw [hwA, Lib.cell_of_heap (heap_alloc_new _ _)]; rfl
  have a4 := (h.below hbA).1
  have HBA := hide hbA
  by_cases h1 : s < 0
  · have h1b : Decidable.decide (s < 0) = true := by simpa using h1
    clear h hbA
    go_enter Tryz.func9, Tryz.ntmps9
    go_wp2_with fail
    rw [← hwA]
    clear hwA
    go_quiet (fail)
    go_wp2_with fail
    refine bodyPost_ret (results_tmp2 rfl _ _ _) rfl ?_
    exact ⟨rfl, HBA.out.trans ⟨rfl, rfl, rfl, Nat.le_refl _, fun _ _ => rfl⟩⟩
  · have h1b : Decidable.decide (s < 0) = false := by simpa using h1
    have h2 : (S : Int) ≤ s := by omega
    have h2b : Decidable.decide ((S : Int) ≤ s) = true := by simpa using h2
    clear h hbA
    go_enter Tryz.func9, Tryz.ntmps9
    go_wp2_with fail
    rw [← hwA]
    clear hwA
    go_quiet (fail)
    go_wp2_with fail
    refine bodyPost_ret (results_tmp2 rfl _ _ _) rfl ?_
    exact ⟨rfl, HBA.out.trans ⟨rfl, rfl, rfl, Nat.le_refl _, fun _ _ => rfl⟩⟩
end
end Go.Proofs.YtkfikffnljnepaaGreatDoor
