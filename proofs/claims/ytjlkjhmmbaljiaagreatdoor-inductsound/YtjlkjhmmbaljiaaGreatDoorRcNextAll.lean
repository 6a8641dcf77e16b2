/-
  Package prop's search in plain words: places that are come to, each by a step from an earlier one. Package prop's map of places that a search has made: what is found in it, and how it grows. Rows of bools in memory, and what lies behind them. A machine's table, state by state, as it lies in memory.
-/
import Derived.Test.YtjlkjhmmbaljiaaGreatDoorRcMathAll
import Derived.Test.YtjlkjhmmbaljiaaGreatDoorKeMadeAll
import Derived.DeepKeys4
import Derived.Test.YtjlkjhmmbaljiaaGreatDoorMcD7All
namespace Go.Proofs.YtjlkjhmmbaljiaaGreatDoor
section
namespace Pr
def step (next : Nat → List Nat) (wt : Nat × Nat → Nat → Nat) (p : Nat × Nat) (i : Nat) : Nat × Nat := ((next p.1).getD i 0, wt p i)
/-- one plays inputs -/
def go (next : Nat → List Nat) (wt : Nat × Nat → Nat → Nat) : Nat × Nat → List Nat → Nat × Nat
  | p, [] => p
  | p, i :: l => go next wt (step next wt p i) l
/-- each input is one, and none waits beyond -/
def Fine (next : Nat → List Nat) (wt : Nat × Nat → Nat → Nat) (most : Nat) : Nat × Nat → List Nat → Prop
  | _, [] => True
  | p, i :: l => i < (next p.1).length ∧ wt p i ≤ most ∧ Fine next wt most (step next wt p i) l
def InR (next : Nat → List Nat) : Nat → List Nat → Prop
  | _, [] => True
  | s, i :: l => i < (next s).length ∧ InR next ((next s).getD i 0) l
structure Met (next : Nat → List Nat) (wt : Nat × Nat → Nat → Nat) (S most : Nat) (met : List (Nat × Nat)) (src : List ((Nat × Nat) × Nat)) : Prop where
  len : src.length = met.length
  zero : met[0]? = some (0, 0)
  nodup : met.Nodup
  low : ∀ p, p ∈ met → p.1 < S ∧ p.2 ≤ most
  back : ∀ (j : Nat) p f i, 0 < j → met[j]? = some p → src[j]? = some (f, i) → ∃ k, k < j ∧ met[k]? = some f ∧ i < (next f.1).length ∧ wt f i ≤ most ∧ p = step next wt f i
/-- the first k are looked at -/
def Shut (next : Nat → List Nat) (wt : Nat × Nat → Nat → Nat) (most : Nat) (met : List (Nat × Nat)) (k : Nat) : Prop := ∀ (j : Nat) p, j < k → met[j]? = some p → ∀ i, i < (next p.1).length → wt p i ≤ most ∧ step next wt p i ∈ met
/-- of one the first n inputs are looked at -/
def ShutIn (next : Nat → List Nat) (wt : Nat × Nat → Nat → Nat) (most : Nat) (met : List (Nat × Nat)) (p : Nat × Nat) (n : Nat) : Prop := ∀ i, i < n → wt p i ≤ most ∧ step next wt p i ∈ met
theorem Met.start (next : Nat → List Nat) (wt : Nat × Nat → Nat → Nat) (S most : Nat) (hS : 1 ≤ S) (src : List ((Nat × Nat) × Nat)) (hs : src.length = 1) : Met next wt S most [(0, 0)] src :=
  ⟨by simp [hs], rfl, by simp, fun p hp => by simp at hp; subst hp; exact ⟨hS, Nat.zero_le _⟩, fun j p f i hj hp => by
    rw [List.getElem?_eq_none (by simp; omega)] at hp; cases hp⟩
theorem Met.put {next : Nat → List Nat} {wt : Nat × Nat → Nat → Nat} {S most : Nat} {met : List (Nat × Nat)} {src : List ((Nat × Nat) × Nat)} (h : Met next wt S most met src) {k i : Nat} {p : Nat × Nat} (hk : met[k]? = some p) (hi : i < (next p.1).length) (hw : wt p i ≤ most) (hx : ∀ s, s ∈ next p.1 → s < S) (hn : step next wt p i ∉ met) : Met next wt S most (met ++ [step next wt p i]) (src ++ [(p, i)]) := by
  have hkl : k < met.length := (List.getElem?_eq_some_iff.1 hk).1
  refine ⟨by simp [h.len], by rw [List.getElem?_append_left (by omega)]; exact h.zero, ?_, ?_, ?_⟩
  · rw [List.nodup_append]
    refine ⟨h.nodup, by simp, fun a ha b hb => ?_⟩
    simp at hb
    subst hb
    exact fun e => hn (e ▸ ha)
  · intro q hq
    rcases List.mem_append.1 hq with hq | hq
    · exact h.low q hq
    · simp at hq
      subst hq
      refine ⟨hx _ ?_, hw⟩
      show (next p.1).getD i 0 ∈ _
      rw [List.getD_eq_getElem?_getD, List.getElem?_eq_getElem hi]
      exact List.getElem_mem hi
  · intro j q f n hj hq hs
    by_cases hjl : j < met.length
    · rw [List.getElem?_append_left hjl] at hq
      rw [List.getElem?_append_left (by rw [h.len]; exact hjl)] at hs
      obtain ⟨k', h1, h2, h3⟩ := h.back j q f n hj hq hs
      exact ⟨k', h1, by rw [List.getElem?_append_left (by omega)]; exact h2, h3⟩
    · have hje : j = met.length := by
        have := (List.getElem?_eq_some_iff.1 hq).1
        simp at this
        omega
      subst hje
      rw [List.getElem?_append_right (Nat.le_refl _)] at hq
      rw [List.getElem?_append_right (by rw [h.len]; exact Nat.le_refl _), h.len] at hs
      simp at hq hs
      obtain ⟨rfl, rfl⟩ := hs
      exact ⟨k, hkl, by rw [List.getElem?_append_left hkl]; exact hk, hi, hw, hq.symm⟩
theorem Shut.put {next : Nat → List Nat} {wt : Nat × Nat → Nat → Nat} {most : Nat} {met : List (Nat × Nat)} {k : Nat} (h : Shut next wt most met k) (hk : k ≤ met.length) (x : Nat × Nat) : Shut next wt most (met ++ [x]) k := fun j p hj hp i hi => by
  rw [List.getElem?_append_left (by omega)] at hp
  obtain ⟨h1, h2⟩ := h j p hj hp i hi
  exact ⟨h1, List.mem_append_left _ h2⟩
theorem ShutIn.put {next : Nat → List Nat} {wt : Nat × Nat → Nat → Nat} {most : Nat} {met : List (Nat × Nat)} {p : Nat × Nat} {n : Nat} (h : ShutIn next wt most met p n) (hw : wt p n ≤ most) : ShutIn next wt most (met ++ [step next wt p n]) p (n + 1) := fun i hi => by
  by_cases e : i = n
  · subst e; exact ⟨hw, by simp⟩
  · obtain ⟨h1, h2⟩ := h i (by omega)
    exact ⟨h1, List.mem_append_left _ h2⟩
theorem ShutIn.pass {next : Nat → List Nat} {wt : Nat × Nat → Nat → Nat} {most : Nat} {met : List (Nat × Nat)} {p : Nat × Nat} {n : Nat} (h : ShutIn next wt most met p n) (hw : wt p n ≤ most) (hm : step next wt p n ∈ met) : ShutIn next wt most met p (n + 1) := fun i hi => by
  by_cases e : i = n
  · subst e; exact ⟨hw, hm⟩
  · exact h i (by omega)
theorem Shut.next {next : Nat → List Nat} {wt : Nat × Nat → Nat → Nat} {most : Nat} {met : List (Nat × Nat)} {k : Nat} {p : Nat × Nat} (h : Shut next wt most met k) (hp : met[k]? = some p) (hi : ShutIn next wt most met p (next p.1).length) : Shut next wt most met (k + 1) := fun j q hj hq i hil => by
  by_cases e : j = k
  · subst e
    rw [hp] at hq
    cases hq
    exact hi i hil
  · exact h j q (by omega) hq i hil
theorem few_of_nodup : ∀ (n : Nat) (l : List Nat), l.Nodup → (∀ x, x ∈ l → x < n) → l.length ≤ n
  | 0, [], _, _ => Nat.le_refl _
  | 0, x :: _, _, h => absurd (h x (by simp)) (by omega)
  | n + 1, l, hd, h => by
    have h1 := few_of_nodup n (l.erase n) (hd.erase n) (fun x hx => by
      have h2 := (hd.mem_erase_iff).1 hx
      have h3 := h x h2.2
      have := h2.1
      omega)
    rw [List.length_erase] at h1
    split at h1 <;> omega
theorem Met.few {next : Nat → List Nat} {wt : Nat × Nat → Nat → Nat} {S most : Nat} {met : List (Nat × Nat)} {src : List ((Nat × Nat) × Nat)} (h : Met next wt S most met src) : met.length ≤ S * (most + 1) := by
  have h1 := few_of_nodup (S * (most + 1)) (met.map fun p => p.1 * (most + 1) + p.2) ?_ ?_
  · simpa using h1
  · rw [List.Nodup, List.pairwise_map]
    refine h.nodup.imp_of_mem ?_
    intro a b ha hb hab e
    apply hab
    have la := (h.low a ha).2
    have lb := (h.low b hb).2
    have e1 : a.1 = b.1 := by
      have h2 : (a.1 * (most + 1) + a.2) / (most + 1) = a.1 := by rw [Nat.mul_comm, Nat.mul_add_div (by omega), Nat.div_eq_of_lt (by omega)]; rfl
      have h3 : (b.1 * (most + 1) + b.2) / (most + 1) = b.1 := by rw [Nat.mul_comm, Nat.mul_add_div (by omega), Nat.div_eq_of_lt (by omega)]; rfl
      rw [e, h3] at h2
      exact h2.symm
    rw [e1] at e
    exact Prod.ext e1 (by omega)
  · intro x hx
    obtain ⟨p, hp, rfl⟩ := List.mem_map.1 hx
    obtain ⟨h1, h2⟩ := h.low p hp
    have h3 : (p.1 + 1) * (most + 1) ≤ S * (most + 1) := Nat.mul_le_mul_right _ h1
    rw [Nat.add_mul] at h3
    omega
/-- what is shut is fine, whatever is played -/
theorem fine_of_shut {next : Nat → List Nat} {wt : Nat × Nat → Nat → Nat} {most : Nat} {met : List (Nat × Nat)} (h : Shut next wt most met met.length) : ∀ (l : List Nat) (p : Nat × Nat), p ∈ met → InR next p.1 l → Fine next wt most p l
  | [], _, _, _ => trivial
  | i :: l, p, hp, hr => by
    obtain ⟨j, hj, e⟩ := List.getElem_of_mem hp
    obtain ⟨h1, h2⟩ := h j p hj (by rw [List.getElem?_eq_getElem hj, e]) i hr.1
    exact ⟨hr.1, h1, fine_of_shut h l _ h2 hr.2⟩
theorem Fine.inr {next : Nat → List Nat} {wt : Nat × Nat → Nat → Nat} {most : Nat} : ∀ (l : List Nat) (p : Nat × Nat), Fine next wt most p l → InR next p.1 l
  | [], _, _ => trivial
  | _ :: l, _, h => ⟨h.1, Fine.inr l _ h.2.2⟩
theorem go_append (next : Nat → List Nat) (wt : Nat × Nat → Nat → Nat) : ∀ (l m : List Nat) (p : Nat × Nat), go next wt p (l ++ m) = go next wt (go next wt p l) m
  | [], _, _ => rfl
  | _ :: l, m, _ => go_append next wt l m _
theorem fine_append {next : Nat → List Nat} {wt : Nat × Nat → Nat → Nat} {most : Nat} : ∀ (l m : List Nat) (p : Nat × Nat), Fine next wt most p (l ++ m) ↔ Fine next wt most p l ∧ Fine next wt most (go next wt p l) m
  | [], m, p => by simp [Fine, go]
  | i :: l, m, p => by
    show (_ ∧ _ ∧ Fine next wt most (step next wt p i) (l ++ m)) ↔ ((_ ∧ _ ∧ Fine next wt most (step next wt p i) l) ∧ Fine next wt most (go next wt (step next wt p i) l) m)
    rw [fine_append l m]
    simp only [and_assoc]
/-- the inputs, the last one first, by which one that is met was come to -/
def Tr (met : List (Nat × Nat)) (src : List ((Nat × Nat) × Nat)) : Nat → List Nat → Prop
  | j, [] => j = 0
  | j, i :: r => 0 < j ∧ ∃ k f, k < j ∧ met[k]? = some f ∧ src[j]? = some (f, i) ∧ Tr met src k r
/-- on the way back from one that is met -/
structure Way (next : Nat → List Nat) (wt : Nat × Nat → Nat → Nat) (most : Nat) (met : List (Nat × Nat)) (src : List ((Nat × Nat) × Nat)) (J : Nat) (at_ : Nat × Nat) (j : Nat) (p : Nat × Nat) (r : List Nat) : Prop where
  here : met[j]? = some p
  few : j + r.length ≤ J
  fine : Fine next wt most p r.reverse
  comes : go next wt p r.reverse = at_
  tr : ∀ q, Tr met src j q → Tr met src J (r ++ q)
theorem Way.start {next : Nat → List Nat} {wt : Nat × Nat → Nat → Nat} {most : Nat} {met : List (Nat × Nat)} {src : List ((Nat × Nat) × Nat)} {J : Nat} {p : Nat × Nat} (h : met[J]? = some p) : Way next wt most met src J p J p [] := ⟨h, Nat.le_refl _, trivial, rfl, fun _ h => h⟩
theorem Way.back {next : Nat → List Nat} {wt : Nat × Nat → Nat → Nat} {S most : Nat} {met : List (Nat × Nat)} {src : List ((Nat × Nat) × Nat)} {J j i : Nat} {at_ p f : Nat × Nat} {r : List Nat} (hm : Met next wt S most met src) (h : Way next wt most met src J at_ j p r) (hj : 0 < j) (hs : src[j]? = some (f, i)) : ∃ k, Way next wt most met src J at_ k f (r ++ [i]) := by
  obtain ⟨k, h1, h2, h3, h4, h5⟩ := hm.back j p f i hj h.here hs
  refine ⟨k, h2, by have := h.few; simp; omega, ?_, ?_, ?_⟩
  · rw [List.reverse_append]
    exact ⟨h3, h4, h5 ▸ h.fine⟩
  · rw [List.reverse_append]
    show go next wt (step next wt f i) r.reverse = at_
    rw [← h5]
    exact h.comes
  · intro q hq
    rw [List.append_assoc]
    exact h.tr (i :: q) ⟨hj, k, f, h1, h2, hs, hq⟩
theorem Way.first {next : Nat → List Nat} {wt : Nat × Nat → Nat → Nat} {S most : Nat} {met : List (Nat × Nat)} {src : List ((Nat × Nat) × Nat)} {J j : Nat} {at_ p : Nat × Nat} {r : List Nat} (hm : Met next wt S most met src) (h : Way next wt most met src J at_ j p r) : p = (0, 0) ↔ j = 0 := by
  constructor
  · rintro rfl
    obtain ⟨h1, e1⟩ := List.getElem?_eq_some_iff.1 h.here
    obtain ⟨h2, e2⟩ := List.getElem?_eq_some_iff.1 hm.zero
    refine Classical.byContradiction fun hj => ?_
    exact (List.pairwise_iff_getElem.1 hm.nodup 0 j h2 h1 (by omega)) (e2.trans e1.symm)
  · rintro rfl
    have h1 := h.here
    rw [hm.zero] at h1
    exact (Option.some.inj h1).symm
/-- what the search comes to -/
def Held (next : Nat → List Nat) (wt : Nat × Nat → Nat → Nat) (most : Nat) : Prop := ∀ l, InR next 0 l → Fine next wt most (0, 0) l
def Broke (next : Nat → List Nat) (wt : Nat × Nat → Nat → Nat) (most : Nat) (l : List Nat) : Prop := ∃ m i, l = m ++ [i] ∧ Fine next wt most (0, 0) m ∧ i < (next (go next wt (0, 0) m).1).length ∧ most < wt (go next wt (0, 0) m) i
theorem Held.of {next : Nat → List Nat} {wt : Nat × Nat → Nat → Nat} {S most : Nat} {met : List (Nat × Nat)} {src : List ((Nat × Nat) × Nat)} (hm : Met next wt S most met src) (h : Shut next wt most met met.length) : Held next wt most := fun l hl => fine_of_shut h l (0, 0) (List.mem_of_getElem? hm.zero) hl
/-- not both -/
theorem Broke.not {next : Nat → List Nat} {wt : Nat × Nat → Nat → Nat} {most most' : Nat} {l : List Nat} (h : Broke next wt most' l) (hle : most ≤ most') : ¬ Held next wt most := fun hh => by
  obtain ⟨m, i, rfl, h1, h2, h3⟩ := h
  have hr : InR next 0 (m ++ [i]) := by
    have h4 : Fine next wt (wt (go next wt (0, 0) m) i + most') (0, 0) (m ++ [i]) := by
      rw [fine_append]
      refine ⟨?_, h2, by omega, trivial⟩
      have mono : ∀ (l : List Nat) (p : Nat × Nat) (a b : Nat), a ≤ b → Fine next wt a p l → Fine next wt b p l := by
        intro l
        induction l with
        | nil => intros; trivial
        | cons x l ih => intro p a b hab hf; exact ⟨hf.1, Nat.le_trans hf.2.1 hab, ih _ a b hab hf.2.2⟩
      exact mono m _ _ _ (by omega) h1
    exact h4.inr
  have h5 := hh _ hr
  rw [fine_append] at h5
  have := h5.2.2.1
  omega
end Pr
end
section
open Go.RowKit Go.Maps
def plV (p : Nat × Nat) : Value := .agg #[.int .i64 (p.1 : Int), .int .i64 (p.2 : Int)]
def stpV (x : (Nat × Nat) × Nat) : Value := .agg #[.int .i64 (x.1.1 : Int), .int .i64 (x.1.2 : Int), .int .i64 (x.2 : Int)]
theorem lawP : Keyed Tryz.prog 79 := Keyed.of_law (deep_law_laid (m := 9) (by kernel_rfl) (by decide) (of_decide_eq_true (by kernel_rfl)) (by kernel_rfl) (by kernel_rfl))
theorem zeroSt (w : World) : (zeroValue 117).run Tryz.prog w = .ok (stpV ((0, 0), 0)) w := by kernel_rfl
def plK (p : Nat × Nat) : Lit := .string (keyBytes [.int .i64 (p.1 : Int), .int .i64 (p.2 : Int)])
def Small (p : Nat × Nat) : Prop := p.1 ≤ 100000 ∧ p.2 ≤ 100000
theorem lits_int (m : Nat) (x : Int) (h : (Lit.int .i64 x).wf = true) : Tryz.prog.keyLits (m + 1) 3 [.int .i64 x] = some [.int .i64 x] := by
  unfold Program.keyLits
  simp only [Tryz.underlying3]
  rw [h]
  rfl
theorem key_pl (p : Nat × Nat) (h : Small p) : keyOf Tryz.prog 79 (plV p) = some (plK p) := by
  have w1 : (Lit.int .i64 (p.1 : Int)).wf = true := WalkArith.wf_i64 (by have := h.1; omega)
  have w2 : (Lit.int .i64 (p.2 : Int)).wf = true := WalkArith.wf_i64 (by have := h.2; omega)
  obtain ⟨m, hm⟩ : ∃ m, Tryz.prog.types.size = m + 1 := ⟨Tryz.prog.types.size - 1, by kernel_rfl⟩
  have c1 : Tryz.prog.cellsOf 3 = 1 := by kernel_rfl
  have c2 : Tryz.prog.cellsOf 79 = 2 := by kernel_rfl
  have kt : Tryz.prog.keyType 79 = true := by kernel_rfl
  unfold keyOf
  simp only [Tryz.underlying79]
  rw [kt]
  have hf : (plV p).formed Tryz.prog 79 = true := by
    unfold plV Value.formed
    simp only [Tryz.underlying79, c2]
    rfl
  rw [hf, hm]
  have hl : Tryz.prog.keyLits (m + 1 + 1) 79 (plV p).cells.toList = some [.int .i64 (p.1 : Int), .int .i64 (p.2 : Int)] := by
    have e1 := lits_int m _ w1
    have e2 := lits_int m _ w2
    unfold Program.keyLits
    simp only [Tryz.underlying79]
    rw [if_pos (by rw [c2]; exact ⟨rfl, by kernel_rfl⟩)]
    simp [plV, Value.cells, c1, e1, e2]
  rw [hl]
  rfl
theorem plK_inj {p q : Nat × Nat} (hp : Small p) (hq : Small q) (h : plK p = plK q) : p = q := by
  have h1 := lawP.inj (key_pl p hp) ((key_pl q hq).trans (congrArg some h.symm))
  have h1 := Value.agg.inj h1
  have e1 := congrArg (fun a : Array Value => a[0]?) h1
  have e2 := congrArg (fun a : Array Value => a[1]?) h1
  simp at e1 e2
  exact Prod.ext (by omega) (by omega)
/-- how an element reads: as itself -/
def heldR (v : Value) : Option (DataW Value × List MemPlace) := some (.held v, [])
/-- at each place what f tells -/
def CMap (W : World) (b n : Nat) (f : Nat × Nat → Option ((Nat × Nat) × Nat)) : Prop := ∃ D : DataW Value, W.ownsMap Tryz.prog 79 heldR b n D ∧ ∀ p, Small p → D.atKey (plK p) .nil = (match f p with | some x => .held (stpV x) | none => .nil)
theorem CMap.made (W : World) : CMap (W.alloc (.map #[] 0)) W.heap.size 0 (fun _ => none) := ⟨_, World.ownsMap_made _ _ _ _, fun _ _ => rfl⟩
theorem CMap.lt {W : World} {b n : Nat} {f : Nat × Nat → Option ((Nat × Nat) × Nat)} (h : CMap W b n f) : b < W.heap.size := by obtain ⟨_, h, _⟩ := h; exact h.lt
theorem CMap.kept {W W' : World} {b n : Nat} {f : Nat × Nat → Option ((Nat × Nat) × Nat)} (h : CMap W b n f) (hb : W'.heap[b]? = W.heap[b]?) : CMap W' b n f := by
  obtain ⟨D, ⟨es, clock, h1, h2⟩, h3⟩ := h
  exact ⟨D, ⟨es, clock, hb.trans h1, h2⟩, h3⟩
def lookV (c : Bool) (x : Option ((Nat × Nat) × Nat)) : Value :=
  if c then .tuple #[stpV (x.getD ((0, 0), 0)), .bool x.isSome] else stpV (x.getD ((0, 0), 0))
theorem CMap.look {W : World} {b n : Nat} {f : Nat × Nat → Option ((Nat × Nat) × Nat)} (h : CMap W b n f) (c : Bool) (p : Nat × Nat) (hp : Small p) : (Instr.lookup 118 (.map (some b)) (plV p) c).run Tryz.prog W = .ok (lookV c (f p)) W := by
  obtain ⟨D, ⟨es, clock, hb, F, _, rfl⟩, h3⟩ := h
  have h4 := h3 p hp
  rcases Maps.fit_look c lawP Tryz.underlying118 (zeroSt W) hb F (key_pl p hp) with ⟨hrun, _, hat⟩ | ⟨e0, y, _, _, hrun, hRv, hat, _⟩
  · rw [hat .nil] at h4
    cases hf : f p with
    | some x => rw [hf] at h4; cases h4
    | none =>
      rw [hrun]
      cases c <;> rfl
  · rw [hat .nil] at h4
    obtain rfl : y = (.held e0.val, []) := (Option.some.inj hRv).symm
    cases hf : f p with
    | none => rw [hf] at h4; cases h4
    | some x =>
      rw [hf] at h4
      have h5 : e0.val = stpV x := DataW.held.inj h4
      rw [hrun, h5]
      cases c <;> rfl
theorem CMap.put {W : World} {b n : Nat} {f : Nat × Nat → Option ((Nat × Nat) × Nat)} (h : CMap W b n f) (hn : n ≤ 1000000) (p : Nat × Nat) (x : (Nat × Nat) × Nat) (hp : Small p) : ∃ W', (Instr.mapUpdate 118 (.map (some b)) (plV p) (stpV x)).run Tryz.prog W = .ok () W' ∧ CMap W' b (n + 1) (fun q => if q = p then some x else f q) ∧ W.grownBy W' (some b) := by
  obtain ⟨D, ho, h3⟩ := h
  obtain ⟨W', hrun, ho', hg⟩ := ho.update lawP Tryz.underlying118 (by unfold maxLen; omega) (key_pl p hp) (show heldR (stpV x) = some (.held (stpV x), []) from rfl)
  refine ⟨W', hrun, ⟨_, ho', fun q hq => ?_⟩, hg⟩
  by_cases e : q = p
  · subst e
    rw [atKey_put_same ho.isMap (lawP.key (key_pl q hp))]
    dsimp only
    rw [if_pos rfl]
  · rw [atKey_put_other (fun h => e (plK_inj hq hp h)), h3 q hq]
    dsimp only
    rw [if_neg e]
end
section
open Go.RowKit
/-- a row of bools, and what lies behind them -/
def BRow (W : World) (g : Nat) (l : List Bool) (rest : List Value) : Prop := RowIs W g 4 (l.map boolV ++ rest)
theorem BRow.below {W W' : World} {g : Nat} {l : List Bool} {rest : List Value} (h : BRow W g l rest) (hb : Below W.heap.size W W') : BRow W' g l rest := RowIs.below h hb
theorem BRow.cell {W : World} {g : Nat} {l : List Bool} {rest : List Value} (h : BRow W g l rest) (k : Nat) (b : Bool) (hb : l[k]? = some b) : W.cell? ⟨g, k, none⟩ = some (.bool b) :=
  RowIs.cell h k _ (by rw [List.getElem?_append_left (by rw [List.length_map]; exact (List.getElem?_eq_some_iff.1 hb).1), List.getElem?_map, hb]; rfl)
theorem BRow.set {W : World} {g : Nat} {l : List Bool} {rest : List Value} (h : BRow W g l rest) (k : Nat) (b : Bool) (hk : k < l.length) : BRow (W.setCell ⟨g, k, none⟩ (.bool b)) g (l.set k b) rest := by
  have h1 := RowIs.set h k (.bool b)
  rw [List.set_append_left _ _ (by rw [List.length_map]; exact hk)] at h1
  unfold BRow
  rw [List.map_set]
  exact h1
theorem BRow.bools {W : World} {g cp : Nat} {l : List Bool} {rest : List Value} (h : BRow W g l rest) (hl : l.length ≤ 1000000) : Bools W (.slice (some ⟨g, 0, none⟩) l.length cp) l :=
  ⟨_, _, rfl, hl, fun i b hb => ⟨g, rfl, h.cell i b hb⟩⟩
def lenV : Value → Nat
  | .slice _ n _ => n
  | _ => 0
theorem own_pop {W : World} {q g n cap : Nat} {e : TypeId} {xs : List Value} (h : W.ownsRow q e 1 (.slice (some ⟨g, 0, none⟩) (n + 1) cap) (n + 1) xs) : W.ownsRow q e 1 (.slice (some ⟨g, 0, none⟩) n cap) n (xs.take n) := by
  obtain ⟨h0, h1⟩ := h
  refine ⟨by rw [List.length_take]; omega, ?_⟩
  rcases h1 with ⟨hx, _⟩ | ⟨g', cap', cur, hx, h2, h3, h4, h5, h6, h7⟩
  · cases hx
  · simp only [Value.slice.injEq, Option.some.injEq, Addr.mk.injEq, true_and] at hx
    obtain ⟨⟨rfl, _⟩, rfl⟩ := hx
    refine .inr ⟨g, cap, cur, rfl, h2, h3, by omega, h5, h6, ?_⟩
    rw [← h7, List.take_take]
    congr 1
    omega
theorem grown_trans {A B C : World} {r : Option Nat} (h : A.grownBy B r) (k : B.grownBy C r) : A.grownBy C r :=
  ⟨k.os.trans h.os, k.tape.trans h.tape, k.output.trans h.output, Nat.le_trans h.size k.size, fun b hb hr => (k.block b (Nat.lt_of_lt_of_le hb h.size) hr).trans (h.block b hb hr)⟩
theorem grown_of_below {A B : World} (r : Option Nat) (h : Below A.heap.size A B) : A.grownBy B r := ⟨h.os, h.tape, h.output, h.size, fun b hb _ => h.block b hb⟩
end
section
open Go.RowKit
/-- where a state leads to, input by input -/
def Mc.nexts (p : Ld.Prg) (s : Nat) : List Nat := (List.range (2 ^ (Ld.kindL p.names 1).length)).map fun i => Mc.number (Mc.parts p) (Mc.after1 p (Ld.kindL p.names 1).length s i).is (Mc.after1 p (Ld.kindL p.names 1).length s i).ct
theorem Mc.nexts_len (p : Ld.Prg) (s : Nat) : (Mc.nexts p s).length = 2 ^ (Ld.kindL p.names 1).length := by simp [Mc.nexts]
theorem Mc.nexts_row (p : Ld.Prg) (s : Nat) : Mc.nextRow p (Ld.kindL p.names 1).length (2 ^ (Ld.kindL p.names 1).length) s = (Mc.nexts p s).map intV := by simp [Mc.nexts, Mc.nextRow, intV]
theorem Mc.nexts_lt (p : Ld.Prg) (hck : Ld.check p = none) (s x : Nat) (h : x ∈ Mc.nexts p s) : x < Mc.total (Mc.parts p) := by
  unfold Mc.nexts at h
  obtain ⟨i, _, rfl⟩ := List.mem_map.1 h
  exact Mc.number_after p _ (Sc.step_bd p hck _ _ (Mc.state_bd p hck s) (bitsTo_len _ _)).1
/-- a machine's table: from each state, by each input -/
def NextAt (W : World) (bm S I : Nat) (next : Nat → List Nat) (gN : Nat) (uN : List Nat) : Prop := W.cell? ⟨bm, 4, none⟩ = some (.slice (some ⟨gN, 0, none⟩) S S) ∧ uN.length = S ∧ ∀ (s b : Nat), uN[s]? = some b → W.cell? ⟨gN, s, none⟩ = some (.slice (some ⟨b, 0, none⟩) I I) ∧ ∀ (i x : Nat), (next s)[i]? = some x → W.cell? ⟨b, i, none⟩ = some (.int .i64 (x : Int))
theorem NextAt.below {W W' : World} {bm S I gN : Nat} {next : Nat → List Nat} {uN : List Nat} (h : NextAt W bm S I next gN uN) (hb : Below W.heap.size W W') : NextAt W' bm S I next gN uN :=
  have key : ∀ (p : Addr) v, W.cell? p = some v → W'.cell? p = some v := fun _ _ hv => (hb.cell (World.block_lt_of_cell? _ _ hv)).trans hv
  ⟨key _ _ h.1, h.2.1, fun s b hs => ⟨key _ _ (h.2.2 s b hs).1, fun i x hx => key _ _ ((h.2.2 s b hs).2 i x hx)⟩⟩
/-- a slice of one that the call has built -/
theorem own_one (W : World) (q : Nat) (e : TypeId) (v : Value) (hq : q ≤ W.heap.size) : (W.alloc (.cells #[v] e)).ownsRow q e 1 (.slice (some ⟨W.heap.size, 0, none⟩) 1 1) 1 [v] :=
  ⟨by simp, .inr ⟨W.heap.size, 1, #[v], rfl, hq, heap_alloc_new W _, Nat.le_refl _, by decide, by simp, by simp⟩⟩
end
end Go.Proofs.YtjlkjhmmbaljiaaGreatDoor
