/-
  Plain mathematics of chapter 12: on what names hang; a program cut down to that says the same of them, scan by scan; and cut once more is itself. Nothing of the program is named here. Plain facts: one program of three names, and what of it matters for one. Plain mathematics of chapter 12: marks that grow, name by name, until all that some names hang on is marked. Nothing of the program is named here.
-/
import Derived.Test.YtgoabhclnicepaaGreatDoorRfMathAll
import Derived.Test.YtgoabhclnicepaaGreatDoorSlTidyMAll
namespace Go.Proofs.YtgoabhclnicepaaGreatDoor
section
namespace Sl
/-- what a rung names -/
def namesR (r : Ld.Rng) : List (List UInt8) := match r.cond with | some x => x.named true | none => []
/-- on what some names hang, k rungs on -/
def rch (p : Ld.Prg) (names : List (List UInt8)) : Nat → List UInt8 → Prop
  | 0, s => s ∈ names
  | k + 1, s => rch p names k s ∨ ∃ r, r ∈ p.rungs ∧ rch p names k r.name ∧ s ∈ namesR r
def Rch (p : Ld.Prg) (names : List (List UInt8)) (s : List UInt8) : Prop := ∃ k, rch p names k s
theorem Rch.base {p : Ld.Prg} {names : List (List UInt8)} {s : List UInt8} (h : s ∈ names) : Rch p names s := ⟨0, h⟩
theorem Rch.step {p : Ld.Prg} {names : List (List UInt8)} {s : List UInt8} {r : Ld.Rng} (hr : r ∈ p.rungs) (h : Rch p names r.name) (hs : s ∈ namesR r) : Rch p names s := by
  obtain ⟨k, hk⟩ := h
  exact ⟨k + 1, .inr ⟨r, hr, hk, hs⟩⟩
theorem Rch.mono {p q : Ld.Prg} {names : List (List UInt8)} (h : ∀ r, r ∈ p.rungs → Rch p names r.name → r ∈ q.rungs) : ∀ (k : Nat) (s : List UInt8), rch p names k s → Rch q names s
  | 0, _, hs => .base hs
  | k + 1, s, hs => by
    rcases hs with hs | ⟨r, hr, h1, h2⟩
    · exact Rch.mono h k s hs
    · exact .step (h r hr ⟨k, h1⟩) (Rch.mono h k r.name h1) h2
/-- from one name on -/
theorem Rch.trans {p : Ld.Prg} {names : List (List UInt8)} {a : List UInt8} (ha : Rch p names a) : ∀ (k : Nat) (s : List UInt8), rch p [a] k s → Rch p names s
  | 0, s, hs => by
    have : s = a := by simpa [rch] using hs
    rw [this]
    exact ha
  | k + 1, s, hs => by
    rcases hs with hs | ⟨r, hr, h1, h2⟩
    · exact Rch.trans ha k s hs
    · exact .step hr (Rch.trans ha k r.name h1) h2
/-- marks that tell of each name whether some hang on it -/
structure Needed (p : Ld.Prg) (names : List (List UInt8)) (m : List Bool) : Prop where
  len : m.length = p.names.length
  iff_ : ∀ s, Sc.told p.names m s = true ↔ Rch p names s
/-- the program with that alone -/
def part (p : Ld.Prg) (m : List Bool) : Ld.Prg := ⟨p.names.filter fun n => Sc.told p.names m n.name || n.kind == 1, p.rungs.filter fun r => Sc.told p.names m r.name⟩
theorem told_known {ns : List Ld.Nme} {m : List Bool} {s : List UInt8} (h : Sc.told ns m s = true) : 0 ≤ Ld.number ns s := by
  unfold Sc.told at h
  simp at h
  exact h.1
theorem known_mem {ns : List Ld.Nme} {s : List UInt8} (h : 0 ≤ Ld.number ns s) : ∃ n, n ∈ ns ∧ n.name = s := by
  rcases Ld.number_cases ns s with ⟨h1, _⟩ | ⟨k, hk, _, h2, _⟩
  · omega
  · exact ⟨_, List.getElem_mem hk, h2⟩
theorem mem_known {ns : List Ld.Nme} {n : Ld.Nme} (h : n ∈ ns) : 0 ≤ Ld.number ns n.name := by
  rcases Ld.number_cases ns n.name with ⟨_, h1⟩ | ⟨k, hk, h1, _⟩
  · exact absurd rfl (h1 n h)
  · omega
/-- no two names are alike -/
def One (ns : List Ld.Nme) : Prop := ∀ a, a ∈ ns → ∀ b, b ∈ ns → a.name = b.name → a = b
/-- the name of a number -/
theorem number_mem {ns : List Ld.Nme} (ho : One ns) {n : Ld.Nme} (h : n ∈ ns) : ∃ (k : Nat) (hk : k < ns.length), Ld.number ns n.name = (k : Int) ∧ ns[k] = n := by
  rcases Ld.number_cases ns n.name with ⟨_, h1⟩ | ⟨k, hk, h1, h2, _⟩
  · exact absurd rfl (h1 n h)
  · exact ⟨k, hk, h1, ho _ (List.getElem_mem hk) _ h h2⟩
theorem names_nodup (p : Ld.Prg) (h : Ld.check p = none) : (p.names.map fun n => n.name).Nodup := by
  rw [List.Nodup, List.pairwise_iff_getElem]
  intro i j hi hj hij e
  rw [List.length_map] at hi hj
  rw [List.getElem_map, List.getElem_map] at e
  have h1 := Rf.number_self p h i (by omega)
  have h2 := Rf.number_self p h j hj
  rw [e, h2] at h1
  omega
theorem names_one (p : Ld.Prg) (h : Ld.check p = none) : One p.names := by
  intro a ha b hb e
  obtain ⟨i, hi, rfl⟩ := List.getElem_of_mem ha
  obtain ⟨j, hj, rfl⟩ := List.getElem_of_mem hb
  have h1 := Rf.number_self p h i hi
  have h2 := Rf.number_self p h j hj
  rw [e, h2] at h1
  have : j = i := by omega
  subst this
  rfl
theorem nodup_number (ns : List Ld.Nme) (h : (ns.map fun n => n.name).Nodup) (i : Nat) (hi : i < ns.length) : ¬ Ld.number ns ns[i].name < (i : Int) := by
  intro hlt
  rcases Ld.number_cases ns ns[i].name with ⟨_, h1⟩ | ⟨k, hk, h1, h2, _⟩
  · exact absurd rfl (h1 _ (List.getElem_mem hi))
  · rw [h1] at hlt
    have hne := (List.pairwise_iff_getElem.1 h) k i (by simpa using hk) (by simpa using hi) (by omega)
    rw [List.getElem_map, List.getElem_map] at hne
    exact hne h2
theorem part_sub (p : Ld.Prg) (m : List Bool) : ∀ n, n ∈ (part p m).names → n ∈ p.names := fun _ h => (List.mem_filter.1 h).1
theorem part_one (p : Ld.Prg) (h : Ld.check p = none) (m : List Bool) : One (part p m).names := fun a ha b hb e => names_one p h a (part_sub p m a ha) b (part_sub p m b hb) e
/-- a name that stays is the same there -/
theorem part_at (p : Ld.Prg) (h : Ld.check p = none) (m : List Bool) (s : List UInt8) (hs : Sc.told p.names m s = true) :
    ∃ (i : Nat) (hi : i < p.names.length) (j : Nat) (hj : j < (part p m).names.length), Ld.number p.names s = (i : Int) ∧ Ld.number (part p m).names s = (j : Int) ∧ p.names[i] = (part p m).names[j] := by
  obtain ⟨n, hn, rfl⟩ := known_mem (told_known hs)
  have hq : n ∈ (part p m).names := List.mem_filter.2 ⟨hn, by rw [hs]; rfl⟩
  obtain ⟨i, hi, h1, h2⟩ := number_mem (names_one p h) hn
  obtain ⟨j, hj, h3, h4⟩ := number_mem (part_one p h m) hq
  exact ⟨i, hi, j, hj, h1, h3, h2.trans h4.symm⟩
theorem check_part (p : Ld.Prg) (h : Ld.check p = none) (names : List (List UInt8)) (m : List Bool) (hm : Needed p names m) : Ld.check (part p m) = none := by
  obtain ⟨⟨h1, h2⟩, h3, h4⟩ := (check_parts p).1 h
  have hnm := (Ld.check_names p h).2.2.1
  refine (check_parts (part p m)).2 ⟨⟨Nat.le_trans (List.length_filter_le _ _) h1, Nat.le_trans (List.length_filter_le _ _) h2⟩, bad_of_zero _ _ fun i hi => ?_, fun r hr => ?_⟩
  · rw [Ld.nameAt_at _ _ hi]
    have hmem := part_sub p m _ (List.getElem_mem hi)
    obtain ⟨g1, g2, g3, g4⟩ := hnm _ hmem
    have hnd : ((part p m).names.map fun n => n.name).Nodup := ((List.filter_sublist).map _).nodup (names_nodup p h)
    unfold Ld.wrongN
    rw [if_neg (by rw [g1]; decide), if_neg (by omega), if_neg (by rw [g4]; decide), if_neg (nodup_number _ hnd i hi)]
  · obtain ⟨hr1, hr2⟩ := List.mem_filter.1 hr
    obtain ⟨g1, g2, g3, g4, x, g5, g6⟩ := Ld.check_rungs p h r hr1
    obtain ⟨i, hi, j, hj, e1, e2, e3⟩ := part_at p h m r.name hr2
    unfold Ld.wrongR
    rw [if_neg (by omega), g5]
    simp only
    rw [if_neg (by omega)]
    have hk : Ld.kindAt (part p m).names (Ld.number (part p m).names r.name) = Ld.kindOf r.kind := by
      rw [← g4, e1, e2]
      unfold Ld.kindAt
      rw [Int.toNat_natCast, Int.toNat_natCast, List.getElem?_eq_getElem hi, List.getElem?_eq_getElem hj, e3]
    rw [if_neg (fun hn => hn hk), if_pos]
    unfold Ld.known
    rw [List.all_eq_true]
    intro s hs
    have hsR : Rch p names s := .step hr1 ((hm.iff_ _).1 hr2) (by unfold namesR; rw [g5]; exact hs)
    obtain ⟨_, _, _, _, _, e4, _⟩ := part_at p h m s ((hm.iff_ _).2 hsR)
    rw [e4]
    exact decide_eq_true (by omega)
theorem places_filter (f : Ld.Nme → Bool) (ns : List Ld.Nme) : (Ld.placesTo f ns ns.length).filterMap (fun i => ns[i]?) = ns.filter f := by
  have key : ∀ k, k ≤ ns.length → (Ld.placesTo f ns k).filterMap (fun i => ns[i]?) = (ns.take k).filter f := by
    intro k
    induction k with
    | zero => intro _; rfl
    | succ k ih =>
      intro hk
      have hk2 : k < ns.length := by omega
      rw [Ld.placesTo_succ f ns k hk2, List.filterMap_append, ih (by omega), List.take_succ_eq_append_getElem hk2, List.filter_append]
      congr 1
      cases hf : f ns[k] with
      | true => simp [hk2, hf]
      | false => simp [hf]
  rw [key ns.length (Nat.le_refl _), List.take_length]
/-- inputs are read by name -/
def readsN (l : List (List UInt8)) (inp : List Bool) (f : List UInt8 → Bool) : List UInt8 → Bool := (l.zip inp).foldl (fun acc p => Rf.upd acc p.1 p.2) f
theorem reads_names (ns : List Ld.Nme) : ∀ (l : List Nat) (inp : List Bool) (f : List UInt8 → Bool), (∀ i, i ∈ l → i < ns.length) → Rf.reads ns l inp f = readsN ((l.filterMap fun i => ns[i]?).map fun n => n.name) inp f
  | [], _, _, _ => rfl
  | i :: l, [], _, _ => by
    unfold Rf.reads readsN
    simp
  | i :: l, b :: inp, f, h => by
    have hi := h i (by simp)
    have ih := reads_names ns l inp (Rf.upd f (ns.getD i ⟨[], 0, 0⟩).name b) (fun j hj => h j (by simp [hj]))
    have e1 : (ns.getD i ⟨[], 0, 0⟩).name = ns[i].name := by simp [hi]
    have e2 : (i :: l).filterMap (fun i => ns[i]?) = ns[i] :: l.filterMap (fun i => ns[i]?) := by simp [hi]
    rw [e2]
    unfold Rf.reads readsN at ih ⊢
    simp only [List.zip_cons_cons, List.foldl_cons, List.map_cons]
    rw [ih, e1]
theorem readsN_agree : ∀ (l : List (List UInt8)) (inp : List Bool) (f g : List UInt8 → Bool) (s : List UInt8), f s = g s → readsN l inp f s = readsN l inp g s
  | [], _, _, _, _, h => h
  | _ :: _, [], _, _, _, h => h
  | a :: l, b :: inp, f, g, s, h => by
    have e : ∀ f, readsN (a :: l) (b :: inp) f = readsN l inp (Rf.upd f a b) := fun _ => rfl
    rw [e, e]
    refine readsN_agree l inp _ _ s ?_
    unfold Rf.upd
    by_cases ea : s = a
    · rw [if_pos ea, if_pos ea]
    · rw [if_neg ea, if_neg ea, h]
theorem kindL_names (ns : List Ld.Nme) (k : Int) : (Ld.kindL ns k).filterMap (fun i => ns[i]?) = ns.filter fun n => n.kind == k := places_filter (fun n => n.kind == k) ns
theorem part_inputs (p : Ld.Prg) (m : List Bool) : ((part p m).names.filter fun n => n.kind == 1) = p.names.filter fun n => n.kind == 1 := by
  unfold part
  rw [List.filter_filter]
  refine List.filter_congr fun n _ => ?_
  cases h : n.kind == 1 with
  | true => simp
  | false => simp
theorem filterMap_len {α : Type} (l : List α) : ∀ (is : List Nat), (∀ i, i ∈ is → i < l.length) → (is.filterMap fun i => l[i]?).length = is.length
  | [], _ => rfl
  | i :: is, h => by
    have hi := h i (by simp)
    have ih := filterMap_len l is (fun j hj => h j (by simp [hj]))
    have e2 : (i :: is).filterMap (fun i => l[i]?) = l[i] :: is.filterMap (fun i => l[i]?) := by simp [hi]
    rw [e2, List.length_cons, List.length_cons, ih]
theorem kindL_len (ns : List Ld.Nme) (k : Int) : (Ld.kindL ns k).length = (ns.filter fun n => n.kind == k).length := by
  rw [← kindL_names ns k, filterMap_len ns _ (fun i hi => (Ld.kindL_at _ _ _ hi).1)]
theorem part_kinds (p : Ld.Prg) (m : List Bool) : (Ld.kindL (part p m).names 1).length = (Ld.kindL p.names 1).length := by
  rw [kindL_len, kindL_len, part_inputs]
/-- two states say the same of what is marked -/
def Agree (p : Ld.Prg) (m : List Bool) (f g : Rf.St) : Prop := ∀ s, Sc.told p.names m s = true → f.is s = g.is s ∧ f.ct s = g.ct s
theorem agree_rung_off (p : Ld.Prg) (m : List Bool) (ns : List Ld.Nme) (was : List UInt8 → Bool) (f g : Rf.St) (h : Agree p m f g) (r : Ld.Rng) (hr : Sc.told p.names m r.name = false) : Agree p m (Rf.rung ns was f r) g := by
  intro s hs
  have hne : s ≠ r.name := fun e => by rw [e, hr] at hs; cases hs
  have hu : ∀ {β : Type} (f : List UInt8 → β) (v : β), Rf.upd f r.name v s = f s := fun f v => by unfold Rf.upd; rw [if_neg hne]
  obtain ⟨h1, h2⟩ := h s hs
  unfold Rf.rung
  cases r.cond with
  | none => exact ⟨h1, h2⟩
  | some x =>
    simp only
    repeat' split
    all_goals first | exact ⟨h1, h2⟩ | (simp only [hu]; exact ⟨h1, h2⟩)
theorem agree_rung (p : Ld.Prg) (h : Ld.check p = none) (names : List (List UInt8)) (m : List Bool) (hm : Needed p names m) (wp wq : List UInt8 → Bool) (hw : ∀ s, Sc.told p.names m s = true → wp s = wq s) (f g : Rf.St) (ha : Agree p m f g) (r : Ld.Rng) (hr : r ∈ p.rungs) (ht : Sc.told p.names m r.name = true) :
    Agree p m (Rf.rung p.names wp f r) (Rf.rung (part p m).names wq g r) := by
  obtain ⟨g1, g2, g3, g4, x, g5, g6⟩ := Ld.check_rungs p h r hr
  have hin : ∀ s, s ∈ x.named true → Sc.told p.names m s = true := fun s hs => (hm.iff_ s).2 (.step hr ((hm.iff_ _).1 ht) (by unfold namesR; rw [g5]; exact hs))
  have hev : x.eval f.is wp = x.eval g.is wq := Ex.eval_congr _ _ _ _ x (fun s hs => (ha s (hin s hs)).1) (fun s hs => hw s (hin s (Ex.edges_names x s hs)))
  have htop : Rf.top (part p m).names r.name = Rf.top p.names r.name := by
    obtain ⟨i, hi, j, hj, e1, e2, e3⟩ := part_at p h m r.name ht
    unfold Rf.top
    rw [e1, e2, Int.toNat_natCast, Int.toNat_natCast]
    simp [hi, hj, e3]
  have hct := (ha r.name ht).2
  have hup : ∀ {β : Type} (f g : List UInt8 → β) (s : List UInt8) (v : β), f s = g s → Rf.upd f r.name v s = Rf.upd g r.name v s := fun f g s v e => by
    unfold Rf.upd
    by_cases e2 : s = r.name
    · rw [if_pos e2, if_pos e2]
    · rw [if_neg e2, if_neg e2, e]
  intro s hs
  obtain ⟨h1, h2⟩ := ha s hs
  unfold Rf.rung
  rw [g5]
  simp only
  rw [hev, htop, hct]
  by_cases k1 : r.kind = 1
  · simp only [k1, if_true]; exact ⟨hup _ _ _ _ h1, h2⟩
  simp only [k1, if_false]
  by_cases k2 : r.kind = 2
  · simp only [k2, if_true]
    split
    · exact ⟨hup _ _ _ _ h1, h2⟩
    · exact ⟨h1, h2⟩
  simp only [k2, if_false]
  by_cases k3 : r.kind = 3
  · simp only [k3, if_true]
    split
    · exact ⟨hup _ _ _ _ h1, h2⟩
    · exact ⟨h1, h2⟩
  simp only [k3, if_false]
  by_cases k4 : r.kind = 4 ∨ r.kind = 5
  · simp only [k4, if_true]; exact ⟨hup _ _ _ _ h1, hup _ _ _ _ h2⟩
  simp only [k4, if_false]
  by_cases k6 : r.kind = 6
  · simp only [k6, if_true]
    split
    · exact ⟨hup _ _ _ _ h1, hup _ _ _ _ h2⟩
    · exact ⟨h1, h2⟩
  · omega
theorem agree_fold (p : Ld.Prg) (h : Ld.check p = none) (names : List (List UInt8)) (m : List Bool) (hm : Needed p names m) (wp wq : List UInt8 → Bool) (hw : ∀ s, Sc.told p.names m s = true → wp s = wq s) : ∀ (rs : List Ld.Rng), (∀ r, r ∈ rs → r ∈ p.rungs) → ∀ f g, Agree p m f g →
    Agree p m (rs.foldl (Rf.rung p.names wp) f) ((rs.filter fun r => Sc.told p.names m r.name).foldl (Rf.rung (part p m).names wq) g)
  | [], _, _, _, ha => ha
  | r :: rs, hrs, f, g, ha => by
    rw [List.foldl_cons]
    cases ht : Sc.told p.names m r.name with
    | true =>
      rw [List.filter_cons_of_pos (by simp [ht]), List.foldl_cons]
      exact agree_fold p h names m hm wp wq hw rs (fun r hr => hrs r (by simp [hr])) _ _ (agree_rung p h names m hm wp wq hw f g ha r (hrs r (by simp)) ht)
    | false =>
      rw [List.filter_cons_of_neg (by simp [ht])]
      exact agree_fold p h names m hm wp wq hw rs (fun r hr => hrs r (by simp [hr])) _ _ (agree_rung_off p m p.names wp f g ha r ht)
/-- a scan of what was cut says the same of what is marked -/
theorem agree_step (p : Ld.Prg) (h : Ld.check p = none) (names : List (List UInt8)) (m : List Bool) (hm : Needed p names m) (f g : Rf.St) (ha : Agree p m f g) (inp : List Bool) : Agree p m (Rf.step p f inp) (Rf.step (part p m) g inp) := by
  refine agree_fold p h names m hm f.is g.is (fun s hs => (ha s hs).1) p.rungs (fun _ hr => hr) _ _ fun s hs => ⟨?_, (ha s hs).2⟩
  simp only
  rw [reads_names p.names _ _ _ (fun i hi => (Ld.kindL_at _ _ _ hi).1), reads_names (part p m).names _ _ _ (fun i hi => (Ld.kindL_at _ _ _ hi).1), kindL_names, kindL_names, part_inputs]
  exact readsN_agree _ _ _ _ s (ha s hs).1
theorem agree_after (p : Ld.Prg) (h : Ld.check p = none) (names : List (List UInt8)) (m : List Bool) (hm : Needed p names m) (ins : List (List Bool)) (hl : ∀ i, i ∈ ins → i.length = (Ld.kindL p.names 1).length) :
    Agree p m (Rf.of p.names (Sc.after p ins)) (Rf.of (part p m).names (Sc.after (part p m) ins)) := by
  have hq := check_part p h names m hm
  have key : ∀ (ins : List (List Bool)) (s t : Sc.St), Sc.Bd p s → Sc.Bd (part p m) t → Agree p m (Rf.of p.names s) (Rf.of (part p m).names t) → (∀ i, i ∈ ins → i.length = (Ld.kindL p.names 1).length) → Agree p m (Rf.of p.names (ins.foldl (Sc.step p) s)) (Rf.of (part p m).names (ins.foldl (Sc.step (part p m)) t)) := by
    intro ins
    induction ins with
    | nil => intro s t _ _ ha _; exact ha
    | cons a r ih =>
      intro s t hs ht ha hl
      rw [List.foldl_cons, List.foldl_cons]
      have hla := hl a (by simp)
      refine ih _ _ (Sc.step_bd p h s a hs hla).1 (Sc.step_bd (part p m) hq t a ht (by rw [part_kinds]; exact hla)).1 ?_ (fun i hi => hl i (by simp [hi]))
      rw [Rf.of_step p h s a hs, Rf.of_step (part p m) hq t a ht]
      exact agree_step p h names m hm _ _ ha a
  refine key ins _ _ (Sc.start_bd p h) (Sc.start_bd _ hq) ?_ hl
  rw [Rf.of_start, Rf.of_start]
  exact fun _ _ => ⟨rfl, rfl⟩
/-- A SLICE SAYS THE SAME -/
theorem part_says (p : Ld.Prg) (h : Ld.check p = none) (names : List (List UInt8)) (m : List Bool) (hm : Needed p names m) (ins : List (List Bool)) (hl : ∀ i, i ∈ ins → i.length = (Ld.kindL p.names 1).length) (s : List UInt8) (hs : s ∈ names) :
    0 ≤ Ld.number p.names s ∧ 0 ≤ Ld.number (part p m).names s ∧
    (Sc.after p ins).is.getD (Ld.number p.names s).toNat false = (Sc.after (part p m) ins).is.getD (Ld.number (part p m).names s).toNat false ∧
    (Sc.after p ins).ct.getD (Ld.number p.names s).toNat 0 = (Sc.after (part p m) ins).ct.getD (Ld.number (part p m).names s).toNat 0 := by
  have ht := (hm.iff_ s).2 (.base hs)
  obtain ⟨i, hi, j, hj, e1, e2, e3⟩ := part_at p h m s ht
  obtain ⟨h1, h2⟩ := agree_after p h names m hm ins hl s ht
  have k1 : 0 ≤ Ld.number p.names s := by omega
  have k2 : 0 ≤ Ld.number (part p m).names s := by omega
  refine ⟨k1, k2, ?_, ?_⟩
  · have := h1
    simp only [Rf.of] at this
    rwa [Rf.told_at _ _ _ k1, Rf.told_at _ _ _ k2] at this
  · have := h2
    simp only [Rf.of] at this
    rwa [Rf.toldC_at _ _ _ k1, Rf.toldC_at _ _ _ k2] at this
/-- what was cut, cut once more, is itself -/
theorem part_again (p : Ld.Prg) (names : List (List UInt8)) (m : List Bool) (hm : Needed p names m) (m' : List Bool) (hm' : Needed (part p m) names m') : part (part p m) m' = part p m := by
  have key : ∀ s, Sc.told p.names m s = true → Sc.told (part p m).names m' s = true := fun s hs => by
    obtain ⟨k, hk⟩ := (hm.iff_ s).1 hs
    refine (hm'.iff_ s).2 (Rch.mono (fun r hr h1 => ?_) k s hk)
    exact List.mem_filter.2 ⟨hr, (hm.iff_ _).2 h1⟩
  have e1 : ((part p m).names.filter fun n => Sc.told (part p m).names m' n.name || n.kind == 1) = (part p m).names := by
    rw [List.filter_eq_self]
    intro n hn
    obtain ⟨_, h2⟩ := List.mem_filter.1 hn
    rcases Bool.or_eq_true_iff.1 h2 with h3 | h3
    · rw [key _ h3]; rfl
    · rw [h3, Bool.or_true]
  have e2 : ((part p m).rungs.filter fun r => Sc.told (part p m).names m' r.name) = (part p m).rungs := by
    rw [List.filter_eq_self]
    intro r hr
    exact key _ (List.mem_filter.1 hr).2
  show (⟨_, _⟩ : Ld.Prg) = _
  rw [e1, e2]
end Sl
end
section
namespace Ld
def lit1 : Ex := ⟨1, [], []⟩
def lit5 : Prg := ⟨[⟨[97], 1, 0⟩, ⟨[109], 2, 0⟩, ⟨[110], 2, 0⟩], [⟨1, [109], some litA⟩, ⟨1, [110], some lit1⟩]⟩
theorem lit1_text : lit1.text = [49] := by simp [lit1, Ex.text]
theorem lit1_parse : Ex.parse [49] = .inr lit1 := by kernel_rfl
theorem lit1_named : lit1.named true = [] := by simp [lit1, Ex.named]
theorem lit5_num0 : number lit5.names [97] = 0 := by kernel_rfl
theorem lit5_num1 : number lit5.names [109] = 1 := by kernel_rfl
theorem lit5_num2 : number lit5.names [110] = 2 := by kernel_rfl
theorem lit5_check : check lit5 = none := by
  have h0 := lit5_num0
  have h1 := lit5_num1
  have h2 := lit5_num2
  have n1 : Nm.name [97] = true := by kernel_rfl
  have n2 : Nm.name [109] = true := by kernel_rfl
  have n3 : Nm.name [110] = true := by kernel_rfl
  have a0 : nameAt lit5.names 0 = 0 := by rw [nameAt_at _ _ (by decide)]; show wrongN lit5.names 0 ⟨[97], 1, 0⟩ = 0; simp [wrongN, n1, h0, mayCount, counted]
  have a1 : nameAt lit5.names 1 = 0 := by rw [nameAt_at _ _ (by decide)]; show wrongN lit5.names 1 ⟨[109], 2, 0⟩ = 0; simp [wrongN, n2, h1, mayCount, counted]
  have a2 : nameAt lit5.names 2 = 0 := by rw [nameAt_at _ _ (by decide)]; show wrongN lit5.names 2 ⟨[110], 2, 0⟩ = 0; simp [wrongN, n3, h2, mayCount, counted]
  have hk : known lit5.names litA = true := by simp [known, litA_named, h0]
  have hk1 : known lit5.names lit1 = true := by simp [known, lit1_named]
  have hka : kindAt lit5.names 1 = 2 := rfl
  have hkb : kindAt lit5.names 2 = 2 := rfl
  have b0 : rungAt lit5 0 = 0 := by rw [rungAt_at _ _ (by decide)]; show wrongR lit5.names ⟨1, [109], some litA⟩ = 0; simp [wrongR, h1, hka, kindOf, hk]
  have b1 : rungAt lit5 1 = 0 := by rw [rungAt_at _ _ (by decide)]; show wrongR lit5.names ⟨1, [110], some lit1⟩ = 0; simp [wrongR, h2, hkb, kindOf, hk1]
  have hb : bad (nameAt lit5.names) 3 = none := by simp [bad, a0, a1, a2]
  have hc : bad (rungAt lit5) 2 = none := by simp [bad, b0, b1]
  have e1 : lit5.names.length = 3 := rfl
  have e2 : lit5.rungs.length = 2 := rfl
  simp [check, e1, e2, hb, hc]
theorem lit5_text : text lit5 = [105, 110, 112, 117, 116, 32, 97, 10, 99, 111, 105, 108, 32, 109, 10, 99, 111, 105, 108, 32, 110, 10, 109, 32, 61, 32, 97, 10, 110, 32, 61, 32, 49, 10] := by
  rw [text, if_pos lit5_check]
  simp [lit5, linesT, nameT, rungT, headT, condT, litA_text, lit1_text, counted, nameW, ended]
theorem lit5_parse : parse [105, 110, 112, 117, 116, 32, 97, 10, 99, 111, 105, 108, 32, 109, 10, 99, 111, 105, 108, 32, 110, 10, 109, 32, 61, 32, 97, 10, 110, 32, 61, 32, 49, 10] = .inr lit5 := by
  have h := parse_text lit5 lit5_check (fun r hr x hx => ?_) (by rw [lit5_text]; decide) (fun r hr => ?_)
  · rw [lit5_text] at h; exact h
  · simp only [lit5, List.mem_cons, List.not_mem_nil, or_false] at hr
    rcases hr with rfl | rfl
    · cases hx
      exact ⟨_, litA_parse⟩
    · cases hx
      exact ⟨_, lit1_parse⟩
  · simp only [lit5, List.mem_cons, List.not_mem_nil, or_false] at hr
    rcases hr with rfl | rfl
    · show litA.text.length ≤ _
      rw [litA_text]; decide
    · show lit1.text.length ≤ _
      rw [lit1_text]; decide
end Ld
namespace Sl
theorem lit5_rch : ∀ (k : Nat) (s : List UInt8), rch Ld.lit5 [[109]] k s → s = [109] ∨ s = [97]
  | 0, s, h => .inl (by simpa [rch] using h)
  | k + 1, s, h => by
    rcases h with h | ⟨r, hr, h1, h2⟩
    · exact lit5_rch k s h
    · simp only [Ld.lit5, List.mem_cons, List.not_mem_nil, or_false] at hr
      rcases hr with rfl | rfl
      · right
        simpa [namesR, Ld.litA_named] using h2
      · rcases lit5_rch k _ h1 with h3 | h3
        · cases h3
        · cases h3
theorem lit5_part (m : List Bool) (h : Needed Ld.lit5 [[109]] m) : (part Ld.lit5 m).names.length = 2 ∧ (part Ld.lit5 m).rungs.length = 1 := by
  have t1 : Sc.told Ld.lit5.names m [109] = true := (h.iff_ _).2 (.base (by simp))
  have t2 : Sc.told Ld.lit5.names m [110] = false := by
    cases ht : Sc.told Ld.lit5.names m [110] with
    | false => rfl
    | true =>
      obtain ⟨k, hk⟩ := (h.iff_ _).1 ht
      rcases lit5_rch k _ hk with h3 | h3
      · cases h3
      · cases h3
  have e1 : (part Ld.lit5 m).names = [⟨[97], 1, 0⟩, ⟨[109], 2, 0⟩] := by
    have e : (part Ld.lit5 m).names = Ld.lit5.names.filter fun n => Sc.told Ld.lit5.names m n.name || n.kind == 1 := rfl
    rw [e, show Ld.lit5.names.filter (fun n => Sc.told Ld.lit5.names m n.name || n.kind == 1) = [(⟨[97], 1, 0⟩ : Ld.Nme), ⟨[109], 2, 0⟩, ⟨[110], 2, 0⟩].filter (fun n => Sc.told Ld.lit5.names m n.name || n.kind == 1) from rfl]
    simp [t1, t2]
  have e2 : (part Ld.lit5 m).rungs = [⟨1, [109], some Ld.litA⟩] := by
    have e : (part Ld.lit5 m).rungs = Ld.lit5.rungs.filter fun r => Sc.told Ld.lit5.names m r.name := rfl
    rw [e, show Ld.lit5.rungs.filter (fun r => Sc.told Ld.lit5.names m r.name) = [(⟨1, [109], some Ld.litA⟩ : Ld.Rng), ⟨1, [110], some Ld.lit1⟩].filter (fun r => Sc.told Ld.lit5.names m r.name) from rfl]
    simp [t1, t2]
  rw [e1, e2]
  exact ⟨rfl, rfl⟩
end Sl
end
section
namespace Sl
/-- marks have grown by what F hangs on; what is new has all that it names -/
structure Grown (p : Ld.Prg) (F : List (List UInt8)) (m m' : List Bool) : Prop where
  len : m'.length = m.length
  up : ∀ s, Sc.told p.names m s = true → Sc.told p.names m' s = true
  new : ∀ s, Sc.told p.names m' s = true → Sc.told p.names m s = true ∨ (Rch p F s ∧ ∀ r, r ∈ p.rungs → r.name = s → ∀ t, t ∈ namesR r → Sc.told p.names m' t = true)
theorem Grown.refl (p : Ld.Prg) (F : List (List UInt8)) (m : List Bool) : Grown p F m m := ⟨rfl, fun _ h => h, fun _ h => .inl h⟩
theorem Grown.trans {p : Ld.Prg} {F : List (List UInt8)} {a b c : List Bool} (h : Grown p F a b) (k : Grown p F b c) : Grown p F a c := by
  refine ⟨k.len.trans h.len, fun s hs => k.up s (h.up s hs), fun s hs => ?_⟩
  rcases k.new s hs with h1 | h1
  · rcases h.new s h1 with h2 | ⟨h2, h3⟩
    · exact .inl h2
    · exact .inr ⟨h2, fun r hr e t ht => k.up t (h3 r hr e t ht)⟩
  · exact .inr h1
theorem Grown.of {p : Ld.Prg} {F : List (List UInt8)} {s : List UInt8} {a b : List Bool} (h : Grown p [s] a b) (hs : Rch p F s) : Grown p F a b := by
  refine ⟨h.len, h.up, fun t ht => ?_⟩
  rcases h.new t ht with h1 | ⟨⟨k, hk⟩, h2⟩
  · exact .inl h1
  · exact .inr ⟨Rch.trans hs k t hk, h2⟩
/-- how many are not marked yet -/
def left (p : Ld.Prg) (m : List Bool) : Nat := p.names.countP fun n => !Sc.told p.names m n.name
theorem Grown.less {p : Ld.Prg} {F : List (List UInt8)} {a b : List Bool} (h : Grown p F a b) : left p b ≤ left p a := by
  refine List.countP_mono_left fun n _ hn => ?_
  cases ha : Sc.told p.names a n.name with
  | false => rfl
  | true => rw [h.up _ ha] at hn; cases hn
theorem countP_lt {α : Type} (f g : α → Bool) : ∀ (l : List α), (∀ x, x ∈ l → f x = true → g x = true) → (∃ x, x ∈ l ∧ f x = false ∧ g x = true) → l.countP f < l.countP g
  | [], _, h => by obtain ⟨x, hx, _⟩ := h; cases hx
  | a :: l, h1, ⟨x, hx, hf, hg⟩ => by
    have hle : l.countP f ≤ l.countP g := List.countP_mono_left fun y hy => h1 y (by simp [hy])
    rw [List.countP_cons, List.countP_cons]
    rcases List.mem_cons.1 hx with e | hx
    · subst e
      rw [hf, hg]
      simp
      omega
    · have ih := countP_lt f g l (fun y hy => h1 y (by simp [hy])) ⟨x, hx, hf, hg⟩
      have := h1 a (by simp)
      cases ha : f a with
      | false => simp; omega
      | true => rw [this ha]; simp; omega
theorem left_mark (p : Ld.Prg) (m : List Bool) (nm : List UInt8) (hk : 0 ≤ Ld.number p.names nm) (hl : m.length = p.names.length) (h : Sc.told p.names m nm = false) : left p (m.set (Ld.number p.names nm).toNat true) < left p m := by
  have e := Rf.told_set p.names m nm true hk hl
  refine countP_lt _ _ _ (fun n _ hn => ?_) ?_
  · rw [e] at hn
    unfold Rf.upd at hn
    by_cases e2 : n.name = nm
    · rw [if_pos e2] at hn; cases hn
    · rw [if_neg e2] at hn; exact hn
  · obtain ⟨n, hn, rfl⟩ := known_mem hk
    refine ⟨n, hn, ?_, by rw [h]; rfl⟩
    rw [e]
    unfold Rf.upd
    rw [if_pos rfl]
    rfl
/-- a name is marked, and then all that it hangs on -/
theorem mark_grown (p : Ld.Prg) (m m' : List Bool) (nm : List UInt8) (hk : 0 ≤ Ld.number p.names nm) (hl : m.length = p.names.length) (h : Grown p [nm] (m.set (Ld.number p.names nm).toNat true) m')
    (hall : ∀ r, r ∈ p.rungs → r.name = nm → ∀ t, t ∈ namesR r → Sc.told p.names m' t = true) : Grown p [nm] m m' ∧ Sc.told p.names m' nm = true := by
  have e := Rf.told_set p.names m nm true hk hl
  have hup : ∀ s, Sc.told p.names m s = true → Sc.told p.names (m.set (Ld.number p.names nm).toNat true) s = true := fun s hs => by
    rw [e]
    unfold Rf.upd
    by_cases e2 : s = nm
    · rw [if_pos e2]
    · rw [if_neg e2]; exact hs
  refine ⟨⟨h.len.trans (List.length_set ..), fun s hs => h.up s (hup s hs), fun s hs => ?_⟩, h.up nm (by rw [e]; unfold Rf.upd; rw [if_pos rfl])⟩
  by_cases e2 : s = nm
  · subst e2
    exact .inr ⟨.base (by simp), hall⟩
  · rcases h.new s hs with h1 | h1
    · rw [e] at h1
      unfold Rf.upd at h1
      rw [if_neg e2] at h1
      exact .inl h1
    · exact .inr h1
/-- all is marked -/
theorem needed_of (p : Ld.Prg) (names : List (List UInt8)) (n : Nat) (m : List Bool) (hn : n = p.names.length) (h : Grown p names (List.replicate n false) m) (hall : ∀ s, s ∈ names → Sc.told p.names m s = true) : Needed p names m := by
  have h0 : ∀ s, Sc.told p.names (List.replicate n false) s = false := fun s => by
    have : ∀ k, (List.replicate n false).getD k false = false := fun k => by
      rw [List.getD_eq_getElem?_getD, List.getElem?_replicate]
      split <;> rfl
    unfold Sc.told
    rw [this, Bool.and_false]
  have hnew : ∀ s, Sc.told p.names m s = true → Rch p names s ∧ ∀ r, r ∈ p.rungs → r.name = s → ∀ t, t ∈ namesR r → Sc.told p.names m t = true := fun s hs => by
    rcases h.new s hs with h1 | h1
    · rw [h0] at h1; cases h1
    · exact h1
  refine ⟨by rw [h.len]; simp [hn], fun s => ⟨fun hs => (hnew s hs).1, fun ⟨k, hk⟩ => ?_⟩⟩
  have key : ∀ (k : Nat) (s : List UInt8), rch p names k s → Sc.told p.names m s = true := by
    intro k
    induction k with
    | zero => intro s hs; exact hall s hs
    | succ k ih =>
      intro s hs
      rcases hs with hs | ⟨r, hr, h1, h2⟩
      · exact ih s hs
      · exact (hnew r.name (ih r.name h1)).2 r hr rfl s h2
  exact key k s hk
end Sl
end
end Go.Proofs.YtgoabhclnicepaaGreatDoor
