/-
  Plain mathematics of chapter 12: on what names hang; a program cut down to that says the same of them, scan by scan; and cut once more is itself. Nothing of the program is named here. Plain mathematics of chapter 12: marks that grow, name by name, until all that some names hang on is marked. Nothing of the program is named here. Rows of bools; all that is old stands, but for two rows. (Out of ScRung and ScStart: for seats without package scan.) The walks of package slice's eachNamed and of the closure that adds a name, and all on which it hangs: marks in a row.
-/
import Derived.Test.YtjfgfcajmkbmeaaGreatDoorRfMathAll
import Derived.Test.YtjfgfcajmkbmeaaGreatDoorRtMathAll
import Derived.Test.YtjfgfcajmkbmeaaGreatDoorLdRepAll
import Derived.Test.YtjfgfcajmkbmeaaGreatDoorLdCheckAll
import Derived.Test.YtjfgfcajmkbmeaaGreatDoorNaEachAll
namespace Go.Proofs.YtjfgfcajmkbmeaaGreatDoor
section
namespace Sl
/-- what a rung names -/
def namesR (r : Ld.Rng) : List (List UInt8) := match r.cond with | some x => x.named true | none => []
/-- on what some names hang, k rungs on -/
def rch (p : Ld.Prg) (names : List (List UInt8)) : Nat → List UInt8 → Prop
  | 0, s => s ∈ names
  | k + 1, s => rch p names k s ∨ ∃ r, r ∈ p.rungs ∧ rch p names k r.name ∧ s ∈ namesR r
def Rch (p : Ld.Prg) (names : List (List UInt8)) (s : List UInt8) : Prop := ∃ k, rch p names k s
theorem Rch.base {p : Ld.Prg} {names : List (List UInt8)} {s : List UInt8} (h : s ∈ names) : Rch p names s := ⟨0, h⟩
theorem Rch.step {p : Ld.Prg} {names : List (List UInt8)} {s : List UInt8} {r : Ld.Rng} (hr : r ∈ p.rungs) (h : Rch p names r.name) (hs : s ∈ namesR r) : Rch p names s := by
  obtain ⟨k, hk⟩ := h
  exact ⟨k + 1, .inr ⟨r, hr, hk, hs⟩⟩
theorem Rch.mono {p q : Ld.Prg} {names : List (List UInt8)} (h : ∀ r, r ∈ p.rungs → Rch p names r.name → r ∈ q.rungs) : ∀ (k : Nat) (s : List UInt8), rch p names k s → Rch q names s
  | 0, _, hs => .base hs
  | k + 1, s, hs => by
    rcases hs with hs | ⟨r, hr, h1, h2⟩
    · exact Rch.mono h k s hs
    · exact .step (h r hr ⟨k, h1⟩) (Rch.mono h k r.name h1) h2
/-- from one name on -/
theorem Rch.trans {p : Ld.Prg} {names : List (List UInt8)} {a : List UInt8} (ha : Rch p names a) : ∀ (k : Nat) (s : List UInt8), rch p [a] k s → Rch p names s
  | 0, s, hs => by
    have : s = a := by simpa [rch] using hs
    rw [this]
    exact ha
  | k + 1, s, hs => by
    rcases hs with hs | ⟨r, hr, h1, h2⟩
    · exact Rch.trans ha k s hs
    · exact .step hr (Rch.trans ha k r.name h1) h2
/-- marks that tell of each name whether some hang on it -/
structure Needed (p : Ld.Prg) (names : List (List UInt8)) (m : List Bool) : Prop where
  len : m.length = p.names.length
  iff_ : ∀ s, Sc.told p.names m s = true ↔ Rch p names s
/-- the program with that alone -/
def part (p : Ld.Prg) (m : List Bool) : Ld.Prg := ⟨p.names.filter fun n => Sc.told p.names m n.name || n.kind == 1, p.rungs.filter fun r => Sc.told p.names m r.name⟩
theorem told_known {ns : List Ld.Nme} {m : List Bool} {s : List UInt8} (h : Sc.told ns m s = true) : 0 ≤ Ld.number ns s := by
  unfold Sc.told at h
  simp at h
  exact h.1
theorem known_mem {ns : List Ld.Nme} {s : List UInt8} (h : 0 ≤ Ld.number ns s) : ∃ n, n ∈ ns ∧ n.name = s := by
  rcases Ld.number_cases ns s with ⟨h1, _⟩ | ⟨k, hk, _, h2, _⟩
  · omega
  · exact ⟨_, List.getElem_mem hk, h2⟩
theorem mem_known {ns : List Ld.Nme} {n : Ld.Nme} (h : n ∈ ns) : 0 ≤ Ld.number ns n.name := by
  rcases Ld.number_cases ns n.name with ⟨_, h1⟩ | ⟨k, hk, h1, _⟩
  · exact absurd rfl (h1 n h)
  · omega
/-- no two names are alike -/
def One (ns : List Ld.Nme) : Prop := ∀ a, a ∈ ns → ∀ b, b ∈ ns → a.name = b.name → a = b
/-- the name of a number -/
theorem number_mem {ns : List Ld.Nme} (ho : One ns) {n : Ld.Nme} (h : n ∈ ns) : ∃ (k : Nat) (hk : k < ns.length), Ld.number ns n.name = (k : Int) ∧ ns[k] = n := by
  rcases Ld.number_cases ns n.name with ⟨_, h1⟩ | ⟨k, hk, h1, h2, _⟩
  · exact absurd rfl (h1 n h)
  · exact ⟨k, hk, h1, ho _ (List.getElem_mem hk) _ h h2⟩
theorem names_nodup (p : Ld.Prg) (h : Ld.check p = none) : (p.names.map fun n => n.name).Nodup := by
  rw [List.Nodup, List.pairwise_iff_getElem]
  intro i j hi hj hij e
  rw [List.length_map] at hi hj
  rw [List.getElem_map, List.getElem_map] at e
  have h1 := Rf.number_self p h i (by omega)
  have h2 := Rf.number_self p h j hj
  rw [e, h2] at h1
  omega
theorem names_one (p : Ld.Prg) (h : Ld.check p = none) : One p.names := by
  intro a ha b hb e
  obtain ⟨i, hi, rfl⟩ := List.getElem_of_mem ha
  obtain ⟨j, hj, rfl⟩ := List.getElem_of_mem hb
  have h1 := Rf.number_self p h i hi
  have h2 := Rf.number_self p h j hj
  rw [e, h2] at h1
  have : j = i := by omega
  subst this
  rfl
theorem nodup_number (ns : List Ld.Nme) (h : (ns.map fun n => n.name).Nodup) (i : Nat) (hi : i < ns.length) : ¬ Ld.number ns ns[i].name < (i : Int) := by
  intro hlt
  rcases Ld.number_cases ns ns[i].name with ⟨_, h1⟩ | ⟨k, hk, h1, h2, _⟩
  · exact absurd rfl (h1 _ (List.getElem_mem hi))
  · rw [h1] at hlt
    have hne := (List.pairwise_iff_getElem.1 h) k i (by simpa using hk) (by simpa using hi) (by omega)
    rw [List.getElem_map, List.getElem_map] at hne
    exact hne h2
theorem part_sub (p : Ld.Prg) (m : List Bool) : ∀ n, n ∈ (part p m).names → n ∈ p.names := fun _ h => (List.mem_filter.1 h).1
theorem part_one (p : Ld.Prg) (h : Ld.check p = none) (m : List Bool) : One (part p m).names := fun a ha b hb e => names_one p h a (part_sub p m a ha) b (part_sub p m b hb) e
/-- a name that stays is the same there -/
theorem part_at (p : Ld.Prg) (h : Ld.check p = none) (m : List Bool) (s : List UInt8) (hs : Sc.told p.names m s = true) :
    ∃ (i : Nat) (hi : i < p.names.length) (j : Nat) (hj : j < (part p m).names.length), Ld.number p.names s = (i : Int) ∧ Ld.number (part p m).names s = (j : Int) ∧ p.names[i] = (part p m).names[j] := by
  obtain ⟨n, hn, rfl⟩ := known_mem (told_known hs)
  have hq : n ∈ (part p m).names := List.mem_filter.2 ⟨hn, by rw [hs]; rfl⟩
  obtain ⟨i, hi, h1, h2⟩ := number_mem (names_one p h) hn
  obtain ⟨j, hj, h3, h4⟩ := number_mem (part_one p h m) hq
  exact ⟨i, hi, j, hj, h1, h3, h2.trans h4.symm⟩
theorem check_part (p : Ld.Prg) (h : Ld.check p = none) (names : List (List UInt8)) (m : List Bool) (hm : Needed p names m) : Ld.check (part p m) = none := by
  obtain ⟨⟨h1, h2⟩, h3, h4⟩ := (check_parts p).1 h
  have hnm := (Ld.check_names p h).2.2.1
  refine (check_parts (part p m)).2 ⟨⟨Nat.le_trans (List.length_filter_le _ _) h1, Nat.le_trans (List.length_filter_le _ _) h2⟩, bad_of_zero _ _ fun i hi => ?_, fun r hr => ?_⟩
  · rw [Ld.nameAt_at _ _ hi]
    have hmem := part_sub p m _ (List.getElem_mem hi)
    obtain ⟨g1, g2, g3, g4⟩ := hnm _ hmem
    have hnd : ((part p m).names.map fun n => n.name).Nodup := ((List.filter_sublist).map _).nodup (names_nodup p h)
    unfold Ld.wrongN
    rw [if_neg (by rw [g1]; decide), if_neg (by omega), if_neg (by rw [g4]; decide), if_neg (nodup_number _ hnd i hi)]
  · obtain ⟨hr1, hr2⟩ := List.mem_filter.1 hr
    obtain ⟨g1, g2, g3, g4, x, g5, g6⟩ := Ld.check_rungs p h r hr1
    obtain ⟨i, hi, j, hj, e1, e2, e3⟩ := part_at p h m r.name hr2
    unfold Ld.wrongR
    rw [if_neg (by omega), g5]
    simp only
    rw [if_neg (by omega)]
    have hk : Ld.kindAt (part p m).names (Ld.number (part p m).names r.name) = Ld.kindOf r.kind := by
      rw [← g4, e1, e2]
      unfold Ld.kindAt
      rw [Int.toNat_natCast, Int.toNat_natCast, List.getElem?_eq_getElem hi, List.getElem?_eq_getElem hj, e3]
    rw [if_neg (fun hn => hn hk), if_pos]
    unfold Ld.known
    rw [List.all_eq_true]
    intro s hs
    have hsR : Rch p names s := .step hr1 ((hm.iff_ _).1 hr2) (by unfold namesR; rw [g5]; exact hs)
    obtain ⟨_, _, _, _, _, e4, _⟩ := part_at p h m s ((hm.iff_ _).2 hsR)
    rw [e4]
    exact decide_eq_true (by omega)
theorem places_filter (f : Ld.Nme → Bool) (ns : List Ld.Nme) : (Ld.placesTo f ns ns.length).filterMap (fun i => ns[i]?) = ns.filter f := by
  have key : ∀ k, k ≤ ns.length → (Ld.placesTo f ns k).filterMap (fun i => ns[i]?) = (ns.take k).filter f := by
    intro k
    induction k with
    | zero => intro _; rfl
    | succ k ih =>
      intro hk
      have hk2 : k < ns.length := by omega
      rw [Ld.placesTo_succ f ns k hk2, List.filterMap_append, ih (by omega), List.take_succ_eq_append_getElem hk2, List.filter_append]
      congr 1
      cases hf : f ns[k] with
      | true => simp [hk2, hf]
      | false => simp [hf]
  rw [key ns.length (Nat.le_refl _), List.take_length]
/-- inputs are read by name -/
def readsN (l : List (List UInt8)) (inp : List Bool) (f : List UInt8 → Bool) : List UInt8 → Bool := (l.zip inp).foldl (fun acc p => Rf.upd acc p.1 p.2) f
theorem reads_names (ns : List Ld.Nme) : ∀ (l : List Nat) (inp : List Bool) (f : List UInt8 → Bool), (∀ i, i ∈ l → i < ns.length) → Rf.reads ns l inp f = readsN ((l.filterMap fun i => ns[i]?).map fun n => n.name) inp f
  | [], _, _, _ => rfl
  | i :: l, [], _, _ => by
    unfold Rf.reads readsN
    simp
  | i :: l, b :: inp, f, h => by
    have hi := h i (by simp)
    have ih := reads_names ns l inp (Rf.upd f (ns.getD i ⟨[], 0, 0⟩).name b) (fun j hj => h j (by simp [hj]))
    have e1 : (ns.getD i ⟨[], 0, 0⟩).name = ns[i].name := by simp [hi]
    have e2 : (i :: l).filterMap (fun i => ns[i]?) = ns[i] :: l.filterMap (fun i => ns[i]?) := by simp [hi]
    rw [e2]
    unfold Rf.reads readsN at ih ⊢
    simp only [List.zip_cons_cons, List.foldl_cons, List.map_cons]
    rw [ih, e1]
theorem readsN_agree : ∀ (l : List (List UInt8)) (inp : List Bool) (f g : List UInt8 → Bool) (s : List UInt8), f s = g s → readsN l inp f s = readsN l inp g s
  | [], _, _, _, _, h => h
  | _ :: _, [], _, _, _, h => h
  | a :: l, b :: inp, f, g, s, h => by
    have e : ∀ f, readsN (a :: l) (b :: inp) f = readsN l inp (Rf.upd f a b) := fun _ => rfl
    rw [e, e]
    refine readsN_agree l inp _ _ s ?_
    unfold Rf.upd
    by_cases ea : s = a
    · rw [if_pos ea, if_pos ea]
    · rw [if_neg ea, if_neg ea, h]
theorem kindL_names (ns : List Ld.Nme) (k : Int) : (Ld.kindL ns k).filterMap (fun i => ns[i]?) = ns.filter fun n => n.kind == k := places_filter (fun n => n.kind == k) ns
theorem part_inputs (p : Ld.Prg) (m : List Bool) : ((part p m).names.filter fun n => n.kind == 1) = p.names.filter fun n => n.kind == 1 := by
  unfold part
  rw [List.filter_filter]
  refine List.filter_congr fun n _ => ?_
  cases h : n.kind == 1 with
  | true => simp
  | false => simp
theorem filterMap_len {α : Type} (l : List α) : ∀ (is : List Nat), (∀ i, i ∈ is → i < l.length) → (is.filterMap fun i => l[i]?).length = is.length
  | [], _ => rfl
  | i :: is, h => by
    have hi := h i (by simp)
    have ih := filterMap_len l is (fun j hj => h j (by simp [hj]))
    have e2 : (i :: is).filterMap (fun i => l[i]?) = l[i] :: is.filterMap (fun i => l[i]?) := by simp [hi]
    rw [e2, List.length_cons, List.length_cons, ih]
theorem kindL_len (ns : List Ld.Nme) (k : Int) : (Ld.kindL ns k).length = (ns.filter fun n => n.kind == k).length := by
  rw [← kindL_names ns k, filterMap_len ns _ (fun i hi => (Ld.kindL_at _ _ _ hi).1)]
theorem part_kinds (p : Ld.Prg) (m : List Bool) : (Ld.kindL (part p m).names 1).length = (Ld.kindL p.names 1).length := by
  rw [kindL_len, kindL_len, part_inputs]
/-- two states say the same of what is marked -/
def Agree (p : Ld.Prg) (m : List Bool) (f g : Rf.St) : Prop := ∀ s, Sc.told p.names m s = true → f.is s = g.is s ∧ f.ct s = g.ct s
theorem agree_rung_off (p : Ld.Prg) (m : List Bool) (ns : List Ld.Nme) (was : List UInt8 → Bool) (f g : Rf.St) (h : Agree p m f g) (r : Ld.Rng) (hr : Sc.told p.names m r.name = false) : Agree p m (Rf.rung ns was f r) g := by
  intro s hs
  have hne : s ≠ r.name := fun e => by rw [e, hr] at hs; cases hs
  have hu : ∀ {β : Type} (f : List UInt8 → β) (v : β), Rf.upd f r.name v s = f s := fun f v => by unfold Rf.upd; rw [if_neg hne]
  obtain ⟨h1, h2⟩ := h s hs
  unfold Rf.rung
  cases r.cond with
  | none => exact ⟨h1, h2⟩
  | some x =>
    simp only
    repeat' split
    all_goals first | exact ⟨h1, h2⟩ | (simp only [hu]; exact ⟨h1, h2⟩)
theorem agree_rung (p : Ld.Prg) (h : Ld.check p = none) (names : List (List UInt8)) (m : List Bool) (hm : Needed p names m) (wp wq : List UInt8 → Bool) (hw : ∀ s, Sc.told p.names m s = true → wp s = wq s) (f g : Rf.St) (ha : Agree p m f g) (r : Ld.Rng) (hr : r ∈ p.rungs) (ht : Sc.told p.names m r.name = true) :
    Agree p m (Rf.rung p.names wp f r) (Rf.rung (part p m).names wq g r) := by
  obtain ⟨g1, g2, g3, g4, x, g5, g6⟩ := Ld.check_rungs p h r hr
  have hin : ∀ s, s ∈ x.named true → Sc.told p.names m s = true := fun s hs => (hm.iff_ s).2 (.step hr ((hm.iff_ _).1 ht) (by unfold namesR; rw [g5]; exact hs))
  have hev : x.eval f.is wp = x.eval g.is wq := Ex.eval_congr _ _ _ _ x (fun s hs => (ha s (hin s hs)).1) (fun s hs => hw s (hin s (Ex.edges_names x s hs)))
  have htop : Rf.top (part p m).names r.name = Rf.top p.names r.name := by
    obtain ⟨i, hi, j, hj, e1, e2, e3⟩ := part_at p h m r.name ht
    unfold Rf.top
    rw [e1, e2, Int.toNat_natCast, Int.toNat_natCast]
    simp [hi, hj, e3]
  have hct := (ha r.name ht).2
  have hup : ∀ {β : Type} (f g : List UInt8 → β) (s : List UInt8) (v : β), f s = g s → Rf.upd f r.name v s = Rf.upd g r.name v s := fun f g s v e => by
    unfold Rf.upd
    by_cases e2 : s = r.name
    · rw [if_pos e2, if_pos e2]
    · rw [if_neg e2, if_neg e2, e]
  intro s hs
  obtain ⟨h1, h2⟩ := ha s hs
  unfold Rf.rung
  rw [g5]
  simp only
  rw [hev, htop, hct]
  by_cases k1 : r.kind = 1
  · simp only [k1, if_true]; exact ⟨hup _ _ _ _ h1, h2⟩
  simp only [k1, if_false]
  by_cases k2 : r.kind = 2
  · simp only [k2, if_true]
    split
    · exact ⟨hup _ _ _ _ h1, h2⟩
    · exact ⟨h1, h2⟩
  simp only [k2, if_false]
  by_cases k3 : r.kind = 3
  · simp only [k3, if_true]
    split
    · exact ⟨hup _ _ _ _ h1, h2⟩
    · exact ⟨h1, h2⟩
  simp only [k3, if_false]
  by_cases k4 : r.kind = 4 ∨ r.kind = 5
  · simp only [k4, if_true]; exact ⟨hup _ _ _ _ h1, hup _ _ _ _ h2⟩
  simp only [k4, if_false]
  by_cases k6 : r.kind = 6
  · simp only [k6, if_true]
    split
    · exact ⟨hup _ _ _ _ h1, hup _ _ _ _ h2⟩
    · exact ⟨h1, h2⟩
  · omega
theorem agree_fold (p : Ld.Prg) (h : Ld.check p = none) (names : List (List UInt8)) (m : List Bool) (hm : Needed p names m) (wp wq : List UInt8 → Bool) (hw : ∀ s, Sc.told p.names m s = true → wp s = wq s) : ∀ (rs : List Ld.Rng), (∀ r, r ∈ rs → r ∈ p.rungs) → ∀ f g, Agree p m f g →
    Agree p m (rs.foldl (Rf.rung p.names wp) f) ((rs.filter fun r => Sc.told p.names m r.name).foldl (Rf.rung (part p m).names wq) g)
  | [], _, _, _, ha => ha
  | r :: rs, hrs, f, g, ha => by
    rw [List.foldl_cons]
    cases ht : Sc.told p.names m r.name with
    | true =>
      rw [List.filter_cons_of_pos (by simp [ht]), List.foldl_cons]
      exact agree_fold p h names m hm wp wq hw rs (fun r hr => hrs r (by simp [hr])) _ _ (agree_rung p h names m hm wp wq hw f g ha r (hrs r (by simp)) ht)
    | false =>
      rw [List.filter_cons_of_neg (by simp [ht])]
      exact agree_fold p h names m hm wp wq hw rs (fun r hr => hrs r (by simp [hr])) _ _ (agree_rung_off p m p.names wp f g ha r ht)
/-- a scan of what was cut says the same of what is marked -/
theorem agree_step (p : Ld.Prg) (h : Ld.check p = none) (names : List (List UInt8)) (m : List Bool) (hm : Needed p names m) (f g : Rf.St) (ha : Agree p m f g) (inp : List Bool) : Agree p m (Rf.step p f inp) (Rf.step (part p m) g inp) := by
  refine agree_fold p h names m hm f.is g.is (fun s hs => (ha s hs).1) p.rungs (fun _ hr => hr) _ _ fun s hs => ⟨?_, (ha s hs).2⟩
  simp only
  rw [reads_names p.names _ _ _ (fun i hi => (Ld.kindL_at _ _ _ hi).1), reads_names (part p m).names _ _ _ (fun i hi => (Ld.kindL_at _ _ _ hi).1), kindL_names, kindL_names, part_inputs]
  exact readsN_agree _ _ _ _ s (ha s hs).1
theorem agree_after (p : Ld.Prg) (h : Ld.check p = none) (names : List (List UInt8)) (m : List Bool) (hm : Needed p names m) (ins : List (List Bool)) (hl : ∀ i, i ∈ ins → i.length = (Ld.kindL p.names 1).length) :
    Agree p m (Rf.of p.names (Sc.after p ins)) (Rf.of (part p m).names (Sc.after (part p m) ins)) := by
  have hq := check_part p h names m hm
  have key : ∀ (ins : List (List Bool)) (s t : Sc.St), Sc.Bd p s → Sc.Bd (part p m) t → Agree p m (Rf.of p.names s) (Rf.of (part p m).names t) → (∀ i, i ∈ ins → i.length = (Ld.kindL p.names 1).length) → Agree p m (Rf.of p.names (ins.foldl (Sc.step p) s)) (Rf.of (part p m).names (ins.foldl (Sc.step (part p m)) t)) := by
    intro ins
    induction ins with
    | nil => intro s t _ _ ha _; exact ha
    | cons a r ih =>
      intro s t hs ht ha hl
      rw [List.foldl_cons, List.foldl_cons]
      have hla := hl a (by simp)
      refine ih _ _ (Sc.step_bd p h s a hs hla).1 (Sc.step_bd (part p m) hq t a ht (by rw [part_kinds]; exact hla)).1 ?_ (fun i hi => hl i (by simp [hi]))
      rw [Rf.of_step p h s a hs, Rf.of_step (part p m) hq t a ht]
      exact agree_step p h names m hm _ _ ha a
  refine key ins _ _ (Sc.start_bd p h) (Sc.start_bd _ hq) ?_ hl
  rw [Rf.of_start, Rf.of_start]
  exact fun _ _ => ⟨rfl, rfl⟩
/-- A SLICE SAYS THE SAME -/
theorem part_says (p : Ld.Prg) (h : Ld.check p = none) (names : List (List UInt8)) (m : List Bool) (hm : Needed p names m) (ins : List (List Bool)) (hl : ∀ i, i ∈ ins → i.length = (Ld.kindL p.names 1).length) (s : List UInt8) (hs : s ∈ names) :
    0 ≤ Ld.number p.names s ∧ 0 ≤ Ld.number (part p m).names s ∧
    (Sc.after p ins).is.getD (Ld.number p.names s).toNat false = (Sc.after (part p m) ins).is.getD (Ld.number (part p m).names s).toNat false ∧
    (Sc.after p ins).ct.getD (Ld.number p.names s).toNat 0 = (Sc.after (part p m) ins).ct.getD (Ld.number (part p m).names s).toNat 0 := by
  have ht := (hm.iff_ s).2 (.base hs)
  obtain ⟨i, hi, j, hj, e1, e2, e3⟩ := part_at p h m s ht
  obtain ⟨h1, h2⟩ := agree_after p h names m hm ins hl s ht
  have k1 : 0 ≤ Ld.number p.names s := by omega
  have k2 : 0 ≤ Ld.number (part p m).names s := by omega
  refine ⟨k1, k2, ?_, ?_⟩
  · have := h1
    simp only [Rf.of] at this
    rwa [Rf.told_at _ _ _ k1, Rf.told_at _ _ _ k2] at this
  · have := h2
    simp only [Rf.of] at this
    rwa [Rf.toldC_at _ _ _ k1, Rf.toldC_at _ _ _ k2] at this
/-- what was cut, cut once more, is itself -/
theorem part_again (p : Ld.Prg) (names : List (List UInt8)) (m : List Bool) (hm : Needed p names m) (m' : List Bool) (hm' : Needed (part p m) names m') : part (part p m) m' = part p m := by
  have key : ∀ s, Sc.told p.names m s = true → Sc.told (part p m).names m' s = true := fun s hs => by
    obtain ⟨k, hk⟩ := (hm.iff_ s).1 hs
    refine (hm'.iff_ s).2 (Rch.mono (fun r hr h1 => ?_) k s hk)
    exact List.mem_filter.2 ⟨hr, (hm.iff_ _).2 h1⟩
  have e1 : ((part p m).names.filter fun n => Sc.told (part p m).names m' n.name || n.kind == 1) = (part p m).names := by
    rw [List.filter_eq_self]
    intro n hn
    obtain ⟨_, h2⟩ := List.mem_filter.1 hn
    rcases Bool.or_eq_true_iff.1 h2 with h3 | h3
    · rw [key _ h3]; rfl
    · rw [h3, Bool.or_true]
  have e2 : ((part p m).rungs.filter fun r => Sc.told (part p m).names m' r.name) = (part p m).rungs := by
    rw [List.filter_eq_self]
    intro r hr
    exact key _ (List.mem_filter.1 hr).2
  show (⟨_, _⟩ : Ld.Prg) = _
  rw [e1, e2]
end Sl
end
section
namespace Sl
/-- marks have grown by what F hangs on; what is new has all that it names -/
structure Grown (p : Ld.Prg) (F : List (List UInt8)) (m m' : List Bool) : Prop where
  len : m'.length = m.length
  up : ∀ s, Sc.told p.names m s = true → Sc.told p.names m' s = true
  new : ∀ s, Sc.told p.names m' s = true → Sc.told p.names m s = true ∨ (Rch p F s ∧ ∀ r, r ∈ p.rungs → r.name = s → ∀ t, t ∈ namesR r → Sc.told p.names m' t = true)
theorem Grown.refl (p : Ld.Prg) (F : List (List UInt8)) (m : List Bool) : Grown p F m m := ⟨rfl, fun _ h => h, fun _ h => .inl h⟩
theorem Grown.trans {p : Ld.Prg} {F : List (List UInt8)} {a b c : List Bool} (h : Grown p F a b) (k : Grown p F b c) : Grown p F a c := by
  refine ⟨k.len.trans h.len, fun s hs => k.up s (h.up s hs), fun s hs => ?_⟩
  rcases k.new s hs with h1 | h1
  · rcases h.new s h1 with h2 | ⟨h2, h3⟩
    · exact .inl h2
    · exact .inr ⟨h2, fun r hr e t ht => k.up t (h3 r hr e t ht)⟩
  · exact .inr h1
theorem Grown.of {p : Ld.Prg} {F : List (List UInt8)} {s : List UInt8} {a b : List Bool} (h : Grown p [s] a b) (hs : Rch p F s) : Grown p F a b := by
  refine ⟨h.len, h.up, fun t ht => ?_⟩
  rcases h.new t ht with h1 | ⟨⟨k, hk⟩, h2⟩
  · exact .inl h1
  · exact .inr ⟨Rch.trans hs k t hk, h2⟩
/-- how many are not marked yet -/
def left (p : Ld.Prg) (m : List Bool) : Nat := p.names.countP fun n => !Sc.told p.names m n.name
theorem Grown.less {p : Ld.Prg} {F : List (List UInt8)} {a b : List Bool} (h : Grown p F a b) : left p b ≤ left p a := by
  refine List.countP_mono_left fun n _ hn => ?_
  cases ha : Sc.told p.names a n.name with
  | false => rfl
  | true => rw [h.up _ ha] at hn; cases hn
theorem countP_lt {α : Type} (f g : α → Bool) : ∀ (l : List α), (∀ x, x ∈ l → f x = true → g x = true) → (∃ x, x ∈ l ∧ f x = false ∧ g x = true) → l.countP f < l.countP g
  | [], _, h => by obtain ⟨x, hx, _⟩ := h; cases hx
  | a :: l, h1, ⟨x, hx, hf, hg⟩ => by
    have hle : l.countP f ≤ l.countP g := List.countP_mono_left fun y hy => h1 y (by simp [hy])
    rw [List.countP_cons, List.countP_cons]
    rcases List.mem_cons.1 hx with e | hx
    · subst e
      rw [hf, hg]
      simp
      omega
    · have ih := countP_lt f g l (fun y hy => h1 y (by simp [hy])) ⟨x, hx, hf, hg⟩
      have := h1 a (by simp)
      cases ha : f a with
      | false => simp; omega
      | true => rw [this ha]; simp; omega
theorem left_mark (p : Ld.Prg) (m : List Bool) (nm : List UInt8) (hk : 0 ≤ Ld.number p.names nm) (hl : m.length = p.names.length) (h : Sc.told p.names m nm = false) : left p (m.set (Ld.number p.names nm).toNat true) < left p m := by
  have e := Rf.told_set p.names m nm true hk hl
  refine countP_lt _ _ _ (fun n _ hn => ?_) ?_
  · rw [e] at hn
    unfold Rf.upd at hn
    by_cases e2 : n.name = nm
    · rw [if_pos e2] at hn; cases hn
    · rw [if_neg e2] at hn; exact hn
  · obtain ⟨n, hn, rfl⟩ := known_mem hk
    refine ⟨n, hn, ?_, by rw [h]; rfl⟩
    rw [e]
    unfold Rf.upd
    rw [if_pos rfl]
    rfl
/-- a name is marked, and then all that it hangs on -/
theorem mark_grown (p : Ld.Prg) (m m' : List Bool) (nm : List UInt8) (hk : 0 ≤ Ld.number p.names nm) (hl : m.length = p.names.length) (h : Grown p [nm] (m.set (Ld.number p.names nm).toNat true) m')
    (hall : ∀ r, r ∈ p.rungs → r.name = nm → ∀ t, t ∈ namesR r → Sc.told p.names m' t = true) : Grown p [nm] m m' ∧ Sc.told p.names m' nm = true := by
  have e := Rf.told_set p.names m nm true hk hl
  have hup : ∀ s, Sc.told p.names m s = true → Sc.told p.names (m.set (Ld.number p.names nm).toNat true) s = true := fun s hs => by
    rw [e]
    unfold Rf.upd
    by_cases e2 : s = nm
    · rw [if_pos e2]
    · rw [if_neg e2]; exact hs
  refine ⟨⟨h.len.trans (List.length_set ..), fun s hs => h.up s (hup s hs), fun s hs => ?_⟩, h.up nm (by rw [e]; unfold Rf.upd; rw [if_pos rfl])⟩
  by_cases e2 : s = nm
  · subst e2
    exact .inr ⟨.base (by simp), hall⟩
  · rcases h.new s hs with h1 | h1
    · rw [e] at h1
      unfold Rf.upd at h1
      rw [if_neg e2] at h1
      exact .inl h1
    · exact .inr h1
/-- all is marked -/
theorem needed_of (p : Ld.Prg) (names : List (List UInt8)) (n : Nat) (m : List Bool) (hn : n = p.names.length) (h : Grown p names (List.replicate n false) m) (hall : ∀ s, s ∈ names → Sc.told p.names m s = true) : Needed p names m := by
  have h0 : ∀ s, Sc.told p.names (List.replicate n false) s = false := fun s => by
    have : ∀ k, (List.replicate n false).getD k false = false := fun k => by
      rw [List.getD_eq_getElem?_getD, List.getElem?_replicate]
      split <;> rfl
    unfold Sc.told
    rw [this, Bool.and_false]
  have hnew : ∀ s, Sc.told p.names m s = true → Rch p names s ∧ ∀ r, r ∈ p.rungs → r.name = s → ∀ t, t ∈ namesR r → Sc.told p.names m t = true := fun s hs => by
    rcases h.new s hs with h1 | h1
    · rw [h0] at h1; cases h1
    · exact h1
  refine ⟨by rw [h.len]; simp [hn], fun s => ⟨fun hs => (hnew s hs).1, fun ⟨k, hk⟩ => ?_⟩⟩
  have key : ∀ (k : Nat) (s : List UInt8), rch p names k s → Sc.told p.names m s = true := by
    intro k
    induction k with
    | zero => intro s hs; exact hall s hs
    | succ k ih =>
      intro s hs
      rcases hs with hs | ⟨r, hr, h1, h2⟩
      · exact ih s hs
      · exact (hnew r.name (ih r.name h1)).2 r hr rfl s h2
  exact key k s hk
end Sl
end
section
open Go.RowKit
def boolV (b : Bool) : Value := .bool b
def iV (k : Int) : Value := .int .i64 k
/-- all that is old stands, but for two rows -/
structure Two (gi gc : Nat) (w w' : World) : Prop where
  os : w'.os = w.os
  tape : w'.tape = w.tape
  output : w'.output = w.output
  size : w.heap.size ≤ w'.heap.size
  block : ∀ k, k < w.heap.size → k ≠ gi → k ≠ gc → w'.heap[k]? = w.heap[k]?
theorem Two.refl (gi gc : Nat) (w : World) : Two gi gc w w := ⟨rfl, rfl, rfl, Nat.le_refl _, fun _ _ _ _ => rfl⟩
theorem Two.trans {gi gc : Nat} {A B C : World} (h : Two gi gc A B) (k : Two gi gc B C) : Two gi gc A C :=
  ⟨k.os.trans h.os, k.tape.trans h.tape, k.output.trans h.output, Nat.le_trans h.size k.size, fun i h1 h2 h3 => (k.block i (Nat.lt_of_lt_of_le h1 h.size) h2 h3).trans (h.block i h1 h2 h3)⟩
theorem Two.below {gi gc : Nat} {w w' : World} (h : Below w.heap.size w w') : Two gi gc w w' := ⟨h.os, h.tape, h.output, h.size, fun k hk _ _ => h.block k hk⟩
theorem Two.setI {gi gc : Nat} (w : World) (i : Nat) (v : Value) : Two gi gc w (w.setCell ⟨gi, i, none⟩ v) := ⟨rfl, rfl, rfl, by simp [World.setCell], fun k _ h _ => Below.heap_setCell _ _ _ _ (fun e => h e)⟩
theorem Two.setC {gi gc : Nat} (w : World) (i : Nat) (v : Value) : Two gi gc w (w.setCell ⟨gc, i, none⟩ v) := ⟨rfl, rfl, rfl, by simp [World.setCell], fun k _ _ h => Below.heap_setCell _ _ _ _ (fun e => h e)⟩
theorem upto12 {P : Nat → Prop} (h0 : P 0) (h1 : P 1) (h2 : P 2) (h3 : P 3) (h4 : P 4) (h5 : P 5) (h6 : P 6) (h7 : P 7) (h8 : P 8) (h9 : P 9) (h10 : P 10) (h11 : P 11) (h12 : P 12) (n : Nat) (hn : n ≤ 12) : P n := by
  rcases (show n = 0 ∨ n = 1 ∨ n = 2 ∨ n = 3 ∨ n = 4 ∨ n = 5 ∨ n = 6 ∨ n = 7 ∨ n = 8 ∨ n = 9 ∨ n = 10 ∨ n = 11 ∨ n = 12 by omega) with rfl | rfl | rfl | rfl | rfl | rfl | rfl | rfl | rfl | rfl | rfl | rfl | rfl <;> assumption
theorem makeB (w : World) : ∀ n : Nat, n ≤ 12 → (Instr.makeSlice 59 (.int .i64 (n : Int)) (.int .i64 (n : Int))).run Tryz.prog w = .ok (.slice (some ⟨w.heap.size, 0, none⟩) n n) (w.alloc (.cells ⟨(List.replicate n false).map boolV⟩ 4)) := by
  apply upto12 <;> kernel_rfl
end
section
open Go.RowKit
namespace Sl
/-- the closure that adds a name -/
def addV (B b2 b3 : Nat) : Value := .func (.func 44) #[] #[.pointer (some ⟨B, 0, none⟩), .pointer (some ⟨b2, 0, none⟩), .pointer (some ⟨b3, 0, none⟩)]
/-- what stands while names are added -/
structure Env (w0 : World) (B b2 b3 gm n : Nat) (nv rv : Value) (m : List Bool) (w : World) : Prop where
  low : Below w0.heap.size w0 w
  hp : w.heap[B]? = some (.cells #[nv, rv] 26 (0, 0))
  hn : w.heap[b2]? = some (.cells #[.slice (some ⟨gm, 0, none⟩) n n] 59 (0, 0))
  ha : w.heap[b3]? = some (.cells #[addV B b2 b3] 106 (0, 0))
  hm : w.heap[gm]? = some (.cells ⟨m.map boolV⟩ 4 (0, 0))
  hg : w0.heap.size ≤ gm
  len : m.length = n
theorem Env.lt {w0 : World} {B b2 b3 gm n : Nat} {nv rv : Value} {m : List Bool} {w : World} (h : Env w0 B b2 b3 gm n nv rv m w) : B < w.heap.size ∧ b2 < w.heap.size ∧ b3 < w.heap.size ∧ gm < w.heap.size :=
  ⟨(Array.getElem?_eq_some_iff.1 h.hp).1, (Array.getElem?_eq_some_iff.1 h.hn).1, (Array.getElem?_eq_some_iff.1 h.ha).1, (Array.getElem?_eq_some_iff.1 h.hm).1⟩
theorem Env.below {w0 : World} {B b2 b3 gm n : Nat} {nv rv : Value} {m : List Bool} {w w' : World} (h : Env w0 B b2 b3 gm n nv rv m w) (hb : Below w.heap.size w w') : Env w0 B b2 b3 gm n nv rv m w' := by
  obtain ⟨l1, l2, l3, l4⟩ := h.lt
  exact ⟨h.low.trans (hb.mono h.low.size), (hb.block _ l1).trans h.hp, (hb.block _ l2).trans h.hn, (hb.block _ l3).trans h.ha, (hb.block _ l4).trans h.hm, h.hg, h.len⟩
theorem Env.ne {w0 : World} {B b2 b3 gm n : Nat} {nv rv : Value} {m : List Bool} {w : World} (h : Env w0 B b2 b3 gm n nv rv m w) : B ≠ gm ∧ b2 ≠ gm ∧ b3 ≠ gm := by
  refine ⟨fun e => ?_, fun e => ?_, fun e => ?_⟩
  · have h1 := h.hp
    rw [e, h.hm] at h1
    simp only [Option.some.injEq, Obj.cells.injEq] at h1
    exact absurd h1.2.1 (by decide)
  · have h1 := h.hn
    rw [e, h.hm] at h1
    simp only [Option.some.injEq, Obj.cells.injEq] at h1
    exact absurd h1.2.1 (by decide)
  · have h1 := h.ha
    rw [e, h.hm] at h1
    simp only [Option.some.injEq, Obj.cells.injEq] at h1
    exact absurd h1.2.1 (by decide)
theorem Env.mark {w0 : World} {B b2 b3 gm n : Nat} {nv rv : Value} {m : List Bool} {w : World} (h : Env w0 B b2 b3 gm n nv rv m w) (i : Nat) : Env w0 B b2 b3 gm n nv rv (m.set i true) (w.setCell ⟨gm, i, none⟩ (.bool true)) := by
  obtain ⟨n1, n2, n3⟩ := h.ne
  have hh : ∀ k, k ≠ gm → (w.setCell ⟨gm, i, none⟩ (.bool true)).heap[k]? = w.heap[k]? := fun k hk => Below.heap_setCell _ _ _ _ (fun e => hk e)
  refine ⟨⟨h.low.os, h.low.tape, h.low.output, by simp [World.setCell]; exact h.low.size, fun k hk => (hh k (by have := h.hg; omega)).trans (h.low.block k hk)⟩, (hh _ n1).trans h.hp, (hh _ n2).trans h.hn, (hh _ n3).trans h.ha, ?_, h.hg, by rw [List.length_set]; exact h.len⟩
  simp [World.setCell, Array.getElem?_modify, h.hm, boolV]
/-- a string's cell lies in another row than the marks -/
theorem Env.str {w0 : World} {B b2 b3 gm n : Nat} {nv rv : Value} {m : List Bool} {w : World} (h : Env w0 B b2 b3 gm n nv rv m w) {g i : Nat} {s : ByteArray} (hs : w.cell? ⟨g, i, none⟩ = some (.string s)) : g ≠ gm := by
  intro e
  rw [e, Lib.cell_of_heap h.hm] at hs
  simp only [List.getElem?_toArray, List.getElem?_map] at hs
  cases hm : m[i]? with
  | none => rw [hm] at hs; cases hs
  | some b => rw [hm] at hs; cases hs
/-- what adding a name comes to -/
def Added (w0 : World) (B b2 b3 gm n : Nat) (nv rv : Value) (p : Ld.Prg) (nm : List UInt8) (m : List Bool) (w : World) (e : Ending) (w' : World) : Prop :=
  e = .returned (.tuple #[]) ∧ ∃ m', Env w0 B b2 b3 gm n nv rv m' w' ∧ Two gm gm w w' ∧ Grown p [nm] m m' ∧ Sc.told p.names m' nm = true
def Adds (w0 : World) (B b2 b3 gm n : Nat) (nv rv : Value) (p : Ld.Prg) (K : Nat) : Prop :=
  ∀ (m : List Bool) (nm : List UInt8) (w : World), Env w0 B b2 b3 gm n nv rv m w → left p m ≤ K → 0 ≤ Ld.number p.names nm →
    Calls Tryz.prog 44 #[.string ⟨nm.toArray⟩, .pointer (some ⟨B, 0, none⟩), .pointer (some ⟨b2, 0, none⟩), .pointer (some ⟨b3, 0, none⟩)] w (Added w0 B b2 b3 gm n nv rv p nm m w)
/-- what going through the rungs of a name comes to -/
def Eached (w0 : World) (B b2 b3 gm n : Nat) (nv rv : Value) (p : Ld.Prg) (nm : List UInt8) (m : List Bool) (w : World) (e : Ending) (w' : World) : Prop :=
  e = .returned (.tuple #[]) ∧ ∃ m', Env w0 B b2 b3 gm n nv rv m' w' ∧ Two gm gm w w' ∧ Grown p [nm] m m' ∧ ∀ r, r ∈ p.rungs → r.name = nm → ∀ t, t ∈ namesR r → Sc.told p.names m' t = true
set_option maxHeartbeats 4000000 in
set_option maxRecDepth 100000 in
theorem each_any (w0 : World) (B b2 b3 gm n : Nat) (nv rv : Value) (p : Ld.Prg) (K : Nat) (hP : IsPrg w0 p (.agg #[nv, rv])) (hck : Ld.check p = none) (hadd : Adds w0 B b2 b3 gm n nv rv p K)
    (m : List Bool) (nm : List UInt8) (w : World) (hE : Env w0 B b2 b3 gm n nv rv m w) (hK : left p m ≤ K) :
    Calls Tryz.prog 45 #[.agg #[nv, rv], .string ⟨nm.toArray⟩, addV B b2 b3] w (Eached w0 B b2 b3 gm n nv rv p nm m w) := by
  obtain ⟨nv', rv', e0, hna, hra⟩ := hP
  simp only [Value.agg.injEq, Array.mk.injEq, List.cons.injEq, and_true] at e0
  obtain ⟨rfl, rfl⟩ := e0
  have HNA := hide hna
  have HRA := hide hra
  obtain ⟨na, nc, rfl, _⟩ := hna.slice
  obtain ⟨ra, rc, rfl, hr1⟩ := hra.slice
  have HCR := hide (Ld.check_rungs p hck)
  have HADD := hide hadd
  have HE := hide hE
  obtain ⟨q, hq⟩ : ∃ q, q = p.rungs.length := ⟨_, rfl⟩
  obtain ⟨nn, hnn⟩ : ∃ nn, nn = p.names.length := ⟨_, rfl⟩
  have HQ := hide hq
  have HNN := hide hnn
  rw [← hq] at hr1 HRA HE HADD ⊢
  rw [← hnn] at HNA HE HADD ⊢
  clear hna hra hadd hE hq hnn
  obtain ⟨wA, hwA⟩ : ∃ wA, wA = w.alloc (.cells #[.slice na nn nc, .slice ra q rc] 26) := ⟨_, rfl⟩
  have hbA : Below w.heap.size w wA := by rw [hwA]; exact (Below.refl _ _).alloc (Nat.le_refl _) _
  have HEA := hide (HE.out.below hbA)
  have HBA := hide hbA
  clear hbA
  unfold addV
  go_enter Tryz.func45, Tryz.ntmps45
  go_wp2_with fail
  rw [← hwA]
  clear hwA
  go_loopw [13] (fun i wr => ∃ k : Nat, k ≤ q ∧ i = .int .i64 (k : Int) ∧ ∃ mk : List Bool, Hid (Env w0 B b2 b3 gm n (.slice na nn nc) (.slice ra q rc) mk wr) ∧ Hid (Two gm gm wA wr) ∧ Hid (Grown p [nm] m mk) ∧ Hid (∀ r, r ∈ p.rungs.take k → r.name = nm → ∀ t, t ∈ namesR r → Sc.told p.names mk t = true)) (fun i _ => q - (intOf i).toNat)
  case atStart => exact ⟨0, Nat.zero_le _, rfl, m, HEA.out, Two.refl _ _ _, Grown.refl _ _ _, fun r hr => by simp at hr⟩
  case round =>
    obtain ⟨k, hk, rfl, mk, HEk, HTk, HGk, HAk⟩ := hrel
    generalize wr = wo at *
    by_cases hlt : k < q
    · have hkl : k < p.rungs.length := by rw [← HQ.out]; exact hlt
      obtain ⟨r, hr⟩ : ∃ r, r = p.rungs[k] := ⟨_, rfl⟩
      have hrm : r ∈ p.rungs := by rw [hr]; exact List.getElem_mem hkl
      have HRM := hide hrm
      have HTS : Hid (p.rungs.take (k + 1) = p.rungs.take k ++ [r]) := by show _ = _; rw [List.take_succ_eq_append_getElem hkl, hr]
      obtain ⟨g, rfl, hcap, hrg⟩ : ∃ g, ra = some ⟨g, 0, none⟩ ∧ q ≤ rc ∧ RungAt wo g k r := by
        rcases HRA.out.below HEk.out.low with ⟨h0, _⟩ | ⟨g, cap, h1, h2, h3, h4⟩
        · rw [h0] at hkl; simp at hkl
        · simp only [Value.slice.injEq] at h1
          exact ⟨g, h1.1, by rw [h1.2.2, HQ.out]; exact h2, h4 k r (by rw [hr]; exact List.getElem?_eq_getElem hkl)⟩
      obtain ⟨x, hx⟩ : ∃ x, r.cond = some x ∧ Ld.known p.names x = true := by
        obtain ⟨_, _, _, _, x, h1, h2⟩ := HCR.out r hrm
        exact ⟨x, h1, h2⟩
      have HX := hide hx
      obtain ⟨v, c0, c1, c2, _, _, c5⟩ := hrg
      rw [hx.1] at c5
      obtain ⟨hex, hxs, _⟩ := c5
      obtain ⟨tu, yu, rfl⟩ := IsEx.iface x v hex
      obtain ⟨kd, rn, cd⟩ := r
      simp only at c0 c1 hx
      have HEX := hide hex
      have HZ := HTk.out.size
      clear hx hex hr hrm
      by_cases hnm : rn = nm
      · subst hnm
        obtain ⟨wB, hwB⟩ : ∃ wB, wB = wo.alloc (.cells #[.int .i64 kd, .string ⟨rn.toArray⟩, .iface tu yu] 66) := ⟨_, rfl⟩
        have hbB : Below wo.heap.size wo wB := by rw [hwB]; exact (Below.refl _ _).alloc (Nat.le_refl _) _
        have HBB := hide hbB
        have HNC := hide (Names_any _ x _ wB (HEX.out.aft hbB) hxs)
        rw [hwB] at HNC
        have HWB := hide hwB
        clear hwB hbB
        go_wp2_with fail
        refine HNC.out.mono ?_
        rintro e w5 ⟨sv, rfl, hsv, hb5⟩
        rw [← HWB.out] at hb5
        have HE5 := hide ((HEk.out.below HBB.out).below hb5)
        have HB5 := hide (HBB.out.trans (hb5.mono HBB.out.size))
        have HMO : Hid (∀ t, t ∈ ordered (x.named true) ↔ t ∈ x.named true) := fun t => mem_ordered _ _
        generalize ordered (x.named true) = os at *
        clear HNC hb5
        obtain ⟨sa, sc, rfl, hsl, hcs⟩ : ∃ sa sc, sv = .slice sa os.length sc ∧ os.length ≤ 1000000 ∧ ∀ j (hj : j < os.length), ∃ gs o, sa = some ⟨gs, o, none⟩ ∧ os.length ≤ sc ∧ w5.cell? ⟨gs, o + j, none⟩ = some (.string ⟨os[j].toArray⟩) := by
          rcases hsv with ⟨h0, a, cap, rfl⟩ | ⟨gs, o, cap, rfl, h1, h2, h3⟩
          · have h4 : os = [] := by simpa using h0
            subst h4
            exact ⟨a, cap, rfl, by simp, fun j hj => by simp at hj⟩
          · rw [List.length_map] at h1 h2 ⊢
            exact ⟨_, cap, rfl, h2, fun j hj => ⟨gs, o, rfl, h1, h3 j (toBA os[j]) (by rw [List.getElem?_map, List.getElem?_eq_getElem hj]; rfl)⟩⟩
        have HCS := hide hcs
        obtain ⟨u, hu⟩ : ∃ u, u = os.length := ⟨_, rfl⟩
        have HU := hide hu
        rw [← hu] at hsl ⊢
        clear hcs hsv hu
        go_wp2_with fail
        go_loopw [25] (fun i wr => ∃ j : Nat, j ≤ u ∧ i = .int .i64 (j : Int) ∧ ∃ mj : List Bool, Hid (Env w0 B b2 b3 gm n (.slice na nn nc) (.slice (some ⟨g, 0, none⟩) q rc) mj wr) ∧ Hid (Two gm gm w5 wr) ∧ Hid (Grown p [rn] mk mj) ∧ Hid (∀ t, t ∈ os.take j → Sc.told p.names mj t = true)) (fun i _ => u - (intOf i).toNat)
        case atStart => exact ⟨0, Nat.zero_le _, rfl, mk, HE5.out, Two.refl _ _ _, Grown.refl _ _ _, fun t ht => by simp at ht⟩
        case round =>
          obtain ⟨j, hj, rfl, mj, HEj, HTj, HGj, HAj⟩ := hrel
          by_cases hjl : j < u
          · have hjo : j < os.length := by rw [← HU.out]; exact hjl
            obtain ⟨gs, o, rfl, hsc, hcj⟩ := HCS.out j hjo
            have hgs : gs ≠ gm := HE5.out.str hcj
            have hcr : wr.cell? ⟨gs, o + j, none⟩ = some (.string ⟨os[j].toArray⟩) := by
              rw [World.cell?_of_block (w' := wr) (w := w5) (HTj.out.block gs (World.block_lt_of_cell? _ _ hcj) hgs hgs)]
              exact hcj
            have hmem : os[j] ∈ x.named true := (HMO.out _).1 (List.getElem_mem hjo)
            have hkn : 0 ≤ Ld.number p.names os[j] := by
              have h1 := HX.out.2
              unfold Ld.known at h1
              rw [List.all_eq_true] at h1
              simpa using h1 _ hmem
            have HRC : Hid (Rch p [rn] os[j]) := .step HRM.out (.base (by simp)) (by unfold namesR; rw [HX.out.1]; exact hmem)
            have HTK : Hid (os.take (j + 1) = os.take j ++ [os[j]]) := List.take_succ_eq_append_getElem hjo
            have HCA := hide (HADD.out mj os[j] wr HEj.out (Nat.le_trans (HGk.out.trans HGj.out).less hK) hkn)
            rw [← HU.out] at hsc
            generalize os[j] = s at *
            clear hcj hmem hkn
            go_wp2_with fail
            refine HCA.out.mono ?_
            rintro e w6 ⟨rfl, m6, hE6, hT6, hG6, hA6⟩
            have HE6 := hide hE6
            have HT6 := hide hT6
            have HG6 := hide hG6
            have HA6 := hide hA6
            clear hE6 hT6 hG6 hA6 HCA
            go_wp2_with fail
            go_roundw
            case rel =>
              refine ⟨j + 1, by omega, by go_num, m6, HE6.out, HTj.out.trans HT6.out, HGj.out.trans (HG6.out.of HRC.out), fun t ht => ?_⟩
              rw [HTK.out, List.mem_append] at ht
              rcases ht with ht | ht
              · exact HG6.out.up t (HAj.out t ht)
              · have : t = s := by simpa using ht
                rw [this]
                exact HA6.out
            case measure => simp [intOf]; omega
          · have hju : j = u := by omega
            have HALL : Hid (∀ t, t ∈ x.named true → Sc.told p.names mj t = true) := fun t ht => HAj.out t (by rw [hju, HU.out, List.take_length]; exact (HMO.out t).2 ht)
            go_wp2_with fail
            go_roundw
            case rel =>
              refine ⟨k + 1, by omega, by go_num, mj, HEj.out, HTk.out.trans ((Two.below HB5.out).trans HTj.out), HGk.out.trans HGj.out, fun r hr e t ht => ?_⟩
              rw [HTS.out, List.mem_append] at hr
              rcases hr with hr | hr
              · exact HGj.out.up t (HAk.out r hr e t ht)
              · have h1 : r = ⟨kd, rn, cd⟩ := by simpa using hr
                rw [h1] at ht
                unfold namesR at ht
                rw [HX.out.1] at ht
                exact HALL.out t ht
            case measure => simp [intOf]; omega
      · have hy1 := bytes_list rn
        have hy2 := bytes_list nm
        have hne : (rn == nm) = false := beq_eq_false_iff_ne.2 hnm
        go_wp2_with fail
        go_roundw
        case rel =>
          refine ⟨k + 1, by omega, by go_num, mk, HEk.out.below ((Below.refl _ _).alloc (Nat.le_refl _) _), HTk.out.trans (Two.below ((Below.refl _ _).alloc (Nat.le_refl _) _)), HGk.out, fun r hr e t ht => ?_⟩
          rw [HTS.out, List.mem_append] at hr
          rcases hr with hr | hr
          · exact HAk.out r hr e t ht
          · have h1 : r = ⟨kd, rn, cd⟩ := by simpa using hr
            rw [h1] at e
            exact absurd e hnm
        case measure => simp [intOf]; omega
    · have hkq : k = q := by omega
      go_wp2_with fail
      go_end0
      exact ⟨rfl, mk, HEk.out, (Two.below HBA.out).trans HTk.out, HGk.out, fun r hr => HAk.out r (by rw [hkq, HQ.out, List.take_length]; exact hr)⟩
end Sl
end
end Go.Proofs.YtjfgfcajmkbmeaaGreatDoor
