/-
  The document's states by names, in plain words: what its Step does is what package scan's does. The document's states in memory: a map of bools and a map of numbers, over texts. The walk of the document's Eval where the closures hold two values, tell of some names alone, and grow memory when they are asked.
-/
import Derived.Test.YtkpfahbodlfpiaaGreatDoorScPlayAll
import Derived.Test.YtkpfahbodlfpiaaGreatDoorLdRepAll
import Derived.Maps.OwnSet
import Derived.Maps.OwnOps
import Derived.Maps.Views
import Derived.Maps.Ext
import Derived.Maps.RangeWalk
import Derived.Test.YtkpfahbodlfpiaaGreatDoorNdWalkAll
import Derived.Test.YtkpfahbodlfpiaaGreatDoorNmWalkAll
import Derived.Test.YtkpfahbodlfpiaaGreatDoorNaEachAll
namespace Go.Proofs.YtkpfahbodlfpiaaGreatDoor
section
namespace Rf
/-- a state: of each name by its own -/
structure St where
  is : List UInt8 → Bool
  ct : List UInt8 → Int
def upd {β : Type} (f : List UInt8 → β) (n : List UInt8) (v : β) : List UInt8 → β := fun m => if m = n then v else f m
/-- a name's count -/
def top (ns : List Ld.Nme) (nm : List UInt8) : Int := (ns.getD (Ld.number ns nm).toNat ⟨[], 0, 0⟩).count
def goes (e : Bool) (k c top : Int) : Int := if !e && k == 4 then 0 else if e && decide (c < top) then c + 1 else c
def rung (ns : List Ld.Nme) (was : List UInt8 → Bool) (t : St) (r : Ld.Rng) : St := match r.cond with
  | none => t
  | some x =>
    if r.kind = 1 then ⟨upd t.is r.name (x.eval t.is was), t.ct⟩
    else if r.kind = 2 then (if x.eval t.is was then ⟨upd t.is r.name true, t.ct⟩ else t)
    else if r.kind = 3 then (if x.eval t.is was then ⟨upd t.is r.name false, t.ct⟩ else t)
    else if r.kind = 4 ∨ r.kind = 5 then ⟨upd t.is r.name (goes (x.eval t.is was) r.kind (t.ct r.name) (top ns r.name) == top ns r.name), upd t.ct r.name (goes (x.eval t.is was) r.kind (t.ct r.name) (top ns r.name))⟩
    else if r.kind = 6 then (if x.eval t.is was then ⟨upd t.is r.name false, upd t.ct r.name 0⟩ else t)
    else t
def reads (ns : List Ld.Nme) (l : List Nat) (inp : List Bool) (f : List UInt8 → Bool) : List UInt8 → Bool := (l.zip inp).foldl (fun acc p => upd acc (ns.getD p.1 ⟨[], 0, 0⟩).name p.2) f
def step (p : Ld.Prg) (s : St) (inp : List Bool) : St := p.rungs.foldl (rung p.names s.is) ⟨reads p.names (Ld.kindL p.names 1) inp s.is, s.ct⟩
def start : St := ⟨fun _ => false, fun _ => 0⟩
/-- counts, told -/
def toldC (ns : List Ld.Nme) (l : List Int) (s : List UInt8) : Int := if 0 ≤ Ld.number ns s then l.getD (Ld.number ns s).toNat 0 else 0
/-- the document's state of a program's own -/
def of (ns : List Ld.Nme) (s : Sc.St) : St := ⟨Sc.told ns s.is, toldC ns s.ct⟩
theorem number_inj (ns : List Ld.Nme) (a b : List UInt8) (h : 0 ≤ Ld.number ns b) (e : Ld.number ns a = Ld.number ns b) : a = b := by
  rcases Ld.number_cases ns a with ⟨h1, _⟩ | ⟨k, hk, h1, h2, _⟩
  · omega
  · rcases Ld.number_cases ns b with ⟨h3, _⟩ | ⟨j, hj, h3, h4, _⟩
    · omega
    · have : k = j := by omega
      subst this
      exact h2.symm.trans h4
theorem told_set (ns : List Ld.Nme) (l : List Bool) (nm : List UInt8) (v : Bool) (h : 0 ≤ Ld.number ns nm) (hl : l.length = ns.length) : Sc.told ns (l.set (Ld.number ns nm).toNat v) = upd (Sc.told ns l) nm v := by
  funext m
  have hlt := Ld.number_lt ns nm
  unfold upd
  by_cases e : m = nm
  · subst e
    rw [if_pos rfl]
    unfold Sc.told
    rw [Sc.getD_set, if_pos ⟨rfl, by omega⟩]
    simp [h]
  · rw [if_neg e]
    unfold Sc.told
    by_cases h0 : 0 ≤ Ld.number ns m
    · rw [Sc.getD_set, if_neg (fun h1 => e (number_inj ns m nm h (by have := h1.1; omega)))]
    · simp [h0]
theorem toldC_set (ns : List Ld.Nme) (l : List Int) (nm : List UInt8) (v : Int) (h : 0 ≤ Ld.number ns nm) (hl : l.length = ns.length) : toldC ns (l.set (Ld.number ns nm).toNat v) = upd (toldC ns l) nm v := by
  funext m
  have hlt := Ld.number_lt ns nm
  unfold upd
  by_cases e : m = nm
  · subst e
    rw [if_pos rfl]
    unfold toldC
    rw [if_pos h, Sc.getD_set, if_pos ⟨rfl, by omega⟩]
  · rw [if_neg e]
    unfold toldC
    by_cases h0 : 0 ≤ Ld.number ns m
    · rw [if_pos h0, if_pos h0, Sc.getD_set, if_neg (fun h1 => e (number_inj ns m nm h (by have := h1.1; omega)))]
    · rw [if_neg h0, if_neg h0]
theorem upd_same {β : Type} (f : List UInt8 → β) (n : List UInt8) : upd f n (f n) = f := by
  funext m
  unfold upd
  by_cases e : m = n
  · rw [if_pos e, e]
  · rw [if_neg e]
theorem of_start (p : Ld.Prg) : of p.names (Sc.start p) = start := by
  have h1 : ∀ k, (List.replicate p.names.length false).getD k false = false := fun k => by
    rw [List.getD_eq_getElem?_getD, List.getElem?_replicate]
    split <;> rfl
  have h2 : ∀ k, (List.replicate p.names.length (0 : Int)).getD k 0 = 0 := fun k => by
    rw [List.getD_eq_getElem?_getD, List.getElem?_replicate]
    split <;> rfl
  unfold of Sc.start start Sc.told toldC
  congr 1
  · funext m
    rw [h1]
    simp
  · funext m
    rw [h2]
    simp
/-- inputs are read -/
theorem of_reads (ns : List Ld.Nme) : ∀ (l : List Nat) (inp : List Bool) (is : List Bool), is.length = ns.length → (∀ i, i ∈ l → ∃ hi : i < ns.length, Ld.number ns ns[i].name = (i : Int)) → Sc.told ns (Sc.reads l inp is) = reads ns l inp (Sc.told ns is)
  | [], _, _, _, _ => rfl
  | _ :: _, [], _, _, _ => rfl
  | i :: l, b :: inp, is, hl, hn => by
    obtain ⟨hi, h1⟩ := hn i (by simp)
    have h2 := told_set ns is ns[i].name b (by omega) hl
    rw [h1, Int.toNat_natCast] at h2
    have h3 := of_reads ns l inp (is.set i b) (by simpa using hl) (fun j hj => hn j (by simp [hj]))
    unfold Sc.reads reads at h3 ⊢
    simp only [List.zip_cons_cons, List.foldl_cons]
    rw [h3, h2]
    have e : (ns.getD i ⟨[], 0, 0⟩).name = ns[i].name := by simp [hi]
    rw [e]
theorem told_at (ns : List Ld.Nme) (l : List Bool) (nm : List UInt8) (h : 0 ≤ Ld.number ns nm) : Sc.told ns l nm = l.getD (Ld.number ns nm).toNat false := by
  unfold Sc.told
  simp [h]
theorem toldC_at (ns : List Ld.Nme) (l : List Int) (nm : List UInt8) (h : 0 ≤ Ld.number ns nm) : toldC ns l nm = l.getD (Ld.number ns nm).toNat 0 := by
  unfold toldC
  rw [if_pos h]
/-- a rung does what the document says -/
theorem of_rung (p : Ld.Prg) (hck : Ld.check p = none) (was : List Bool) (r : Ld.Rng) (hr : r ∈ p.rungs) (s : Sc.St) (hb : Sc.Bd p s) : of p.names (Sc.doRung p.names was s r) = rung p.names (Sc.told p.names was) (of p.names s) r := by
  obtain ⟨h1, h2, h3, h4, x, h5, _⟩ := Ld.check_rungs p hck r hr
  obtain ⟨k, hk, h6, h7, _⟩ : ∃ (k : Nat) (h : k < p.names.length), Ld.number p.names r.name = (k : Int) ∧ p.names[k].name = r.name ∧ True := by
    rcases Ld.number_cases p.names r.name with ⟨h6, _⟩ | ⟨k, hk, h6, h7, _⟩
    · omega
    · exact ⟨k, hk, h6, h7, trivial⟩
  have hbk := hb.at_ k hk
  have hs1 : ∀ v, Sc.told p.names (s.is.set k v) = upd (Sc.told p.names s.is) r.name v := fun v => by
    have := told_set p.names s.is r.name v h3 hb.li
    rw [h6, Int.toNat_natCast] at this
    exact this
  have hs2 : ∀ v, toldC p.names (s.ct.set k v) = upd (toldC p.names s.ct) r.name v := fun v => by
    have := toldC_set p.names s.ct r.name v h3 hb.lc
    rw [h6, Int.toNat_natCast] at this
    exact this
  have ha1 : Sc.told p.names s.is r.name = s.is.getD k false := by
    have := told_at p.names s.is r.name h3
    rw [h6, Int.toNat_natCast] at this
    exact this
  have ha2 : toldC p.names s.ct r.name = s.ct.getD k 0 := by
    have := toldC_at p.names s.ct r.name h3
    rw [h6, Int.toNat_natCast] at this
    exact this
  have hcnt : (p.names.getD k ⟨[], 0, 0⟩).count = p.names[k].count := by simp [hk]
  have htop : top p.names r.name = p.names[k].count := by unfold top; rw [h6, Int.toNat_natCast]; exact hcnt
  unfold Sc.doRung rung
  rw [h5]
  simp only
  rw [if_pos h3, h6, Int.toNat_natCast, hcnt]
  have eq0 : (of p.names s).is = Sc.told p.names s.is := rfl
  have eq1 : (of p.names s).ct = toldC p.names s.ct := rfl
  rw [eq0, eq1, htop, ha2]
  generalize x.eval (Sc.told p.names s.is) (Sc.told p.names was) = e
  rcases (show r.kind = 1 ∨ r.kind = 2 ∨ r.kind = 3 ∨ r.kind = 4 ∨ r.kind = 5 ∨ r.kind = 6 by omega) with hk1 | hk1 | hk1 | hk1 | hk1 | hk1
  · rw [hk1]
    simp only [Sc.rung, if_true, of, hs1]
  · rw [hk1]
    cases e with
    | true => simp [Sc.rung, of, hs1]
    | false =>
      simp only [Sc.rung, Bool.or_false]
      simp only [show ¬ (2 : Int) = 1 by decide, if_false, if_true, of, hs1]
      rw [← ha1, upd_same]
      simp
  · rw [hk1]
    cases e with
    | true => simp [Sc.rung, of, hs1]
    | false =>
      simp only [Sc.rung, Bool.not_false, Bool.and_true]
      simp only [show ¬ (3 : Int) = 1 by decide, show ¬ (3 : Int) = 2 by decide, if_false, if_true, of, hs1]
      rw [← ha1, upd_same]
      simp
  · rw [hk1]
    have hg : goes e 4 (s.ct.getD k 0) p.names[k].count = if e then Sc.further (s.ct.getD k 0) p.names[k].count else 0 := by
      unfold goes Sc.further
      cases e with
      | false => simp
      | true =>
        simp only [Bool.not_true, Bool.false_and, Bool.false_eq_true, if_false, Bool.true_and, if_true, decide_eq_true_eq]
        split
        · rfl
        · omega
    simp only [Sc.rung, show ¬ (4 : Int) = 1 by decide, show ¬ (4 : Int) = 2 by decide, show ¬ (4 : Int) = 3 by decide, if_false, if_true, true_or, Sc.run, of, hs1, hs2, hg]
  · rw [hk1]
    have hg : goes e 5 (s.ct.getD k 0) p.names[k].count = if e then Sc.further (s.ct.getD k 0) p.names[k].count else s.ct.getD k 0 := by
      unfold goes Sc.further
      cases e with
      | false => simp
      | true =>
        simp only [Bool.not_true, Bool.false_and, Bool.false_eq_true, if_false, Bool.true_and, if_true, decide_eq_true_eq]
        split
        · rfl
        · omega
    simp only [Sc.rung, show ¬ (5 : Int) = 1 by decide, show ¬ (5 : Int) = 2 by decide, show ¬ (5 : Int) = 3 by decide, show ¬ (5 : Int) = 4 by decide, if_false, if_true, or_true, Sc.count, of, hs1, hs2, hg]
  · rw [hk1]
    cases e with
    | true => simp [Sc.rung, Sc.zero, of, hs1, hs2]
    | false => simp [Sc.rung, Sc.zero, of]
theorem of_fold (p : Ld.Prg) (hck : Ld.check p = none) (was : List Bool) : ∀ (rs : List Ld.Rng), (∀ r, r ∈ rs → r ∈ p.rungs) → ∀ s, Sc.Bd p s → of p.names (rs.foldl (Sc.doRung p.names was) s) = rs.foldl (rung p.names (Sc.told p.names was)) (of p.names s)
  | [], _, _, _ => rfl
  | r :: rs, hrs, s, hb => by
    rw [List.foldl_cons, List.foldl_cons, of_fold p hck was rs (fun r' hr' => hrs r' (by simp [hr'])) _ (Sc.doRung_bd p hck was r (hrs r (by simp)) s hb).1, of_rung p hck was r (hrs r (by simp)) s hb]
/-- each name's number is its own -/
theorem number_self (p : Ld.Prg) (h : Ld.check p = none) (k : Nat) (hk : k < p.names.length) : Ld.number p.names p.names[k].name = (k : Int) := by
  unfold Ld.check at h
  by_cases hl : 12 < p.names.length ∨ 40 < p.rungs.length
  · rw [if_pos hl] at h; cases h
  rw [if_neg hl] at h
  cases hn : Ld.bad (Ld.nameAt p.names) p.names.length with
  | some r => rw [hn] at h; cases h
  | none =>
    have h1 := Ld.bad_none _ _ hn k hk
    rw [Ld.nameAt_at _ _ hk, Ld.wrongN] at h1
    have h2 : ¬ Ld.number p.names p.names[k].name < (k : Int) := by
      intro hlt
      rw [if_pos hlt] at h1
      repeat' split at h1
      all_goals omega
    rcases Ld.number_cases p.names p.names[k].name with ⟨_, h4⟩ | ⟨j, hj, h3, h4, h5⟩
    · exact absurd rfl (h4 _ (List.getElem_mem hk))
    · rw [h3] at h2 ⊢
      by_cases e : j = k
      · rw [e]
      · exact absurd rfl (h5 k (by omega))
/-- a scan does what the document says -/
theorem of_step (p : Ld.Prg) (hck : Ld.check p = none) (s : Sc.St) (inp : List Bool) (hb : Sc.Bd p s) : of p.names (Sc.step p s inp) = step p (of p.names s) inp := by
  have hb0 : Sc.Bd p ⟨Sc.reads (Ld.kindL p.names 1) inp s.is, s.ct⟩ := by
    refine ⟨by simp only [Sc.reads_len]; exact hb.li, hb.lc, fun k hk => ?_⟩
    obtain ⟨h1, h2, h3⟩ := hb.at_ k hk
    refine ⟨h1, h2, fun h4 => ?_⟩
    simp only
    rw [Sc.reads_other _ _ _ _ (fun hm => by obtain ⟨hi, he⟩ := Ld.kindL_at _ _ _ hm; omega)]
    exact h3 h4
  have h1 := of_fold p hck s.is p.rungs (fun _ h => h) _ hb0
  have h2 := of_reads p.names (Ld.kindL p.names 1) inp s.is hb.li (fun i hi => by
    obtain ⟨hi2, _⟩ := Ld.kindL_at _ _ _ hi
    exact ⟨hi2, number_self p hck i hi2⟩)
  have h3 : of p.names ⟨Sc.reads (Ld.kindL p.names 1) inp s.is, s.ct⟩ = ⟨reads p.names (Ld.kindL p.names 1) inp (of p.names s).is, (of p.names s).ct⟩ := by
    unfold of
    rw [h2]
  rw [h3] at h1
  exact h1
end Rf
end
section
namespace Rf
open Go.RowKit Go.Maps
theorem lawS : Keyed Tryz.prog 9 := string_keyed Tryz.underlying9
theorem keyS (s : List UInt8) (h : s.length ≤ maxLen) : keyOf Tryz.prog 9 (.string ⟨s.toArray⟩) = some (.string s) := by
  have := Go.WideMaps.keyOf_string_mk (P := Tryz.prog) (k := 9) Tryz.underlying9 (s := ⟨s.toArray⟩) (by show s.toArray.size ≤ maxLen; simpa using h)
  simpa using this
theorem keyS_inv {key : Value} {kl : Lit} (h : keyOf Tryz.prog 9 key = some kl) : ∃ s : List UInt8, key = .string ⟨s.toArray⟩ ∧ kl = .string s ∧ s.length ≤ maxLen := by
  obtain ⟨s, h1, h2, h3⟩ := Go.WideMaps.string_of_keyOf (P := Tryz.prog) (k := 9) Tryz.underlying9 h
  exact ⟨s.data.toList, h1, h2, by simpa using h3⟩
theorem zeroB (w : World) : (zeroValue 4).run Tryz.prog w = .ok (.bool false) w := by kernel_rfl
theorem zeroI (w : World) : (zeroValue 3).run Tryz.prog w = .ok (.int .i64 0) w := by kernel_rfl
theorem plainB_inv {P : Program} {e : TypeId} (he : P.underlying e = some .bool) {v : Value} {z : DataW Unit × List MemPlace} (h : plainElem P e v = some z) : ∃ x, v = .bool x ∧ z = (.lit (.bool x), []) := by
  unfold plainElem at h
  rw [he] at h
  cases v <;> simp at h
  exact ⟨_, rfl, h.symm⟩
/-- the datum of a map of bools -/
def DB (D : DataW Unit) (f : List UInt8 → Bool) : Prop := ∀ s, D.atKey (.string s) (.lit (.bool false)) = .lit (.bool (f s))
def DI (D : DataW Unit) (g : List UInt8 → Int) : Prop := ∀ s, D.atKey (.string s) (.lit (.int .i64 0)) = .lit (.int .i64 (g s))
/-- block b is a map of bools that tells f -/
def BM (W : World) (b n : Nat) (f : List UInt8 → Bool) : Prop := ∃ D : DataW Unit, W.ownsMap Tryz.prog 9 (plainElem Tryz.prog 4) b n D ∧ DB D f
/-- block b is a map of numbers that tells g -/
def IM (W : World) (b n : Nat) (g : List UInt8 → Int) : Prop := ∃ D : DataW Unit, W.ownsMap Tryz.prog 9 (plainElem Tryz.prog 3) b n D ∧ DI D g
theorem BM.made (W : World) : BM (W.alloc (.map #[] 0)) W.heap.size 0 (fun _ => false) := ⟨.map [], World.ownsMap_made _ _ _ _, fun _ => rfl⟩
theorem IM.made (W : World) : IM (W.alloc (.map #[] 0)) W.heap.size 0 (fun _ => 0) := ⟨.map [], World.ownsMap_made _ _ _ _, fun _ => rfl⟩
theorem BM.lt {W : World} {b n : Nat} {f : List UInt8 → Bool} (h : BM W b n f) : b < W.heap.size := by obtain ⟨D, h1, _⟩ := h; exact h1.lt
theorem IM.lt {W : World} {b n : Nat} {f : List UInt8 → Int} (h : IM W b n f) : b < W.heap.size := by obtain ⟨D, h1, _⟩ := h; exact h1.lt
theorem BM.kept {W W' : World} {b n : Nat} {f : List UInt8 → Bool} (h : BM W b n f) (hb : W'.heap[b]? = W.heap[b]?) : BM W' b n f := by
  obtain ⟨D, ⟨es, clock, h1, h2⟩, h3⟩ := h
  exact ⟨D, ⟨es, clock, hb.trans h1, h2⟩, h3⟩
theorem IM.kept {W W' : World} {b n : Nat} {f : List UInt8 → Int} (h : IM W b n f) (hb : W'.heap[b]? = W.heap[b]?) : IM W' b n f := by
  obtain ⟨D, ⟨es, clock, h1, h2⟩, h3⟩ := h
  exact ⟨D, ⟨es, clock, hb.trans h1, h2⟩, h3⟩
theorem BM.below {W W' : World} {b n : Nat} {f : List UInt8 → Bool} (h : BM W b n f) (hb : Below W.heap.size W W') : BM W' b n f := h.kept (hb.block _ h.lt)
theorem IM.below {W W' : World} {b n : Nat} {f : List UInt8 → Int} (h : IM W b n f) (hb : Below W.heap.size W W') : IM W' b n f := h.kept (hb.block _ h.lt)
theorem BM.more {W : World} {b n n' : Nat} {f : List UInt8 → Bool} (h : BM W b n f) (hn : n ≤ n') : BM W b n' f := by
  obtain ⟨D, h1, h2⟩ := h
  exact ⟨D, h1.mono hn, h2⟩
theorem IM.more {W : World} {b n n' : Nat} {f : List UInt8 → Int} (h : IM W b n f) (hn : n ≤ n') : IM W b n' f := by
  obtain ⟨D, h1, h2⟩ := h
  exact ⟨D, h1.mono hn, h2⟩
theorem i64_wf {x : Int} (h1 : -9223372036854775808 ≤ x) (h2 : x ≤ 9223372036854775807) : (Lit.int .i64 x).wf = true := by simp [Lit.wf, IntKind.min, IntKind.max, IntKind.signed, IntKind.bits]; omega
theorem BM.look {W : World} {b n : Nat} {f : List UInt8 → Bool} (h : BM W b n f) (s : List UInt8) (hs : s.length ≤ maxLen) : (Instr.lookup 41 (.map (some b)) (.string ⟨s.toArray⟩) false).run Tryz.prog W = .ok (.bool (f s)) W := by
  obtain ⟨D, h1, h2⟩ := h
  obtain ⟨v, ps, hrun, hv⟩ := h1.lookup lawS Tryz.underlying41 (zeroB W) (plainElem_bool Tryz.underlying4 false) (keyS s hs)
  obtain ⟨x, rfl, hx⟩ := plainB_inv Tryz.underlying4 hv
  rw [h2 s] at hx
  simp only [Prod.mk.injEq, DataW.lit.injEq, Lit.bool.injEq] at hx
  rw [hx.1]; exact hrun
theorem IM.look {W : World} {b n : Nat} {f : List UInt8 → Int} (h : IM W b n f) (s : List UInt8) (hs : s.length ≤ maxLen) : (Instr.lookup 42 (.map (some b)) (.string ⟨s.toArray⟩) false).run Tryz.prog W = .ok (.int .i64 (f s)) W := by
  obtain ⟨D, h1, h2⟩ := h
  obtain ⟨v, ps, hrun, hv⟩ := h1.lookup lawS Tryz.underlying42 (zeroI W) (plainElem_int Tryz.underlying3 (i64_wf (x := 0) (by omega) (by omega))) (keyS s hs)
  obtain ⟨x, rfl, hx, _⟩ := plainElem_int_inv Tryz.underlying3 hv
  rw [h2 s] at hx
  simp only [Prod.mk.injEq, DataW.lit.injEq, Lit.int.injEq, true_and] at hx
  rw [hx.1]; exact hrun
/-- a text is given another value -/
theorem BM.put {W : World} {b n : Nat} {f : List UInt8 → Bool} (h : BM W b n f) (hn : n < maxLen) (s : List UInt8) (hs : s.length ≤ maxLen) (x : Bool) :
    ∃ W', (Instr.mapUpdate 41 (.map (some b)) (.string ⟨s.toArray⟩) (.bool x)).run Tryz.prog W = .ok () W' ∧ BM W' b (n + 1) (upd f s x) ∧ W.mapTurned W' b := by
  obtain ⟨D, h1, h2⟩ := h
  obtain ⟨W', e1, e2, e3⟩ := h1.store lawS Tryz.underlying41 hn (keyS s hs) (plainElem_bool Tryz.underlying4 x)
  refine ⟨W', e1, ⟨_, e2, fun t => ?_⟩, e3⟩
  unfold upd
  by_cases e : t = s
  · subst e
    rw [atKey_put_same h1.isMap (by trivial), if_pos rfl]
  · rw [atKey_put_other (by simpa using e), h2 t, if_neg e]
theorem IM.put {W : World} {b n : Nat} {f : List UInt8 → Int} (h : IM W b n f) (hn : n < maxLen) (s : List UInt8) (hs : s.length ≤ maxLen) (x : Int) (h3 : -9223372036854775808 ≤ x) (h4 : x ≤ 9223372036854775807) :
    ∃ W', (Instr.mapUpdate 42 (.map (some b)) (.string ⟨s.toArray⟩) (.int .i64 x)).run Tryz.prog W = .ok () W' ∧ IM W' b (n + 1) (upd f s x) ∧ W.mapTurned W' b := by
  obtain ⟨D, h1, h2⟩ := h
  obtain ⟨W', e1, e2, e3⟩ := h1.store lawS Tryz.underlying42 hn (keyS s hs) (plainElem_int Tryz.underlying3 (i64_wf h3 h4))
  refine ⟨W', e1, ⟨_, e2, fun t => ?_⟩, e3⟩
  unfold upd
  by_cases e : t = s
  · subst e
    rw [atKey_put_same h1.isMap (by trivial), if_pos rfl]
  · rw [atKey_put_other (by simpa using e), h2 t, if_neg e]
/-- where a map alone turned, all else stands -/
theorem turned_two {W W' : World} {b : Nat} (ht : W.mapTurned W' b) : W'.os = W.os ∧ W'.tape = W.tape ∧ W'.output = W.output ∧ W'.heap.size = W.heap.size ∧ ∀ k, k ≠ b → W'.heap[k]? = W.heap[k]? := by
  obtain ⟨es, clock, es', clock', hb, rfl⟩ := ht
  refine ⟨rfl, rfl, rfl, by simp [Go.ChangeMaps.setBlock], fun k hk => ?_⟩
  have : b ≠ k := fun e => hk e.symm
  simp [Go.ChangeMaps.setBlock, this]
/-- a value of the map's, at a text -/
def AtB (D : DataW Unit) (x : List UInt8) (v : Value) : Prop := ∃ c : Bool, v = .bool c ∧ ∀ zd, D.atKey (.string x) zd = .lit (.bool c)
section
variable (w : World) {ops : Array Oper} {rest : List Oper} {o : Oper} {a : Act} {Q : Exit → Act → World → Prop}
/-- the step of a range over a map of bools -/
theorem next_sb (hg : o.guard = none) (it : Operand) (hop : o.op = Op.next it false) (b r n : Nat) (D : DataW Unit) (left : Lit → Bool) (cnt : Nat)
    (hit : a.eval it = .pointer (some ⟨r, 0, none⟩)) (h : w.ranges Tryz.prog 9 (plainElem Tryz.prog 4) b r n D left cnt)
    (hDone : cnt = 0 → (∀ kl, left kl = false) → wpList Tryz.prog ops Q rest (a.put o.dst (.tuple #[.bool false])) w)
    (hMore : ∀ (x : List UInt8) (v : Value) (w' : World) (cnt' : Nat), x.length ≤ maxLen → left (.string x) = true → AtB D x v → w'.ranges Tryz.prog 9 (plainElem Tryz.prog 4) b r n D (fun z => left z && !z.sameKey (.string x)) cnt' → cnt' < cnt →
      w.grownBy w' (some r) → w'.heap.size = w.heap.size → (Instr.entry (.pointer (some ⟨r, 0, none⟩))).run Tryz.prog w' = .ok (.tuple #[.string ⟨x.toArray⟩, v]) w' → wpList Tryz.prog ops Q rest (a.put o.dst (.tuple #[.bool true, .string ⟨x.toArray⟩, v])) w') :
    wpList Tryz.prog ops Q (o :: rest) a w :=
  wpList_next_ranges w hg it hop 9 lawS (plainElem Tryz.prog 4) (fun x : List UInt8 => .string ⟨x.toArray⟩) Value.bool (fun key kl hkey => by obtain ⟨x, rfl, _⟩ := keyS_inv hkey; exact ⟨x, rfl⟩) (fun v y hv => by obtain ⟨c, rfl, _⟩ := plainB_inv Tryz.underlying4 hv; exact ⟨c, rfl⟩)
    b r n D left cnt hit h hDone (fun x c kl y w' cnt' hkey hlk hv hat hrg hlt hgr hsz hen => by
      obtain ⟨x', ex, rfl, hwx⟩ := keyS_inv hkey
      have : x = x' := by simpa using ex
      subst this
      obtain ⟨c', ec, rfl⟩ := plainB_inv Tryz.underlying4 hv
      cases ec
      exact hMore x (.bool c) w' cnt' hwx hlk ⟨c, rfl, hat⟩ hrg hlt hgr hsz hen)
/-- the step of a range over a map of numbers -/
theorem next_si (hg : o.guard = none) (it : Operand) (hop : o.op = Op.next it false) (b r n : Nat) (D : DataW Unit) (left : Lit → Bool) (cnt : Nat)
    (hit : a.eval it = .pointer (some ⟨r, 0, none⟩)) (h : w.ranges Tryz.prog 9 (plainElem Tryz.prog 3) b r n D left cnt)
    (hDone : cnt = 0 → (∀ kl, left kl = false) → wpList Tryz.prog ops Q rest (a.put o.dst (.tuple #[.bool false])) w)
    (hMore : ∀ (x : List UInt8) (c : Int) (w' : World) (cnt' : Nat), x.length ≤ maxLen → (Lit.int .i64 c).wf = true → left (.string x) = true → (∀ zd, D.atKey (.string x) zd = .lit (.int .i64 c)) → w'.ranges Tryz.prog 9 (plainElem Tryz.prog 3) b r n D (fun z => left z && !z.sameKey (.string x)) cnt' → cnt' < cnt →
      w.grownBy w' (some r) → w'.heap.size = w.heap.size → (Instr.entry (.pointer (some ⟨r, 0, none⟩))).run Tryz.prog w' = .ok (.tuple #[.string ⟨x.toArray⟩, .int .i64 c]) w' → wpList Tryz.prog ops Q rest (a.put o.dst (.tuple #[.bool true, .string ⟨x.toArray⟩, .int .i64 c])) w') :
    wpList Tryz.prog ops Q (o :: rest) a w :=
  wpList_next_ranges w hg it hop 9 lawS (plainElem Tryz.prog 3) (fun x : List UInt8 => .string ⟨x.toArray⟩) (Value.int .i64) (fun key kl hkey => by obtain ⟨x, rfl, _⟩ := keyS_inv hkey; exact ⟨x, rfl⟩) (fun v y hv => by obtain ⟨c, rfl, _⟩ := plainElem_int_inv Tryz.underlying3 hv; exact ⟨c, rfl⟩)
    b r n D left cnt hit h hDone (fun x c kl y w' cnt' hkey hlk hv hat hrg hlt hgr hsz hen => by
      obtain ⟨x', ex, rfl, hwx⟩ := keyS_inv hkey
      have : x = x' := by simpa using ex
      subst this
      obtain ⟨c', ec, rfl, hwc⟩ := plainElem_int_inv Tryz.underlying3 hv
      cases ec
      exact hMore x c w' cnt' hwx hwc hlk hat hrg hlt hgr hsz hen)
end
/-- what agrees at the end tells the same -/
theorem DB.end_ {Dout D0 : DataW Unit} {f : List UInt8 → Bool} (h : DB D0 f) (e : Dout = D0) : DB Dout f := by rw [e]; exact h
end Rf
end
section
open Go.RowKit
namespace R2
/-- how many of the first k are true -/
def cnt (bs : List Bool) (k : Nat) : Nat := ((bs.take k).filter id).length
theorem cnt_succ (bs : List Bool) (k : Nat) (h : k < bs.length) : cnt bs (k + 1) = cnt bs k + (if bs[k] then 1 else 0) := by
  unfold cnt
  rw [List.take_succ_eq_append_getElem h, List.filter_append, List.length_append]
  cases bs[k] <;> rfl
theorem cnt_le (bs : List Bool) (k : Nat) : cnt bs k ≤ k := by
  unfold cnt
  have h1 := List.length_filter_le id (bs.take k)
  rw [List.length_take] at h1
  omega
theorem cnt_all (bs : List Bool) : ((cnt bs bs.length : Int) == (bs.length : Int)) = bs.all id := by
  unfold cnt
  rw [List.take_length]
  induction bs with
  | nil => rfl
  | cons a r ih =>
    have hle := List.length_filter_le id r
    cases a with
    | true =>
      simp only [List.filter_cons, id, if_true, List.length_cons, List.all_cons, Bool.true_and]
      rw [← ih]
      by_cases h : (r.filter id).length = r.length
      · rw [beq_iff_eq.2 (show ((r.filter id).length : Int) = (r.length : Int) by omega), beq_iff_eq.2 (by omega)]
      · rw [beq_eq_false_iff_ne.2 (show ((r.filter id).length : Int) ≠ (r.length : Int) by omega), beq_eq_false_iff_ne.2 (by omega)]
    | false =>
      simp only [List.filter_cons, id, Bool.false_eq_true, if_false, List.length_cons, List.all_cons, Bool.false_and]
      exact beq_eq_false_iff_ne.2 (by omega)
theorem cnt_any (bs : List Bool) : decide ((0 : Int) < (cnt bs bs.length : Int)) = bs.any id := by
  unfold cnt
  rw [List.take_length]
  induction bs with
  | nil => rfl
  | cons a r ih =>
    cases a with
    | true =>
      simp only [List.filter_cons, id, if_true, List.length_cons, List.any_cons, Bool.true_or]
      exact decide_eq_true (by omega)
    | false =>
      simp only [List.filter_cons, id, Bool.false_eq_true, if_false, List.any_cons, Bool.false_or]
      exact ih
/-- a closure that tells of some names whether they are so -/
def Tells (D : List UInt8 → Prop) (f : Value) (p : List UInt8 → Bool) (w : World) : Prop :=
  ∃ K c d, f = .func (.func K) #[] #[c, d] ∧ Entered K ∧ ∀ (W : World), Below w.heap.size w W → ∀ nm : List UInt8, D nm → Calls Tryz.prog K #[.string ⟨nm.toArray⟩, c, d] W fun e W' => e = .returned (.bool (p nm)) ∧ Below W.heap.size W W'
theorem Tells.below {D : List UInt8 → Prop} {f : Value} {p : List UInt8 → Bool} {w w' : World} (h : Tells D f p w) (hb : Below w.heap.size w w') : Tells D f p w' := by
  obtain ⟨K, c, d, h1, h2, h3⟩ := h
  exact ⟨K, c, d, h1, h2, fun W hW => h3 W (hb.trans (hW.mono hb.size))⟩
/-- Eval, at this expression -/
def EvalRK (D : List UInt8 → Prop) (x : Ex) : Prop := ∀ (g : Nat) (fi fw : Value) (is was : List UInt8 → Bool) (w : World), (∀ n, n ∈ x.named true → D n) → IsRx (fun _ => True) w x g → Tells D fi is w → Tells D fw was w →
  Calls Tryz.prog 33 #[.pointer (some ⟨g, 0, none⟩), fi, fw] w fun e w' => e = .returned (.bool (x.eval is was)) ∧ Below w.heap.size w w'
set_option maxHeartbeats 4000000 in
set_option maxRecDepth 100000 in
theorem reval_any (D : List UInt8 → Prop) (x : Ex) : EvalRK D x := by
  induction x using Ex.ind with
  | h k nm l ih =>
    intro g fi fw is was w hD h hi hw
    have HIH := hide ih
    have HI := hide hi
    have HW := hide hw
    obtain ⟨Ki, ci, di, hfi, hei, hti⟩ := hi
    obtain ⟨Kw, cw, dw, hfw, hew, htw⟩ := hw
    have HTI := hide hti
    have HTW := hide htw
    have HSUB : Hid ((k ≠ 2 ∧ k ≠ 3 ∧ k ≠ 4) → ∀ y, y ∈ l → ∀ n, n ∈ y.named true → D n) := fun hk y hy n hn => hD n (by
      rw [Ex.named_of _ _ _ _ hk, List.mem_flatten]
      exact ⟨_, List.mem_map_of_mem hy, hn⟩)
    have HDN : Hid ((k = 2 ∨ k = 3 ∨ k = 4) → D nm) := fun hk => hD nm (by
      rcases hk with rfl | rfl | rfl
      · rw [Ex.named2]; simp
      · rw [Ex.named3]; simp
      · rw [Ex.named4]; simp)
    have hei' : ∀ (args : Array Value) (w : World), (callFunc Ki args).run Tryz.prog w = .ok (.enter Ki args) w := hei
    have hew' : ∀ (args : Array Value) (w : World), (callFunc Kw args).run Tryz.prog w = .ok (.enter Kw args) w := hew
    subst hfi
    subst hfw
    clear hti htw hei hew ih hD
    rw [IsRx.def] at h
    obtain ⟨_, hwf, hln, hk, hn, sv, hsv, hof⟩ := h
    have HKD := hide hk
    clear hk
    match k, hwf, HKD, HSUB, HDN with
    | 0, _, HKD, HSUB, HDN =>
      have HBX : Hid (Below w.heap.size w w) := Below.refl _ _
      have HF : Hid ((⟨0, nm, l⟩ : Ex).eval is was = false) := by show _ = _; simp [Ex.eval]
      have hk := HKD.out
      simp only [kindS] at hk
      clear hof
      go_enter Tryz.func33, Tryz.ntmps33
      go_wp2_with fail
      go_ret
      exact ⟨ret_bool HF.out.symm, HBX.out⟩
    | 1, _, HKD, HSUB, HDN =>
      have HBX : Hid (Below w.heap.size w w) := Below.refl _ _
      have HF : Hid ((⟨1, nm, l⟩ : Ex).eval is was = true) := by show _ = _; simp [Ex.eval]
      have hk := HKD.out
      simp only [kindS] at hk
      clear hof
      go_enter Tryz.func33, Tryz.ntmps33
      go_wp2_with fail
      go_ret
      exact ⟨ret_bool HF.out.symm, HBX.out⟩
    | 2, _, HKD, HSUB, HDN =>
      have HF : Hid ((⟨2, nm, l⟩ : Ex).eval is was = is nm) := by show _ = _; simp [Ex.eval]
      have HC := hide (fun W hW => HTI.out W hW nm (HDN.out (by simp)))
      have hk := HKD.out
      simp only [kindS] at hk
      clear hof
      go_enter Tryz.func33, Tryz.ntmps33
      go_wp2_with fail
      refine (HC.out w (Below.refl _ _)).mono ?_
      rintro e w1 ⟨rfl, hb1⟩
      have HBX := hide hb1
      clear hb1
      go_wp2_with fail
      go_ret
      exact ⟨ret_bool HF.out.symm, HBX.out⟩
    | 3, _, HKD, HSUB, HDN =>
      have HF : Hid ((⟨3, nm, l⟩ : Ex).eval is was = (is nm && !was nm)) := by show _ = _; simp [Ex.eval]
      have HC := hide (fun W hW => HTI.out W hW nm (HDN.out (by simp)))
      have HD := hide (fun W hW => HTW.out W hW nm (HDN.out (by simp)))
      generalize is nm = bi at *
      generalize was nm = bw at *
      have hk := HKD.out
      simp only [kindS] at hk
      clear hof
      cases bi with
      | false =>
        go_enter Tryz.func33, Tryz.ntmps33
        go_wp2_with fail
        refine (HC.out w (Below.refl _ _)).mono ?_
        rintro e w1 ⟨rfl, hb1⟩
        have HBX := hide hb1
        clear hb1
        go_wp2_with fail
        go_ret
        exact ⟨ret_bool HF.out.symm, HBX.out⟩
      | true =>
        go_enter Tryz.func33, Tryz.ntmps33
        go_wp2_with fail
        refine (HC.out w (Below.refl _ _)).mono ?_
        rintro e w1 ⟨rfl, hb1⟩
        have HB1 := hide hb1
        have hkA := (hb1.cell (World.block_lt_of_cell? _ _ hk)).trans hk
        have hnA := (hb1.cell (World.block_lt_of_cell? _ _ hn)).trans hn
        clear hb1
        go_wp2_with fail
        refine (HD.out w1 HB1.out).mono ?_
        rintro e w2 ⟨rfl, hb2⟩
        have HBX := hide (HB1.out.trans (hb2.mono HB1.out.size))
        clear hb2
        go_wp2_with fail
        go_ret
        exact ⟨ret_bool (by rw [HF.out]; rfl), HBX.out⟩
    | 4, _, HKD, HSUB, HDN =>
      have HF : Hid ((⟨4, nm, l⟩ : Ex).eval is was = (!is nm && was nm)) := by show _ = _; simp [Ex.eval]
      have HC := hide (fun W hW => HTI.out W hW nm (HDN.out (by simp)))
      have HD := hide (fun W hW => HTW.out W hW nm (HDN.out (by simp)))
      generalize is nm = bi at *
      generalize was nm = bw at *
      have hk := HKD.out
      simp only [kindS] at hk
      clear hof
      cases bw with
      | false =>
        go_enter Tryz.func33, Tryz.ntmps33
        go_wp2_with fail
        refine (HD.out w (Below.refl _ _)).mono ?_
        rintro e w1 ⟨rfl, hb1⟩
        have HBX := hide hb1
        clear hb1
        go_wp2_with fail
        go_ret
        exact ⟨ret_bool (by rw [HF.out]; cases bi <;> rfl), HBX.out⟩
      | true =>
        go_enter Tryz.func33, Tryz.ntmps33
        go_wp2_with fail
        refine (HD.out w (Below.refl _ _)).mono ?_
        rintro e w1 ⟨rfl, hb1⟩
        have HB1 := hide hb1
        have hkA := (hb1.cell (World.block_lt_of_cell? _ _ hk)).trans hk
        have hnA := (hb1.cell (World.block_lt_of_cell? _ _ hn)).trans hn
        clear hb1
        go_wp2_with fail
        refine (HC.out w1 HB1.out).mono ?_
        rintro e w2 ⟨rfl, hb2⟩
        have HBX := hide (HB1.out.trans (hb2.mono HB1.out.size))
        clear hb2
        go_wp2_with fail
        go_ret
        exact ⟨ret_bool (by rw [HF.out]; cases bi <;> rfl), HBX.out⟩
    | 5, hwf, HKD, HSUB, HDN =>
      have hl1 : l.length = 1 := by
        rcases hwf with h | h | h | h <;> omega
      have hk := HKD.out
      simp only [kindS] at hk
      match l, hl1, hof, HIH with
      | [y], _, hof, HIH =>
        rcases hof with ⟨h0, _⟩ | ⟨_, b, cap, rfl, hcap, _, hrow⟩
        · simp at h0
        · obtain ⟨gy, hcell, hy⟩ := hrow 0 _ rfl
          have HF : Hid ((⟨5, nm, [y]⟩ : Ex).eval is was = !(y.eval is was)) := by show _ = _; simp [Ex.eval]
          have HC := hide (HIH.out y (by simp) gy _ _ is was w (HSUB.out ⟨by decide, by decide, by decide⟩ y (by simp)) hy HI.out HW.out)
          clear hrow hy
          simp only [List.length_singleton] at hsv hcap
          generalize y.eval is was = bv at *
          go_enter Tryz.func33, Tryz.ntmps33
          go_wp2_with fail
          refine HC.out.mono ?_
          rintro e w1 ⟨rfl, hb1⟩
          have HBX := hide hb1
          clear hb1
          go_wp2_with fail
          go_ret
          exact ⟨ret_bool HF.out.symm, HBX.out⟩
    | 6, hwf, HKD, HSUB, HDN =>
      have hk := HKD.out
      simp only [kindS] at hk
      have h2 : 2 ≤ l.length := by rcases hwf with h | h | h | h <;> omega
      rcases hof with ⟨h0, _⟩ | ⟨_, b, cap, rfl, hcap, _, hrow⟩
      · omega
      · have HROW := hide hrow
        obtain ⟨bs, hbs⟩ : ∃ bs, bs = l.map fun x => x.eval is was := ⟨_, rfl⟩
        have HF : Hid ((⟨6, nm, l⟩ : Ex).eval is was = bs.all id) := by show _ = _; rw [hbs]; simp [Ex.eval]
        have HBS := hide hbs
        obtain ⟨n, hn'⟩ : ∃ n, n = l.length := ⟨_, rfl⟩
        have HN := hide hn'
        have HBN : Hid (bs.length = n) := by show _ = _; rw [hbs, hn']; simp
        rw [← hn'] at hcap h2 hsv hln
        clear hn' hrow hwf hbs
        go_enter Tryz.func33, Tryz.ntmps33
        go_wp2_with fail
        go_loopw [78, 7] (fun i acc wr => ∃ k : Nat, k ≤ n ∧ i = .int .i64 (k : Int) ∧ acc = .int .i64 (cnt bs k : Int) ∧ Hid (Below w.heap.size w wr)) (fun i _ _ => n - (intOf i).toNat)
        case atStart => exact ⟨0, Nat.zero_le _, rfl, rfl, Below.refl _ _⟩
        case round =>
          obtain ⟨j, hj, rfl, rfl, HBR⟩ := hrel
          have hkR := (HBR.out.cell (World.block_lt_of_cell? _ _ hk)).trans hk
          have hsvR := (HBR.out.cell (World.block_lt_of_cell? _ _ hsv)).trans hsv
          by_cases hlt : j < n
          · have hjl : j < l.length := by rw [← HN.out]; exact hlt
            have hjb : j < bs.length := by rw [HBN.out]; exact hlt
            obtain ⟨gy, hcell0, hxu0⟩ := HROW.out j (IsRx (fun _ => True) w l[j]) (by rw [List.getElem?_map, List.getElem?_eq_getElem hjl]; rfl)
            have hcell := (HBR.out.cell (World.block_lt_of_cell? _ _ hcell0)).trans hcell0
            have hxu : IsRx (fun _ => True) wr l[j] gy := IsRx.later hxu0 HBR.out
            clear hcell0 hxu0
            have HC := hide (HIH.out l[j] (List.getElem_mem hjl) gy _ _ is was wr (HSUB.out ⟨by decide, by decide, by decide⟩ l[j] (List.getElem_mem hjl)) hxu (HI.out.below HBR.out) (HW.out.below HBR.out))
            have hev : bs[j] = l[j].eval is was := by simp [HBS.out]
            have HS := hide (cnt_succ bs j hjb)
            have hcl := cnt_le bs j
            rw [← hev] at HC
            clear hxu hev
            generalize bs[j] = bj at *
            generalize hA : cnt bs j = A at *
            generalize hA2 : cnt bs (j + 1) = A2 at *
            have HA2 := hide hA2
            clear hA hA2 hjl hjb
            cases bj with
            | true =>
              go_wp2_with fail
              refine HC.out.mono ?_
              rintro e w2 ⟨rfl, hb2⟩
              have HB2 := hide (HBR.out.trans (hb2.mono HBR.out.size))
              clear hb2
              go_wp2_with fail
              go_roundw
              case rel => exact ⟨j + 1, by omega, by go_num, by rw [HA2.out, HS.out]; simp, HB2.out⟩
              case measure => simp [intOf]; omega
            | false =>
              go_wp2_with fail
              refine HC.out.mono ?_
              rintro e w2 ⟨rfl, hb2⟩
              have HB2 := hide (HBR.out.trans (hb2.mono HBR.out.size))
              clear hb2
              go_wp2_with fail
              go_roundw
              case rel => exact ⟨j + 1, by omega, by go_num, by rw [HA2.out, HS.out]; simp, HB2.out⟩
              case measure => simp [intOf]; omega
          · have hjn : j = n := by omega
            subst hjn
            have hcl := cnt_le bs j
            have HC1 : Hid (((cnt bs j : Int) == (j : Int)) = bs.all id) := by show _ = _; have := cnt_all bs; rw [HBN.out] at this; exact this
            generalize cnt bs j = A at *
            go_wp2_with fail
            go_ret
            exact ⟨ret_bool (by rw [HF.out]; exact HC1.out), HBR.out⟩
    | 7, hwf, HKD, HSUB, HDN =>
      have hk := HKD.out
      simp only [kindS] at hk
      have h2 : 2 ≤ l.length := by rcases hwf with h | h | h | h <;> omega
      rcases hof with ⟨h0, _⟩ | ⟨_, b, cap, rfl, hcap, _, hrow⟩
      · omega
      · have HROW := hide hrow
        obtain ⟨bs, hbs⟩ : ∃ bs, bs = l.map fun x => x.eval is was := ⟨_, rfl⟩
        have HF : Hid ((⟨7, nm, l⟩ : Ex).eval is was = bs.any id) := by show _ = _; rw [hbs]; simp [Ex.eval]
        have HBS := hide hbs
        obtain ⟨n, hn'⟩ : ∃ n, n = l.length := ⟨_, rfl⟩
        have HN := hide hn'
        have HBN : Hid (bs.length = n) := by show _ = _; rw [hbs, hn']; simp
        rw [← hn'] at hcap h2 hsv hln
        clear hn' hrow hwf hbs
        go_enter Tryz.func33, Tryz.ntmps33
        go_wp2_with fail
        go_loopw [78, 7] (fun i acc wr => ∃ k : Nat, k ≤ n ∧ i = .int .i64 (k : Int) ∧ acc = .int .i64 (cnt bs k : Int) ∧ Hid (Below w.heap.size w wr)) (fun i _ _ => n - (intOf i).toNat)
        case atStart => exact ⟨0, Nat.zero_le _, rfl, rfl, Below.refl _ _⟩
        case round =>
          obtain ⟨j, hj, rfl, rfl, HBR⟩ := hrel
          have hkR := (HBR.out.cell (World.block_lt_of_cell? _ _ hk)).trans hk
          have hsvR := (HBR.out.cell (World.block_lt_of_cell? _ _ hsv)).trans hsv
          by_cases hlt : j < n
          · have hjl : j < l.length := by rw [← HN.out]; exact hlt
            have hjb : j < bs.length := by rw [HBN.out]; exact hlt
            obtain ⟨gy, hcell0, hxu0⟩ := HROW.out j (IsRx (fun _ => True) w l[j]) (by rw [List.getElem?_map, List.getElem?_eq_getElem hjl]; rfl)
            have hcell := (HBR.out.cell (World.block_lt_of_cell? _ _ hcell0)).trans hcell0
            have hxu : IsRx (fun _ => True) wr l[j] gy := IsRx.later hxu0 HBR.out
            clear hcell0 hxu0
            have HC := hide (HIH.out l[j] (List.getElem_mem hjl) gy _ _ is was wr (HSUB.out ⟨by decide, by decide, by decide⟩ l[j] (List.getElem_mem hjl)) hxu (HI.out.below HBR.out) (HW.out.below HBR.out))
            have hev : bs[j] = l[j].eval is was := by simp [HBS.out]
            have HS := hide (cnt_succ bs j hjb)
            have hcl := cnt_le bs j
            rw [← hev] at HC
            clear hxu hev
            generalize bs[j] = bj at *
            generalize hA : cnt bs j = A at *
            generalize hA2 : cnt bs (j + 1) = A2 at *
            have HA2 := hide hA2
            clear hA hA2 hjl hjb
            cases bj with
            | true =>
              go_wp2_with fail
              refine HC.out.mono ?_
              rintro e w2 ⟨rfl, hb2⟩
              have HB2 := hide (HBR.out.trans (hb2.mono HBR.out.size))
              clear hb2
              go_wp2_with fail
              go_roundw
              case rel => exact ⟨j + 1, by omega, by go_num, by rw [HA2.out, HS.out]; simp, HB2.out⟩
              case measure => simp [intOf]; omega
            | false =>
              go_wp2_with fail
              refine HC.out.mono ?_
              rintro e w2 ⟨rfl, hb2⟩
              have HB2 := hide (HBR.out.trans (hb2.mono HBR.out.size))
              clear hb2
              go_wp2_with fail
              go_roundw
              case rel => exact ⟨j + 1, by omega, by go_num, by rw [HA2.out, HS.out]; simp, HB2.out⟩
              case measure => simp [intOf]; omega
          · have hjn : j = n := by omega
            subst hjn
            have hcl := cnt_le bs j
            have HC1 : Hid (decide ((0 : Int) < (cnt bs j : Int)) = bs.any id) := by show _ = _; have := cnt_any bs; rw [HBN.out] at this; exact this
            generalize cnt bs j = A at *
            cases hba : bs.any id with
            | true =>
              have h0 : (0 : Int) < (A : Int) := by have := HC1.out; rw [hba] at this; exact of_decide_eq_true this
              go_wp2_with fail
              go_ret
              exact ⟨ret_bool (by rw [HF.out, hba]), HBR.out⟩
            | false =>
              have h0 : ¬ (0 : Int) < (A : Int) := by have := HC1.out; rw [hba] at this; exact of_decide_eq_false this
              have h1 : ((0 : Int) == (j : Int)) = false := beq_eq_false_iff_ne.2 (by omega)
              go_wp2_with fail
              go_ret
              exact ⟨ret_bool (by rw [HF.out, hba]), HBR.out⟩
    | n + 8, hwf, _, _, _ => rcases hwf with h | h | h | h <;> omega
end R2
end
end Go.Proofs.YtkpfahbodlfpiaaGreatDoor
