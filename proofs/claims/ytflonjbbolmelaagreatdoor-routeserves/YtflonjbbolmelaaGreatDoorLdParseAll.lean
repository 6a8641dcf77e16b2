/-
  The walks of package scan's told and its closure. The walk of package scan's step. Plain mathematics of chapter 2: a program's text (2.3), reading one (2.4). Nothing of the program is named here.
-/
import Derived.Test.YtflonjbbolmelaaGreatDoorScStartAll
import Derived.Test.YtflonjbbolmelaaGreatDoorScEval
import Derived.Laws.CopyOwn
import Derived.Laws.CopyRow
import Derived.Laws.IdiomCopy
import Derived.Test.YtflonjbbolmelaaGreatDoorLdMathAll
import Derived.Lib.AtoiAll
import Derived.Lib.ItoaNum
namespace Go.Proofs.YtflonjbbolmelaaGreatDoor
section
open Go.RowKit
theorem told_any (nv rv lv : Value) (w : World) (hn : ∃ a n c, nv = .slice a n c) (hr : ∃ a n c, rv = .slice a n c) (hl : ∃ a n c, lv = .slice a n c) :
    Calls Tryz.prog 45 #[.agg #[nv, rv], lv] w fun e w' => e = .returned (.func (.func 61) #[] #[.pointer (some ⟨w.heap.size, 0, none⟩), .pointer (some ⟨w.heap.size + 1, 0, none⟩)]) ∧ w' = (w.alloc (.cells #[nv, rv] 29)).alloc (.cells #[lv] 39) := by
  have hmf : ∀ (fn : Fn) (first cap : Array Value) (w : World), (Instr.makeFunc fn first cap).run Tryz.prog w = .ok (.func fn first cap) w := fun _ _ _ _ => rfl
  obtain ⟨a1, n1, c1, rfl⟩ := hn
  obtain ⟨a2, n2, c2, rfl⟩ := hr
  obtain ⟨a3, n3, c3, rfl⟩ := hl
  go_enter Tryz.func45, Tryz.ntmps45
  go_wp2_with fail
  go_ret
  exact ⟨rfl, rfl⟩
set_option maxHeartbeats 2000000 in
set_option maxRecDepth 100000 in
theorem told1_any (ns : List Ld.Nme) (nv rv : Value) (is : List Bool) (gi a b : Nat) (nm : List UInt8) (w : World) (hn : NamesAt w nv ns) (hr : ∃ a n c, rv = .slice a n c) (hlen : is.length = ns.length)
    (h0 : w.cell? ⟨a, 0, none⟩ = some nv) (h1 : w.cell? ⟨a, 1, none⟩ = some rv) (h2 : w.cell? ⟨b, 0, none⟩ = some (.slice (some ⟨gi, 0, none⟩) is.length is.length)) (hi : w.heap[gi]? = some (.cells ⟨is.map boolV⟩ 4 (0, 0))) :
    Calls Tryz.prog 61 #[.string ⟨nm.toArray⟩, .pointer (some ⟨a, 0, none⟩), .pointer (some ⟨b, 0, none⟩)] w fun e w' => e = .returned (.bool (Sc.told ns is nm)) ∧ Below w.heap.size w w' := by
  obtain ⟨ra, rn, rc, rfl⟩ := hr
  have HNU := hide (Number_any ns nv (.slice ra rn rc) nm w hn ⟨_, _, _, rfl⟩)
  obtain ⟨na, nc, rfl, hn1⟩ := hn.slice
  have hlo := Ld.number_lt ns nm
  have hge := Ld.number_ge ns nm
  have HT : Hid (Sc.told ns is nm = (decide (0 ≤ Ld.number ns nm) && is.getD (Ld.number ns nm).toNat false)) := rfl
  have ha : a < w.heap.size := World.block_lt_of_cell? _ _ h0
  have hb : b < w.heap.size := World.block_lt_of_cell? _ _ h2
  have hg : gi < w.heap.size := (Array.getElem?_eq_some_iff.1 hi).1
  have HI := hide hi
  have H2 := hide h2
  generalize Sc.told ns is nm = T at *
  generalize Ld.number ns nm = u at *
  rw [hlen] at H2 h2
  generalize ns.length = m at *
  clear hi hn
  go_enter Tryz.func61, Tryz.ntmps61
  go_wp2_with fail
  refine HNU.out.mono ?_
  rintro e w1 ⟨rfl, hb1⟩
  have HB1 := hide hb1
  have k2 := (hb1.cell (p := ⟨b, 0, none⟩) hb).trans H2.out
  by_cases hu : 0 ≤ u
  · obtain ⟨j, rfl⟩ : ∃ j : Nat, u = (j : Int) := ⟨u.toNat, by omega⟩
    have hj : j < m := by omega
    have k3 : w1.cell? ⟨gi, j, none⟩ = some (.bool (is.getD j false)) := by
      rw [hb1.cell (p := ⟨gi, j, none⟩) hg, Lib.cell_of_heap HI.out]
      simp [boolV, hlen, hj]
    simp only [Int.toNat_natCast] at HT
    generalize is.getD j false = bv at *
    clear hb1 HNU
    go_wp2_with fail
    go_ret
    exact ⟨ret_bool (by rw [HT.out]; simp), HB1.out⟩
  · clear hb1 HNU
    have HD : Hid (decide (0 ≤ u) = false) := by show _ = _; simpa using hu
    go_wp2_with fail
    go_ret
    exact ⟨ret_bool (by rw [HT.out, HD.out]; rfl), HB1.out⟩
/-- the closure that told makes, asked later -/
theorem tells_told (ns : List Ld.Nme) (nv rv : Value) (is : List Bool) (gi a b : Nat) (w : World) (hn : NamesAt w nv ns) (hr : ∃ a n c, rv = .slice a n c) (hlen : is.length = ns.length)
    (h0 : w.cell? ⟨a, 0, none⟩ = some nv) (h1 : w.cell? ⟨a, 1, none⟩ = some rv) (h2 : w.cell? ⟨b, 0, none⟩ = some (.slice (some ⟨gi, 0, none⟩) is.length is.length)) (hi : w.heap[gi]? = some (.cells ⟨is.map boolV⟩ 4 (0, 0))) :
    E2.Tells (.func (.func 61) #[] #[.pointer (some ⟨a, 0, none⟩), .pointer (some ⟨b, 0, none⟩)]) (Sc.told ns is) w :=
  ⟨61, _, _, rfl, fun _ _ => by kernel_rfl, fun W hW nm => told1_any ns nv rv is gi a b nm W (hn.below hW) hr hlen ((hW.cell (p := ⟨a, 0, none⟩) (World.block_lt_of_cell? _ _ h0)).trans h0) ((hW.cell (p := ⟨a, 1, none⟩) (World.block_lt_of_cell? _ _ h1)).trans h1) ((hW.cell (p := ⟨b, 0, none⟩) (World.block_lt_of_cell? _ _ h2)).trans h2) ((hW.block _ (Array.getElem?_eq_some_iff.1 hi).1).trans hi)⟩
end
section
open Go.RowKit
/-- a slice of bools -/
def Bools (w : World) (v : Value) (l : List Bool) : Prop := ∃ a cap, v = .slice a l.length cap ∧ l.length ≤ 1000000 ∧ ∀ (i : Nat) b, l[i]? = some b → ∃ g, a = some ⟨g, 0, none⟩ ∧ w.cell? ⟨g, i, none⟩ = some (.bool b)
theorem Bools.below {w w' : World} {v : Value} {l : List Bool} (h : Bools w v l) (hb : Below w.heap.size w w') : Bools w' v l := by
  obtain ⟨a, cap, h1, h2, h3⟩ := h
  refine ⟨a, cap, h1, h2, fun i b hi => ?_⟩
  obtain ⟨g, h4, h5⟩ := h3 i b hi
  exact ⟨g, h4, (hb.cell (World.block_lt_of_cell? _ _ h5)).trans h5⟩
namespace Sc
/-- inputs are read, the first k of them -/
def readsTo (l : List Nat) (inp is : List Bool) (k : Nat) : List Bool := ((l.zip inp).take k).foldl (fun acc p => acc.set p.1 p.2) is
theorem readsTo_zero (l : List Nat) (inp is : List Bool) : readsTo l inp is 0 = is := rfl
theorem readsTo_all (l : List Nat) (inp is : List Bool) (h : inp.length = l.length) : readsTo l inp is l.length = reads l inp is := by
  unfold readsTo reads
  rw [List.take_of_length_le (by simp [h])]
theorem readsTo_succ (l : List Nat) (inp is : List Bool) (h : inp.length = l.length) (k : Nat) (hk : k < l.length) : readsTo l inp is (k + 1) = (readsTo l inp is k).set l[k] (inp[k]'(by omega)) := by
  unfold readsTo
  rw [List.take_succ_eq_append_getElem (by simp; omega), List.foldl_append]
  simp
theorem readsTo_len (l : List Nat) (inp is : List Bool) : ∀ k, (readsTo l inp is k).length = is.length := by
  have key : ∀ (ps : List (Nat × Bool)) (is : List Bool), (ps.foldl (fun acc p => acc.set p.1 p.2) is).length = is.length := by
    intro ps
    induction ps with
    | nil => intro is; rfl
    | cons a r ih => intro is; rw [List.foldl_cons, ih]; simp
  intro k
  exact key _ _
end Sc
theorem Ld.placesTo_lt (p : Ld.Nme → Bool) (ns : List Ld.Nme) (k i : Nat) (h : i ∈ Ld.placesTo p ns k) : i < k := by
  unfold Ld.placesTo at h
  exact List.mem_range.1 (List.mem_filter.1 h).1
/-- a whole row is copied into another of its length -/
theorem copy_whole (w : World) (dT ty elem : TypeId) (hu : Tryz.prog.underlying dT = some (.slice elem)) (hsz : (Tryz.prog.info? elem).map (·.size) = some 1)
    (g g' n : Nat) (cur cs : List Value) (t t' : TypeId) (hg : w.heap[g]? = some (.cells ⟨cur⟩ t (0, 0))) (hg' : w.heap[g']? = some (.cells ⟨cs⟩ t' (0, 0))) (hc : cur.length = n) (hc' : cs.length = n) (h1 : ∀ v ∈ cs, v.oneCell' = true) :
    ∃ w', (Builtin.copy_ #[dT, dT] ty #[.slice (some ⟨g, 0, none⟩) n n, .slice (some ⟨g', 0, none⟩) n n]).run Tryz.prog w = .ok (goInt n) w' ∧ w'.heap[g]? = some (.cells ⟨cs⟩ t (0, 0)) ∧ (∀ k, k ≠ g → w'.heap[k]? = w.heap[k]?) ∧ w'.heap.size = w.heap.size ∧ w'.os = w.os ∧ w'.tape = w.tape ∧ w'.output = w.output := by
  subst hc'
  by_cases h0 : cs.length = 0
  · obtain rfl : cs = [] := List.eq_nil_of_length_eq_zero h0
    obtain rfl : cur = [] := List.eq_nil_of_length_eq_zero (by simpa using hc)
    exact ⟨w, run_copy_none (P := Tryz.prog) w dT dT ty elem _ _ _ _ _ _ hu hsz (by simp), hg, fun _ _ => rfl, rfl, rfl, rfl, rfl⟩
  · have hr := run_copy_row (P := Tryz.prog) w dT dT ty elem g 0 cs.length cs.length ⟨g', 0, none⟩ cs.length cs.length ⟨cur⟩ t cs hu hsz hg (by simp) (fun j v hj => by
        have e : (⟨g', 0, none⟩ : Addr).add j = ⟨g', j, none⟩ := by
          unfold Addr.add
          split
          · rename_i h; subst h; rfl
          · simp
        rw [e, Lib.cell_of_heap hg' j]
        simpa using hj) (by simp [hc]) h1
    have e : (List.take 0 cur ++ cs ++ List.drop (0 + cs.length) cur).toArray = ⟨cs⟩ := by simp [← hc]
    rw [show (⟨cur⟩ : Array Value).toList = cur from rfl, e] at hr
    exact ⟨_, hr, setRow_heap w g _ _ t _ hg, fun k hk => setRow_other w g k _ hk, by simp [World.setRow], rfl, rfl, rfl⟩
end
section
namespace Ld
/-- a text cut at each c -/
def split (c : UInt8) : List UInt8 → List (List UInt8)
  | [] => [[]]
  | a :: r => if a = c then [] :: split c r else match split c r with
    | [] => [[a]]
    | h :: t => (a :: h) :: t
def words (l : List UInt8) : List (List UInt8) := (split 32 l).filter fun w => !w.isEmpty
/-- each with the place of its first byte -/
def placed : Nat → List (List UInt8) → List (Nat × List UInt8)
  | _, [] => []
  | i, a :: r => (i, a) :: placed (i + a.length + 1) r
def isBlank (l : List UInt8) : Bool := l.all fun c => c == 32
def lns (l : List UInt8) : List (Nat × List UInt8) := (placed 0 (split 10 l)).filter fun p => !isBlank p.2
def nameW : Nat → List UInt8
  | 1 => [105, 110, 112, 117, 116]
  | 2 => [99, 111, 105, 108]
  | 3 => [116, 105, 109, 101, 114]
  | 4 => [99, 111, 117, 110, 116, 101, 114]
  | _ => []
def rungW : Nat → List UInt8
  | 2 => [115, 101, 116]
  | 3 => [114, 101, 115, 101, 116]
  | 4 => [114, 117, 110]
  | 5 => [99, 111, 117, 110, 116]
  | 6 => [122, 101, 114, 111]
  | _ => []
def kindN (w : List UInt8) : Nat := if w = nameW 1 then 1 else if w = nameW 2 then 2 else if w = nameW 3 then 3 else if w = nameW 4 then 4 else 0
def kindG (w : List UInt8) : Nat := if w = rungW 2 then 2 else if w = rungW 3 then 3 else if w = rungW 4 then 4 else if w = rungW 5 then 5 else if w = rungW 6 then 6 else 0
/-- a number, as it would be written -/
def rdCount (w : List UInt8) : Option Int := match Lib.atoiAll w with
  | .ok v => if Lib.itoa v = w then some v else none
  | _ => none
def rdName (l : List (List UInt8)) : Option Nme := match l with
  | [w, nm] => if kindN w = 1 ∨ kindN w = 2 then some ⟨nm, (kindN w : Int), 0⟩ else none
  | [w, nm, c] => if kindN w = 3 ∨ kindN w = 4 then (rdCount c).map fun n => ⟨nm, (kindN w : Int), n⟩ else none
  | _ => none
def rdHead (l : List (List UInt8)) : Option (Nat × List UInt8) := match l with
  | [nm] => some (1, nm)
  | [w, nm] => if kindG w = 0 then none else some (kindG w, nm)
  | _ => none
/-- a line's head, and what stands behind the first = -/
def cutE (l : List UInt8) : Option (List UInt8 × List UInt8) := if l.contains 61 then some (l.takeWhile (fun c => c != 61), (l.dropWhile fun c => c != 61).drop 1) else none
structure Rdg where
  names : List Nme
  rungs : List Rng
  starts : List Nat
def take (r : Rdg) (st : Nat) (line : List UInt8) : (Nat × Nat) ⊕ Rdg := match cutE line with
  | none => match rdName (words line) with
    | none => .inl (3, st)
    | some n => if r.rungs = [] then .inr ⟨r.names ++ [n], r.rungs, r.starts ++ [st]⟩ else .inl (3, st)
  | some (head, t) => match rdHead (words head) with
    | none => .inl (3, st)
    | some (k, nm) => match Ex.parse t with
      | .inl (e, pl) => .inl (e, st + head.length + 1 + pl.getD 0)
      | .inr x => .inr ⟨r.names, r.rungs ++ [⟨(k : Int), nm, some x⟩], r.starts ++ [st]⟩
def takes (r : Rdg) : List (Nat × List UInt8) → (Nat × Nat) ⊕ Rdg
  | [] => .inr r
  | p :: t => match take r p.1 p.2 with
    | .inl e => .inl e
    | .inr r' => takes r' t
/-- what a program that was read comes to -/
def checked (r : Rdg) : (Nat × Option Nat) ⊕ Prg := match check ⟨r.names, r.rungs⟩ with
  | none => .inr ⟨r.names, r.rungs⟩
  | some (e, none) => .inl (e, none)
  | some (e, some i) => .inl (e, some (r.starts.getD i 0))
def parse (l : List UInt8) : (Nat × Option Nat) ⊕ Prg :=
  if 20000 < l.length then .inl (4, none)
  else match takes ⟨[], [], []⟩ (lns l) with
    | .inl (e, p) => .inl (e, some p)
    | .inr r => checked r
def nameT (n : Nme) : List UInt8 := nameW n.kind.toNat ++ [32] ++ n.name ++ (if counted n.kind then 32 :: Lib.itoa n.count else [])
def condT : Option Ex → List UInt8
  | some x => x.text
  | none => []
def headT (r : Rng) : List UInt8 := (if r.kind = 1 then [] else rungW r.kind.toNat ++ [32]) ++ r.name ++ [32]
def rungT (r : Rng) : List UInt8 := headT r ++ [61, 32] ++ condT r.cond
def linesT (p : Prg) : List (List UInt8) := p.names.map nameT ++ p.rungs.map rungT
/-- lines, each with its end -/
def ended (l : List (List UInt8)) : List UInt8 := (l.map fun a => a ++ [10]).flatten
def text (p : Prg) : List UInt8 := if check p = none then ended (linesT p) else []
end Ld
end
end Go.Proofs.YtflonjbbolmelaaGreatDoor
