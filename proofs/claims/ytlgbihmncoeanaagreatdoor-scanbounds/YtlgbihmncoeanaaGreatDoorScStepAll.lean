/-
  The walks of package scan's told and its closure. The walk of package scan's step.
-/
import Derived.Test.YtlgbihmncoeanaaGreatDoorScStartAll
import Derived.Test.YtlgbihmncoeanaaGreatDoorScEval
import Derived.Laws.CopyOwn
import Derived.Laws.CopyRow
import Derived.Laws.IdiomCopy
namespace Go.Proofs.YtlgbihmncoeanaaGreatDoor
section
open Go.RowKit
theorem told_any (nv rv lv : Value) (w : World) (hn : ∃ a n c, nv = .slice a n c) (hr : ∃ a n c, rv = .slice a n c) (hl : ∃ a n c, lv = .slice a n c) :
    Calls Tryz.prog 158 #[.agg #[nv, rv], lv] w fun e w' => e = .returned (.func (.func 216) #[] #[.pointer (some ⟨w.heap.size, 0, none⟩), .pointer (some ⟨w.heap.size + 1, 0, none⟩)]) ∧ w' = (w.alloc (.cells #[nv, rv] 28)).alloc (.cells #[lv] 83) := by
  have hmf : ∀ (fn : Fn) (first cap : Array Value) (w : World), (Instr.makeFunc fn first cap).run Tryz.prog w = .ok (.func fn first cap) w := fun _ _ _ _ => rfl
  obtain ⟨a1, n1, c1, rfl⟩ := hn
  obtain ⟨a2, n2, c2, rfl⟩ := hr
  obtain ⟨a3, n3, c3, rfl⟩ := hl
  go_enter Tryz.func158, Tryz.ntmps158
  go_wp2_with fail
  go_ret
  exact ⟨rfl, rfl⟩
set_option maxHeartbeats 2000000 in
set_option maxRecDepth 100000 in
theorem told1_any (ns : List Ld.Nme) (nv rv : Value) (is : List Bool) (gi a b : Nat) (nm : List UInt8) (w : World) (hn : NamesAt w nv ns) (hr : ∃ a n c, rv = .slice a n c) (hlen : is.length = ns.length)
    (h0 : w.cell? ⟨a, 0, none⟩ = some nv) (h1 : w.cell? ⟨a, 1, none⟩ = some rv) (h2 : w.cell? ⟨b, 0, none⟩ = some (.slice (some ⟨gi, 0, none⟩) is.length is.length)) (hi : w.heap[gi]? = some (.cells ⟨is.map boolV⟩ 4 (0, 0))) :
    Calls Tryz.prog 216 #[.string ⟨nm.toArray⟩, .pointer (some ⟨a, 0, none⟩), .pointer (some ⟨b, 0, none⟩)] w fun e w' => e = .returned (.bool (Sc.told ns is nm)) ∧ Below w.heap.size w w' := by
  obtain ⟨ra, rn, rc, rfl⟩ := hr
  have HNU := hide (Number_any ns nv (.slice ra rn rc) nm w hn ⟨_, _, _, rfl⟩)
  obtain ⟨na, nc, rfl, hn1⟩ := hn.slice
  have hlo := Ld.number_lt ns nm
  have hge := Ld.number_ge ns nm
  have HT : Hid (Sc.told ns is nm = (decide (0 ≤ Ld.number ns nm) && is.getD (Ld.number ns nm).toNat false)) := rfl
  have ha : a < w.heap.size := World.block_lt_of_cell? _ _ h0
  have hb : b < w.heap.size := World.block_lt_of_cell? _ _ h2
  have hg : gi < w.heap.size := (Array.getElem?_eq_some_iff.1 hi).1
  have HI := hide hi
  have H2 := hide h2
  generalize Sc.told ns is nm = T at *
  generalize Ld.number ns nm = u at *
  rw [hlen] at H2 h2
  generalize ns.length = m at *
  clear hi hn
  go_enter Tryz.func216, Tryz.ntmps216
  go_wp2_with fail
  refine HNU.out.mono ?_
  rintro e w1 ⟨rfl, hb1⟩
  have HB1 := hide hb1
  have k2 := (hb1.cell (p := ⟨b, 0, none⟩) hb).trans H2.out
  by_cases hu : 0 ≤ u
  · obtain ⟨j, rfl⟩ : ∃ j : Nat, u = (j : Int) := ⟨u.toNat, by omega⟩
    have hj : j < m := by omega
    have k3 : w1.cell? ⟨gi, j, none⟩ = some (.bool (is.getD j false)) := by
      rw [hb1.cell (p := ⟨gi, j, none⟩) hg, Lib.cell_of_heap HI.out]
      simp [boolV, hlen, hj]
    simp only [Int.toNat_natCast] at HT
    generalize is.getD j false = bv at *
    clear hb1 HNU
    go_wp2_with fail
    go_ret
    exact ⟨ret_bool (by rw [HT.out]; simp), HB1.out⟩
  · clear hb1 HNU
    have HD : Hid (decide (0 ≤ u) = false) := by show _ = _; simpa using hu
    go_wp2_with fail
    go_ret
    exact ⟨ret_bool (by rw [HT.out, HD.out]; rfl), HB1.out⟩
/-- the closure that told makes, asked later -/
theorem tells_told (ns : List Ld.Nme) (nv rv : Value) (is : List Bool) (gi a b : Nat) (w : World) (hn : NamesAt w nv ns) (hr : ∃ a n c, rv = .slice a n c) (hlen : is.length = ns.length)
    (h0 : w.cell? ⟨a, 0, none⟩ = some nv) (h1 : w.cell? ⟨a, 1, none⟩ = some rv) (h2 : w.cell? ⟨b, 0, none⟩ = some (.slice (some ⟨gi, 0, none⟩) is.length is.length)) (hi : w.heap[gi]? = some (.cells ⟨is.map boolV⟩ 4 (0, 0))) :
    E2.Tells (.func (.func 216) #[] #[.pointer (some ⟨a, 0, none⟩), .pointer (some ⟨b, 0, none⟩)]) (Sc.told ns is) w :=
  ⟨216, _, _, rfl, fun _ _ => by kernel_rfl, fun W hW nm => told1_any ns nv rv is gi a b nm W (hn.below hW) hr hlen ((hW.cell (p := ⟨a, 0, none⟩) (World.block_lt_of_cell? _ _ h0)).trans h0) ((hW.cell (p := ⟨a, 1, none⟩) (World.block_lt_of_cell? _ _ h1)).trans h1) ((hW.cell (p := ⟨b, 0, none⟩) (World.block_lt_of_cell? _ _ h2)).trans h2) ((hW.block _ (Array.getElem?_eq_some_iff.1 hi).1).trans hi)⟩
end
section
open Go.RowKit
/-- a slice of bools -/
def Bools (w : World) (v : Value) (l : List Bool) : Prop := ∃ a cap, v = .slice a l.length cap ∧ l.length ≤ 1000000 ∧ ∀ (i : Nat) b, l[i]? = some b → ∃ g, a = some ⟨g, 0, none⟩ ∧ w.cell? ⟨g, i, none⟩ = some (.bool b)
theorem Bools.below {w w' : World} {v : Value} {l : List Bool} (h : Bools w v l) (hb : Below w.heap.size w w') : Bools w' v l := by
  obtain ⟨a, cap, h1, h2, h3⟩ := h
  refine ⟨a, cap, h1, h2, fun i b hi => ?_⟩
  obtain ⟨g, h4, h5⟩ := h3 i b hi
  exact ⟨g, h4, (hb.cell (World.block_lt_of_cell? _ _ h5)).trans h5⟩
namespace Sc
/-- inputs are read, the first k of them -/
def readsTo (l : List Nat) (inp is : List Bool) (k : Nat) : List Bool := ((l.zip inp).take k).foldl (fun acc p => acc.set p.1 p.2) is
theorem readsTo_zero (l : List Nat) (inp is : List Bool) : readsTo l inp is 0 = is := rfl
theorem readsTo_all (l : List Nat) (inp is : List Bool) (h : inp.length = l.length) : readsTo l inp is l.length = reads l inp is := by
  unfold readsTo reads
  rw [List.take_of_length_le (by simp [h])]
theorem readsTo_succ (l : List Nat) (inp is : List Bool) (h : inp.length = l.length) (k : Nat) (hk : k < l.length) : readsTo l inp is (k + 1) = (readsTo l inp is k).set l[k] (inp[k]'(by omega)) := by
  unfold readsTo
  rw [List.take_succ_eq_append_getElem (by simp; omega), List.foldl_append]
  simp
theorem readsTo_len (l : List Nat) (inp is : List Bool) : ∀ k, (readsTo l inp is k).length = is.length := by
  have key : ∀ (ps : List (Nat × Bool)) (is : List Bool), (ps.foldl (fun acc p => acc.set p.1 p.2) is).length = is.length := by
    intro ps
    induction ps with
    | nil => intro is; rfl
    | cons a r ih => intro is; rw [List.foldl_cons, ih]; simp
  intro k
  exact key _ _
end Sc
theorem Ld.placesTo_lt (p : Ld.Nme → Bool) (ns : List Ld.Nme) (k i : Nat) (h : i ∈ Ld.placesTo p ns k) : i < k := by
  unfold Ld.placesTo at h
  exact List.mem_range.1 (List.mem_filter.1 h).1
/-- a whole row is copied into another of its length -/
theorem copy_whole (w : World) (dT ty elem : TypeId) (hu : Tryz.prog.underlying dT = some (.slice elem)) (hsz : (Tryz.prog.info? elem).map (·.size) = some 1)
    (g g' n : Nat) (cur cs : List Value) (t t' : TypeId) (hg : w.heap[g]? = some (.cells ⟨cur⟩ t (0, 0))) (hg' : w.heap[g']? = some (.cells ⟨cs⟩ t' (0, 0))) (hc : cur.length = n) (hc' : cs.length = n) (h1 : ∀ v ∈ cs, v.oneCell' = true) :
    ∃ w', (Builtin.copy_ #[dT, dT] ty #[.slice (some ⟨g, 0, none⟩) n n, .slice (some ⟨g', 0, none⟩) n n]).run Tryz.prog w = .ok (goInt n) w' ∧ w'.heap[g]? = some (.cells ⟨cs⟩ t (0, 0)) ∧ (∀ k, k ≠ g → w'.heap[k]? = w.heap[k]?) ∧ w'.heap.size = w.heap.size ∧ w'.os = w.os ∧ w'.tape = w.tape ∧ w'.output = w.output := by
  subst hc'
  by_cases h0 : cs.length = 0
  · obtain rfl : cs = [] := List.eq_nil_of_length_eq_zero h0
    obtain rfl : cur = [] := List.eq_nil_of_length_eq_zero (by simpa using hc)
    exact ⟨w, run_copy_none (P := Tryz.prog) w dT dT ty elem _ _ _ _ _ _ hu hsz (by simp), hg, fun _ _ => rfl, rfl, rfl, rfl, rfl⟩
  · have hr := run_copy_row (P := Tryz.prog) w dT dT ty elem g 0 cs.length cs.length ⟨g', 0, none⟩ cs.length cs.length ⟨cur⟩ t cs hu hsz hg (by simp) (fun j v hj => by
        have e : (⟨g', 0, none⟩ : Addr).add j = ⟨g', j, none⟩ := by
          unfold Addr.add
          split
          · rename_i h; subst h; rfl
          · simp
        rw [e, Lib.cell_of_heap hg' j]
        simpa using hj) (by simp [hc]) h1
    have e : (List.take 0 cur ++ cs ++ List.drop (0 + cs.length) cur).toArray = ⟨cs⟩ := by simp [← hc]
    rw [show (⟨cur⟩ : Array Value).toList = cur from rfl, e] at hr
    exact ⟨_, hr, setRow_heap w g _ _ t _ hg, fun k hk => setRow_other w g k _ hk, by simp [World.setRow], rfl, rfl, rfl⟩
end
end Go.Proofs.YtlgbihmncoeanaaGreatDoor
