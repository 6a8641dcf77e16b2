/-
  Plain mathematics of the statement LassoGrows: which formulas may be where the greatest one may, and that what holds is told by now and the next time.
-/
import Derived.Test.YtmdblokmplbpmaaDoorLsMath
namespace Go.Proofs.YtmdblokmplbpmaaDoor
namespace Ls
def nd (k : Int) (l : List Fm) : Fm := ⟨false, k, [], l⟩
theorem ok_nd {k : Int} {l : List Fm} {a : Nat} (ha : a ≤ 19) (h1 : 1 < k) (h2 : k ≤ 10) (h3 : l.length = partsOf k) (h4 : ∀ x, x ∈ l → ok x (a + 1) = true) : ok (nd k l) a = true := by
  unfold nd
  rw [ok_eq, Bool.and_eq_true, List.all_eq_true]
  exact ⟨decide_eq_true (wrongN_mk ha (by omega) h2 h3 (fun _ => rfl) (fun h => by omega)), h4⟩
theorem nd_ok {k : Int} {l : List Fm} {a : Nat} (h : ok (nd k l) a = true) : a ≤ 19 ∧ ∀ x, x ∈ l → ok x (a + 1) = true := by
  unfold nd at h
  rw [ok_eq, Bool.and_eq_true, List.all_eq_true] at h
  exact ⟨(wrongN_zero (of_decide_eq_true h.1)).2.1, h.2⟩
theorem size_nd (k : Int) (l : List Fm) : size (nd k l) = 1 + (l.map size).sum := size_eq _ _ _ _
def big (f g : Fm) : Fm := nd 5 [g, nd 4 [f, nd 6 [nd 7 [f, g]]]]
/-- what is told of the parts where the greatest one may be -/
structure Parts (f g : Fm) : Prop where
  f4 : ok f 4 = true
  g4 : ok g 4 = true
  sz : 2 * size f + 2 * size g + 4 ≤ 100
theorem parts_of {f g : Fm} (h : Fine (big f g)) : Parts f g := by
  obtain ⟨h1, h2⟩ := h
  unfold big at h1 h2
  obtain ⟨_, k1⟩ := nd_ok h1
  obtain ⟨_, k2⟩ := nd_ok (k1 (nd 4 [f, nd 6 [nd 7 [f, g]]]) (by simp))
  obtain ⟨_, k3⟩ := nd_ok (k2 (nd 6 [nd 7 [f, g]]) (by simp))
  obtain ⟨_, k4⟩ := nd_ok (k3 (nd 7 [f, g]) (by simp))
  refine ⟨k4 f (by simp), k4 g (by simp), ?_⟩
  simp only [size_nd, List.map_cons, List.map_nil, List.sum_cons, List.sum_nil] at h2
  omega
theorem fine_nd {k : Int} {l : List Fm} (h1 : 1 < k) (h2 : k ≤ 10) (h3 : l.length = partsOf k) (h4 : ∀ x, x ∈ l → ok x 1 = true) (h5 : size (nd k l) ≤ 100) : Fine (nd k l) := ⟨ok_nd (by omega) h1 h2 h3 h4, h5⟩
section
variable {f g : Fm} (P : Parts f g)
include P
theorem Parts.okf {a : Nat} (h : a ≤ 4) : ok f a = true := ok_fewer f 4 a h P.f4
theorem Parts.okg {a : Nat} (h : a ≤ 4) : ok g a = true := ok_fewer g 4 a h P.g4
omit P in
theorem one_ok (k : Int) (h1 : 1 < k) (h2 : k ≤ 10) (hp : partsOf k = 1) {x : Fm} {a : Nat} (ha : a ≤ 19) (hx : ok x (a + 1) = true) : ok (nd k [x]) a = true := ok_nd ha h1 h2 hp.symm (fun y hy => by obtain rfl := List.mem_singleton.1 hy; exact hx)
omit P in
theorem two_ok (k : Int) (h1 : 1 < k) (h2 : k ≤ 10) (hp : partsOf k = 2) {x y : Fm} {a : Nat} (ha : a ≤ 19) (hx : ok x (a + 1) = true) (hy : ok y (a + 1) = true) : ok (nd k [x, y]) a = true := ok_nd ha h1 h2 hp.symm (fun z hz => by
  rcases List.mem_cons.1 hz with rfl | hz
  · exact hx
  · obtain rfl := List.mem_singleton.1 hz; exact hy)
theorem Parts.until : Fine (nd 7 [f, g]) := by
  refine ⟨two_ok 7 (by decide) (by decide) (by decide) (by omega) (P.okf (by omega)) (P.okg (by omega)), ?_⟩
  have := P.sz
  simp only [size_nd, List.map_cons, List.map_nil, List.sum_cons, List.sum_nil]
  omega
theorem Parts.release : Fine (nd 8 [f, g]) := by
  refine ⟨two_ok 8 (by decide) (by decide) (by decide) (by omega) (P.okf (by omega)) (P.okg (by omega)), ?_⟩
  have := P.sz
  simp only [size_nd, List.map_cons, List.map_nil, List.sum_cons, List.sum_nil]
  omega
theorem Parts.release2 : Fine (nd 4 [g, nd 5 [f, nd 6 [nd 8 [f, g]]]]) := by
  refine ⟨two_ok 4 (by decide) (by decide) (by decide) (by omega) (P.okg (by omega)) (two_ok 5 (by decide) (by decide) (by decide) (by omega) (P.okf (by omega)) (one_ok 6 (by decide) (by decide) (by decide) (by omega) (two_ok 8 (by decide) (by decide) (by decide) (by omega) (P.okf (by omega)) (P.okg (by omega))))), ?_⟩
  have := P.sz
  simp only [size_nd, List.map_cons, List.map_nil, List.sum_cons, List.sum_nil]
  omega
theorem Parts.ever : Fine (nd 9 [f]) := by
  refine ⟨one_ok 9 (by decide) (by decide) (by decide) (by omega) (P.okf (by omega)), ?_⟩
  have := P.sz
  simp only [size_nd, List.map_cons, List.map_nil, List.sum_cons, List.sum_nil]
  omega
theorem Parts.ever2 : Fine (nd 5 [f, nd 6 [nd 9 [f]]]) := by
  refine ⟨two_ok 5 (by decide) (by decide) (by decide) (by omega) (P.okf (by omega)) (one_ok 6 (by decide) (by decide) (by decide) (by omega) (one_ok 9 (by decide) (by decide) (by decide) (by omega) (P.okf (by omega)))), ?_⟩
  have := P.sz
  simp only [size_nd, List.map_cons, List.map_nil, List.sum_cons, List.sum_nil]
  omega
theorem Parts.always : Fine (nd 10 [f]) := by
  refine ⟨one_ok 10 (by decide) (by decide) (by decide) (by omega) (P.okf (by omega)), ?_⟩
  have := P.sz
  simp only [size_nd, List.map_cons, List.map_nil, List.sum_cons, List.sum_nil]
  omega
theorem Parts.always2 : Fine (nd 4 [f, nd 6 [nd 10 [f]]]) := by
  refine ⟨two_ok 4 (by decide) (by decide) (by decide) (by omega) (P.okf (by omega)) (one_ok 6 (by decide) (by decide) (by decide) (by omega) (one_ok 10 (by decide) (by decide) (by decide) (by omega) (P.okf (by omega)))), ?_⟩
  have := P.sz
  simp only [size_nd, List.map_cons, List.map_nil, List.sum_cons, List.sum_nil]
  omega
theorem Parts.always3 : Fine (nd 3 [nd 9 [nd 3 [f]]]) := by
  refine ⟨one_ok 3 (by decide) (by decide) (by decide) (by omega) (one_ok 9 (by decide) (by decide) (by decide) (by omega) (one_ok 3 (by decide) (by decide) (by decide) (by omega) (P.okf (by omega)))), ?_⟩
  have := P.sz
  simp only [size_nd, List.map_cons, List.map_nil, List.sum_cons, List.sum_nil]
  omega
end
section
variable {L : List (List (List UInt8))} {r : Nat}
theorem semN (k : Int) (l : List Fm) : sem L r (nd k l) = semK L r k [] ((l.map fun x => sem L r x).getD 0 fun _ => true) ((l.map fun x => sem L r x).getD 1 fun _ => true) := sem_eq _ _ _ _ _ _
theorem sn_not (y : Fm) : sem L r (nd 3 [y]) = fun t => !sem L r y t := by funext t; rw [semN]; simp [semK]
theorem sn_and (y z : Fm) : sem L r (nd 4 [y, z]) = fun t => (sem L r y t && sem L r z t) := by funext t; rw [semN]; simp [semK]
theorem sn_or (y z : Fm) : sem L r (nd 5 [y, z]) = fun t => (sem L r y t || sem L r z t) := by funext t; rw [semN]; simp [semK]
theorem sn_next (y : Fm) : sem L r (nd 6 [y]) = fun t => sem L r y (next L.length r t) := by funext t; rw [semN]; simp [semK]
theorem sn_until (y z : Fm) : sem L r (nd 7 [y, z]) = fun t => unt L.length r (sem L r y) (sem L r z) t := by funext t; rw [semN]; simp [semK]
theorem sn_release (y z : Fm) : sem L r (nd 8 [y, z]) = fun t => !unt L.length r (fun t => !sem L r y t) (fun t => !sem L r z t) t := by funext t; rw [semN]; simp [semK]
theorem sn_ever (y : Fm) : sem L r (nd 9 [y]) = fun t => unt L.length r (fun _ => true) (sem L r y) t := by funext t; rw [semN]; simp [semK]
theorem sn_always (y : Fm) : sem L r (nd 10 [y]) = fun t => !unt L.length r (fun _ => true) (fun t => !sem L r y t) t := by funext t; rw [semN]; simp [semK]
theorem grow_until (f g : Fm) (t : Nat) (ht : t < L.length) : sem L r (nd 7 [f, g]) t = sem L r (big f g) t := by
  unfold big
  rw [sn_or, sn_and, sn_next, sn_until]
  exact unt_step (r := r) (sem L r f) (sem L r g) t ht
theorem grow_release (f g : Fm) (t : Nat) (ht : t < L.length) : sem L r (nd 8 [f, g]) t = sem L r (nd 4 [g, nd 5 [f, nd 6 [nd 8 [f, g]]]]) t := by
  rw [sn_and, sn_or, sn_next, sn_release]
  simp only [unt_step (r := r) (fun t => !sem L r f t) (fun t => !sem L r g t) t ht]
  cases sem L r g t <;> cases sem L r f t <;> simp
theorem grow_ever (f : Fm) (t : Nat) (ht : t < L.length) : sem L r (nd 9 [f]) t = sem L r (nd 5 [f, nd 6 [nd 9 [f]]]) t := by
  rw [sn_or, sn_next, sn_ever]
  simp only [unt_step (r := r) (fun _ => true) (sem L r f) t ht]
  simp
theorem grow_always (f : Fm) (t : Nat) (ht : t < L.length) : sem L r (nd 10 [f]) t = sem L r (nd 4 [f, nd 6 [nd 10 [f]]]) t := by
  rw [sn_and, sn_next, sn_always]
  simp only [unt_step (r := r) (fun _ => true) (fun t => !sem L r f t) t ht]
  cases sem L r f t <;> simp
theorem grow_dual (f : Fm) (t : Nat) : sem L r (nd 10 [f]) t = sem L r (nd 3 [nd 9 [nd 3 [f]]]) t := by
  rw [sn_not, sn_ever, sn_not, sn_always]
end
end Ls
end Go.Proofs.YtmdblokmplbpmaaDoor
