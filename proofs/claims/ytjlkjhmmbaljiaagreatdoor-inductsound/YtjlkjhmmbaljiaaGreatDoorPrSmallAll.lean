/-
  Package induct in plain words: what fails behind k good scans in a row, and what is told of it. The walks of package prop's told, of the statements' own at, and of their closures. The walk of package prop's hasNames. The walks of package prop's waits and nextOf.
-/
import Derived.Test.YtjlkjhmmbaljiaaGreatDoorPrLeastAll
import Derived.Test.YtjlkjhmmbaljiaaGreatDoorScStepAll
import Derived.Test.YtjlkjhmmbaljiaaGreatDoorLdCheckAll
import Derived.Test.YtjlkjhmmbaljiaaGreatDoorLdReads
import Derived.Test.YtjlkjhmmbaljiaaGreatDoorMcCopiedAll
import Derived.Test.YtjlkjhmmbaljiaaGreatDoorRcNextAll
namespace Go.Proofs.YtjlkjhmmbaljiaaGreatDoor
section
namespace In
/-- from a state, behind k good scans in a row, comes one that isn't -/
def fails (next : Nat → List Nat) (row : Nat → List Bool) : Nat → Nat → Bool
  | 0, s => (row s).contains false
  | k + 1, s => (List.range (row s).length).any fun i => (row s).getD i false && fails next row k ((next s).getD i 0)
/-- of each state -/
def failsL (next : Nat → List Nat) (row : Nat → List Bool) (S k : Nat) : List Bool := (List.range S).map (fails next row k)
theorem failsL_len (next : Nat → List Nat) (row : Nat → List Bool) (S k : Nat) : (failsL next row S k).length = S := by simp [failsL]
theorem failsL_at (next : Nat → List Nat) (row : Nat → List Bool) (S k s : Nat) (h : s < S) : (failsL next row S k)[s]? = some (fails next row k s) := by simp [failsL, h]
/-- does it fail anywhere? -/
def anyF (next : Nat → List Nat) (row : Nat → List Bool) (S k : Nat) : Bool := (failsL next row S k).contains true
/-- what is told: a code, and by how many; n are still to be tried -/
def run (no : Bool) (L : Nat) (any : Nat → Bool) : Nat → Nat → Nat × Nat
  | 0, k => (3, k - 1)
  | n + 1, k => if no && Decidable.decide (L ≤ k) then (2, k) else if any k then run no L any n (k + 1) else (1, k)
theorem run_code (no : Bool) (L : Nat) (any : Nat → Bool) : ∀ n k, (run no L any n k).1 = 1 ∨ (run no L any n k).1 = 2 ∨ (run no L any n k).1 = 3
  | 0, _ => .inr (.inr rfl)
  | n + 1, k => by
    unfold run
    split
    · exact .inr (.inl rfl)
    · split
      · exact run_code no L any n (k + 1)
      · exact .inl rfl
theorem run_range (no : Bool) (L : Nat) (any : Nat → Bool) : ∀ n k, 1 ≤ k → k - 1 ≤ (run no L any n k).2 ∧ (run no L any n k).2 ≤ k + n - 1
  | 0, k, h => by unfold run; simp
  | n + 1, k, h => by
    unfold run
    split
    · exact ⟨by show k - 1 ≤ k; omega, by show k ≤ k + (n + 1) - 1; omega⟩
    · split
      · have := run_range no L any n (k + 1) (by omega)
        omega
      · exact ⟨by show k - 1 ≤ k; omega, by show k ≤ k + (n + 1) - 1; omega⟩
/-- with one more to be tried nothing is told otherwise -/
theorem run_more (no : Bool) (L : Nat) (any : Nat → Bool) : ∀ n k, (run no L any n k).1 ≠ 3 → run no L any (n + 1) k = run no L any n k
  | 0, k, h => (h rfl).elim
  | n + 1, k, h => by
    rw [run]
    conv => rhs; rw [run]
    unfold run at h
    split
    · rfl
    · rename_i h1
      rw [if_neg h1] at h
      split
      · rename_i h2
        rw [if_pos h2] at h
        exact run_more no L any n (k + 1) h
      · rfl
/-- what is proved: nothing fails there, and it is not refuted there -/
theorem run_one (no : Bool) (L : Nat) (any : Nat → Bool) : ∀ n k, (run no L any n k).1 = 1 → any (run no L any n k).2 = false ∧ k ≤ (run no L any n k).2 ∧ (no = true → (run no L any n k).2 < L)
  | 0, _, h => by unfold run at h; simp at h
  | n + 1, k, h => by
    unfold run at h ⊢
    by_cases h1 : (no && Decidable.decide (L ≤ k)) = true
    · rw [if_pos h1] at h; simp at h
    · rw [if_neg h1] at h ⊢
      by_cases h2 : any k = true
      · rw [if_pos h2] at h ⊢
        obtain ⟨a, b, c⟩ := run_one no L any n (k + 1) h
        exact ⟨a, by omega, c⟩
      · rw [if_neg h2]
        refine ⟨by simpa using h2, Nat.le_refl _, fun hn => ?_⟩
        subst hn
        simp at h1
        exact h1
/-- what is refuted: by as many as there are -/
theorem run_two (no : Bool) (L : Nat) (any : Nat → Bool) : ∀ n k, k ≤ L → (run no L any n k).1 = 2 → no = true ∧ (run no L any n k).2 = L
  | 0, _, _, h => by unfold run at h; simp at h
  | n + 1, k, hk, h => by
    unfold run at h ⊢
    by_cases h1 : (no && Decidable.decide (L ≤ k)) = true
    · rw [if_pos h1]
      simp at h1
      exact ⟨h1.1, by omega⟩
    · rw [if_neg h1] at h ⊢
      by_cases h2 : any k = true
      · rw [if_pos h2] at h ⊢
        by_cases h3 : k < L
        · exact run_two no L any n (k + 1) h3 h
        · exfalso
          have e : no = false := by
            cases no
            · rfl
            · simp at h1; omega
          subst e
          have : ∀ n k, (run false L any n k).1 ≠ 2 := by
            intro n
            induction n with
            | zero => intro k h; unfold run at h; simp at h
            | succ n ih =>
              intro k h
              unfold run at h
              rw [if_neg (by simp)] at h
              split at h
              · exact ih _ h
              · simp at h
          exact this _ _ h
      · rw [if_neg h2] at h; simp at h
/-- what stays open: all were tried -/
theorem run_three (no : Bool) (L : Nat) (any : Nat → Bool) : ∀ n k, (run no L any n k).1 = 3 → (run no L any n k).2 = k + n - 1 ∧ (no = true → 0 < n → k + n - 1 < L)
  | 0, k, _ => by unfold run; simp
  | n + 1, k, h => by
    unfold run at h ⊢
    by_cases h1 : (no && Decidable.decide (L ≤ k)) = true
    · rw [if_pos h1] at h; simp at h
    · rw [if_neg h1] at h ⊢
      by_cases h2 : any k = true
      · rw [if_pos h2] at h ⊢
        obtain ⟨a, b⟩ := run_three no L any n (k + 1) h
        refine ⟨by omega, fun hn _ => ?_⟩
        cases n with
        | zero =>
          subst hn
          simp at h1
          omega
        | succ n => have := b hn (by omega); omega
      · rw [if_neg h2] at h; simp at h
theorem run_false (L : Nat) (any : Nat → Bool) : ∀ n k, (run false L any n k).1 ≠ 2 := by
  intro n
  induction n with
  | zero => intro k h; unfold run at h; simp at h
  | succ n ih =>
    intro k h
    unfold run at h
    rw [if_neg (by simp)] at h
    split at h
    · exact ih _ h
    · simp at h
theorem run_ref (L : Nat) (any : Nat → Bool) (n k : Nat) (hn : 1 ≤ n) (h : L ≤ k) : run true L any n k = (2, k) := by
  obtain ⟨m, rfl⟩ : ∃ m, n = m + 1 := ⟨n - 1, by omega⟩
  unfold run
  rw [if_pos (by simpa using h)]
theorem run_prv (no : Bool) (L : Nat) (any : Nat → Bool) (n k : Nat) (hn : 1 ≤ n) (h : no = true → ¬ L ≤ k) (ha : any k = false) : run no L any n k = (1, k) := by
  obtain ⟨m, rfl⟩ : ∃ m, n = m + 1 := ⟨n - 1, by omega⟩
  unfold run
  rw [if_neg (by simp only [Bool.and_eq_true, decide_eq_true_eq]; exact fun h1 => h h1.1 h1.2), if_neg (by rw [ha]; exact Bool.false_ne_true)]
theorem run_go (no : Bool) (L : Nat) (any : Nat → Bool) (n k : Nat) (hn : 1 ≤ n) (h : no = true → ¬ L ≤ k) (ha : any k = true) : run no L any n k = run no L any (n - 1) (k + 1) := by
  obtain ⟨m, rfl⟩ : ∃ m, n = m + 1 := ⟨n - 1, by omega⟩
  conv => lhs; unfold run
  rw [if_neg (by simp only [Bool.and_eq_true, decide_eq_true_eq]; exact fun h1 => h h1.1 h1.2), if_pos ha]
  rfl
/-- good scans in a row, and behind them one that isn't: it fails there -/
theorem fails_of {next : Nat → List Nat} {row : Nat → List Bool} {wt : Nat × Nat → Nat → Nat} {S : Nat} (hl : ∀ s, s < S → (row s).length = (next s).length) (hx : ∀ s t, s < S → t ∈ next s → t < S) (hg : ∀ (q : Nat × Nat) i, i < (next q.1).length → wt q i ≤ 0 → (row q.1).getD i false = true) (hb : ∀ (q : Nat × Nat) i, i < (next q.1).length → 0 < wt q i → (row q.1)[i]? = some false) : ∀ (m : List Nat) (q : Nat × Nat) (i : Nat), q.1 < S → Pr.Fine next wt 0 q m → i < (next (Pr.go next wt q m).1).length → 0 < wt (Pr.go next wt q m) i → fails next row m.length q.1 = true
  | [], q, i, hq, _, hi, hw => by
    show (row q.1).contains false = true
    rw [List.contains_iff_mem]
    exact List.mem_of_getElem? (hb q i hi hw)
  | j :: m, q, i, hq, hf, hi, hw => by
    show fails next row (m.length + 1) q.1 = true
    unfold fails
    rw [List.any_eq_true]
    refine ⟨j, List.mem_range.2 (by rw [hl _ hq]; exact hf.1), ?_⟩
    rw [Bool.and_eq_true]
    refine ⟨hg q j hf.1 hf.2.1, ?_⟩
    refine fails_of hl hx hg hb m (Pr.step next wt q j) i ?_ hf.2.2 hi hw
    refine hx q.1 _ hq ?_
    show (next q.1).getD j 0 ∈ _
    rw [List.getD_eq_getElem?_getD, List.getElem?_eq_getElem hf.1]
    exact List.getElem_mem hf.1
theorem go_low {next : Nat → List Nat} {wt : Nat × Nat → Nat → Nat} {S : Nat} (hx : ∀ s t, s < S → t ∈ next s → t < S) : ∀ (m : List Nat) (q : Nat × Nat), q.1 < S → Pr.Fine next wt 0 q m → (Pr.go next wt q m).1 < S
  | [], _, hq, _ => hq
  | j :: m, q, hq, hf => go_low hx m _ (hx q.1 _ hq (by
      show (next q.1).getD j 0 ∈ _
      rw [List.getD_eq_getElem?_getD, List.getElem?_eq_getElem hf.1]
      exact List.getElem_mem hf.1)) hf.2.2
/-- where nothing fails behind k, what breaks does so by no more than k -/
theorem broke_short {next : Nat → List Nat} {row : Nat → List Bool} {wt : Nat × Nat → Nat → Nat} {S k : Nat} (hS : 0 < S) (hl : ∀ s, s < S → (row s).length = (next s).length) (hx : ∀ s t, s < S → t ∈ next s → t < S) (hg : ∀ (q : Nat × Nat) i, i < (next q.1).length → wt q i ≤ 0 → (row q.1).getD i false = true) (hb : ∀ (q : Nat × Nat) i, i < (next q.1).length → 0 < wt q i → (row q.1)[i]? = some false) (hk : anyF next row S k = false) (l : List Nat) (h : Pr.Broke next wt 0 l) : l.length ≤ k := by
  obtain ⟨m, i, rfl, h1, h2, h3⟩ := h
  refine Classical.byContradiction fun hn => ?_
  simp at hn
  have he : m = m.take (m.length - k) ++ m.drop (m.length - k) := (List.take_append_drop _ _).symm
  have hlen : (m.drop (m.length - k)).length = k := by simp; omega
  rw [he, Pr.fine_append] at h1
  rw [he, Pr.go_append] at h2 h3
  have h0 := go_low hx _ (0, 0) hS h1.1
  have h4 := fails_of hl hx hg hb (m.drop (m.length - k)) _ i h0 h1.2 h2 h3
  rw [hlen] at h4
  have h5 : anyF next row S k = true := by
    unfold anyF
    rw [List.contains_iff_mem]
    exact List.mem_map.2 ⟨_, List.mem_range.2 h0, h4⟩
  rw [hk] at h5
  cases h5
end In
end
section
open Go.RowKit
theorem ptold_any (nv rv lv : Value) (w : World) (hn : ∃ a n c, nv = .slice a n c) (hr : ∃ a n c, rv = .slice a n c) (hl : ∃ a n c, lv = .slice a n c) :
    Calls Tryz.prog 41 #[.agg #[nv, rv], lv] w fun e w' => e = .returned (.func (.func 73) #[] #[.pointer (some ⟨w.heap.size, 0, none⟩), .pointer (some ⟨w.heap.size + 1, 0, none⟩)]) ∧ w' = (w.alloc (.cells #[nv, rv] 47)).alloc (.cells #[lv] 67) := by
  have hmf : ∀ (fn : Fn) (first cap : Array Value) (w : World), (Instr.makeFunc fn first cap).run Tryz.prog w = .ok (.func fn first cap) w := fun _ _ _ _ => rfl
  obtain ⟨a1, n1, c1, rfl⟩ := hn
  obtain ⟨a2, n2, c2, rfl⟩ := hr
  obtain ⟨a3, n3, c3, rfl⟩ := hl
  go_enter Tryz.func41, Tryz.ntmps41
  go_wp2_with fail
  go_ret
  exact ⟨rfl, rfl⟩
set_option maxHeartbeats 2000000 in
set_option maxRecDepth 100000 in
theorem ptold1_any (ns : List Ld.Nme) (nv rv : Value) (is : List Bool) (gi a b : Nat) (nm : List UInt8) (w : World) (hn : NamesAt w nv ns) (hr : ∃ a n c, rv = .slice a n c) (hlen : is.length = ns.length)
    (h0 : w.cell? ⟨a, 0, none⟩ = some nv) (h1 : w.cell? ⟨a, 1, none⟩ = some rv) (h2 : w.cell? ⟨b, 0, none⟩ = some (.slice (some ⟨gi, 0, none⟩) is.length is.length)) (hi : w.heap[gi]? = some (.cells ⟨is.map boolV⟩ 4 (0, 0))) :
    Calls Tryz.prog 73 #[.string ⟨nm.toArray⟩, .pointer (some ⟨a, 0, none⟩), .pointer (some ⟨b, 0, none⟩)] w fun e w' => e = .returned (.bool (Sc.told ns is nm)) ∧ Below w.heap.size w w' := by
  obtain ⟨ra, rn, rc, rfl⟩ := hr
  have HNU := hide (Number_any ns nv (.slice ra rn rc) nm w hn ⟨_, _, _, rfl⟩)
  obtain ⟨na, nc, rfl, hn1⟩ := hn.slice
  have hlo := Ld.number_lt ns nm
  have hge := Ld.number_ge ns nm
  have HT : Hid (Sc.told ns is nm = (decide (0 ≤ Ld.number ns nm) && is.getD (Ld.number ns nm).toNat false)) := rfl
  have ha : a < w.heap.size := World.block_lt_of_cell? _ _ h0
  have hb : b < w.heap.size := World.block_lt_of_cell? _ _ h2
  have hg : gi < w.heap.size := (Array.getElem?_eq_some_iff.1 hi).1
  have HI := hide hi
  have H2 := hide h2
  generalize Sc.told ns is nm = T at *
  generalize Ld.number ns nm = u at *
  rw [hlen] at H2 h2
  generalize ns.length = m at *
  clear hi hn
  go_enter Tryz.func73, Tryz.ntmps73
  go_wp2_with fail
  refine HNU.out.mono ?_
  rintro e w1 ⟨rfl, hb1⟩
  have HB1 := hide hb1
  have k2 := (hb1.cell (p := ⟨b, 0, none⟩) hb).trans H2.out
  by_cases hu : 0 ≤ u
  · obtain ⟨j, rfl⟩ : ∃ j : Nat, u = (j : Int) := ⟨u.toNat, by omega⟩
    have hj : j < m := by omega
    have k3 : w1.cell? ⟨gi, j, none⟩ = some (.bool (is.getD j false)) := by
      rw [hb1.cell (p := ⟨gi, j, none⟩) hg, Lib.cell_of_heap HI.out]
      simp [boolV, hlen, hj]
    simp only [Int.toNat_natCast] at HT
    generalize is.getD j false = bv at *
    clear hb1 HNU
    go_wp2_with fail
    go_ret
    exact ⟨ret_bool (by rw [HT.out]; simp), HB1.out⟩
  · clear hb1 HNU
    have HD : Hid (decide (0 ≤ u) = false) := by show _ = _; simpa using hu
    go_wp2_with fail
    go_ret
    exact ⟨ret_bool (by rw [HT.out, HD.out]; rfl), HB1.out⟩
/-- the closure that told makes, asked later -/
theorem ptells_told (ns : List Ld.Nme) (nv rv : Value) (is : List Bool) (gi a b : Nat) (w : World) (hn : NamesAt w nv ns) (hr : ∃ a n c, rv = .slice a n c) (hlen : is.length = ns.length)
    (h0 : w.cell? ⟨a, 0, none⟩ = some nv) (h1 : w.cell? ⟨a, 1, none⟩ = some rv) (h2 : w.cell? ⟨b, 0, none⟩ = some (.slice (some ⟨gi, 0, none⟩) is.length is.length)) (hi : w.heap[gi]? = some (.cells ⟨is.map boolV⟩ 4 (0, 0))) :
    E2.Tells (.func (.func 73) #[] #[.pointer (some ⟨a, 0, none⟩), .pointer (some ⟨b, 0, none⟩)]) (Sc.told ns is) w :=
  ⟨73, _, _, rfl, fun _ _ => by kernel_rfl, fun W hW nm => ptold1_any ns nv rv is gi a b nm W (hn.below hW) hr hlen ((hW.cell (p := ⟨a, 0, none⟩) (World.block_lt_of_cell? _ _ h0)).trans h0) ((hW.cell (p := ⟨a, 1, none⟩) (World.block_lt_of_cell? _ _ h1)).trans h1) ((hW.cell (p := ⟨b, 0, none⟩) (World.block_lt_of_cell? _ _ h2)).trans h2) ((hW.block _ (Array.getElem?_eq_some_iff.1 hi).1).trans hi)⟩
end
section
open Go.RowKit
namespace Pr
/-- each name of an expression is one of the program's -/
def has (ns : List Ld.Nme) (x : Ex) : Bool := (ordered (x.named true)).all fun s => decide (0 ≤ Ld.number ns s)
end Pr
set_option maxHeartbeats 2000000 in
set_option maxRecDepth 100000 in
theorem hasNames_any (ok : Nat → Prop) (ns : List Ld.Nme) (nv rv : Value) (x : Ex) (v : Value) (w : World) (hn : NamesAt w nv ns) (hr : ∃ a n c, rv = .slice a n c) (h : IsEx ok w x v) (hlen : x.size ≤ 1000000) :
    Calls Tryz.prog 40 #[.agg #[nv, rv], v] w fun e w' => e = .returned (.bool (Pr.has ns x)) ∧ Below w.heap.size w w' := by
  obtain ⟨tu, yu, rfl⟩ := IsEx.iface x v h
  have HN := hide hn
  have hr2 := hr
  obtain ⟨ra, rn, rc, rfl⟩ := hr
  obtain ⟨w1, hw1⟩ : ∃ w1, w1 = w.alloc (.cells #[nv, .slice ra rn rc] 47) := ⟨_, rfl⟩
  have hb1 : Below w.heap.size w w1 := by rw [hw1]; exact (Below.refl _ _).alloc (Nat.le_refl _) _
  have hB : w1.heap[w.heap.size]? = some (.cells #[nv, .slice ra rn rc] 47 (0, 0)) := by rw [hw1]; exact heap_alloc_new _ _
  have HB := hide hB
  have HNM := hide (Names_any (fun _ => True) x _ w1 (IsEx.stay (Stay.below hb1) (fun g _ => trivial) x _ h) hlen)
  have hz1 : w1.heap.size = w.heap.size + 1 := by rw [hw1]; simp
  rw [hw1] at HNM
  have HW1 := hide hw1
  have HB1 := hide hb1
  obtain ⟨L, hL⟩ : ∃ L, L = ordered (x.named true) := ⟨_, rfl⟩
  have HAS : Hid (Pr.has ns x = L.all fun s => decide (0 ≤ Ld.number ns s)) := by show _ = _; rw [hL]; rfl
  rw [← hL] at HNM
  obtain ⟨na, nc, rfl, _⟩ := hn.slice
  clear hw1 hb1 hB hn h hL
  go_enter Tryz.func40, Tryz.ntmps40
  go_wp2_with fail
  refine HNM.out.mono ?_
  rintro e w2 ⟨sv, rfl, hs, hb2⟩
  rw [← HW1.out] at hb2
  have HS := hide hs
  have HB2 := hide hb2
  have HBW := hide (HB1.out.trans (hb2.mono HB1.out.size))
  obtain ⟨sa, sc, rfl⟩ : ∃ a c, sv = .slice a L.length c := by
    rcases hs.at with ⟨rfl, a, c, rfl⟩ | ⟨g, o, c, rfl, _⟩
    · exact ⟨_, _, rfl⟩
    · exact ⟨_, _, rfl⟩
  have hLl : L.length ≤ 1000000 := by
    rcases hs.at with ⟨rfl, _⟩ | ⟨g, o, c, _, _, h3, _⟩
    · simp
    · exact h3
  clear hs hb2 HNM
  go_wp2_with fail
  go_loopw [10] (fun i wr => ∃ j : Nat, j ≤ L.length ∧ i = .int .i64 (j : Int) ∧ Hid ((L.take j).all (fun s => decide (0 ≤ Ld.number ns s)) = true) ∧ Hid (Below w2.heap.size w2 wr)) (fun i _ => L.length - (intOf i).toNat)
  case atStart => exact ⟨0, Nat.zero_le _, rfl, rfl, Below.refl _ _⟩
  case round =>
    obtain ⟨j, hj, rfl, HT, HBR⟩ := hrel
    have hbw : Below w.heap.size w wr := HBW.out.trans (HBR.out.mono HBW.out.size)
    by_cases hlt : j < L.length
    · have hje := List.getElem?_eq_getElem hlt
      have HTS : Hid ((L.take (j + 1)).all (fun s => decide (0 ≤ Ld.number ns s)) = ((L.take j).all (fun s => decide (0 ≤ Ld.number ns s)) && decide (0 ≤ Ld.number ns L[j]))) := by
        show _ = _
        rw [List.take_succ_eq_append_getElem hlt, List.all_append]
        simp
      have HMN : Hid (Ld.number ns L[j] < 0 → (L.all fun s => decide (0 ≤ Ld.number ns s)) = false) := fun hneg => by
        rw [List.all_eq_false]
        exact ⟨L[j], List.getElem_mem hlt, by simp; omega⟩
      generalize L[j] = nm at *
      obtain ⟨g, o, rfl, hcell⟩ : ∃ g o, sa = some ⟨g, o, none⟩ ∧ wr.cell? ⟨g, o + j, none⟩ = some (.string ⟨nm.toArray⟩) := by
        rcases HS.out with ⟨h0, _⟩ | ⟨g, o, c, h1, _, _, h4⟩
        · have : L = [] := by simpa using h0
          rw [this] at hlt; simp at hlt
        · simp only [Value.slice.injEq] at h1
          have h5 := h4 j (toBA nm) (by rw [List.getElem?_map, hje]; rfl)
          exact ⟨g, o, h1.1, (HBR.out.cell (World.block_lt_of_cell? _ _ h5)).trans h5⟩
      have hcap : L.length ≤ sc := by
        rcases HS.out with ⟨h0, _⟩ | ⟨g', o', c, h1, h2, _⟩
        · have : L = [] := by simpa using h0
          rw [this]; simp
        · simp only [Value.slice.injEq] at h1
          rw [h1.2.2]; simpa using h2
      obtain ⟨b0, b1, _, _⟩ := two_cells ((HBR.out.block _ (by have := HB2.out.size; omega)).trans ((HB2.out.block _ (by omega)).trans HB.out))
      have HNU := hide (Number_any ns _ (.slice ra rn rc) nm wr (HN.out.below hbw) ⟨_, _, _, rfl⟩)
      have hji : (j : Int) < (L.length : Int) := by omega
      generalize Ld.number ns nm = u at *
      clear hje hbw
      go_wp2_with fail
      refine HNU.out.mono ?_
      rintro e w3 ⟨rfl, hb3⟩
      have HB3 := hide hb3
      clear hb3 HNU
      by_cases hu : u < 0
      · have HR := hide (HMN.out hu)
        go_wp2_with fail
        go_ret
        exact ⟨ret_bool (by rw [HAS.out, HR.out]), HBW.out.trans ((HBR.out.trans (HB3.out.mono HBR.out.size)).mono HBW.out.size)⟩
      · have HD : Hid (decide (0 ≤ u) = true) := decide_eq_true (by omega)
        go_wp2_with fail
        exact ⟨⟨j + 1, by omega, by go_num, (by show _ = _; rw [HTS.out, HT.out, HD.out]; rfl), HBR.out.trans (HB3.out.mono HBR.out.size)⟩, by simp [intOf]; omega⟩
    · have hjl : j = L.length := by omega
      have HR : Hid ((L.all fun s => decide (0 ≤ Ld.number ns s)) = true) := by
        have := HT.out
        rw [hjl, List.take_length] at this
        exact this
      subst hjl
      have HE := hide hbw
      clear hbw
      go_wp2_with fail
      go_ret
      exact ⟨ret_bool (by rw [HAS.out, HR.out]), HE.out⟩
end
section
open Go.RowKit
namespace Pr
def waits (ahead : Nat) (asks answers : Bool) : Nat := if answers || (ahead == 0 && !asks) then 0 else ahead + 1
end Pr
set_option maxRecDepth 100000 in
theorem waits_any (n : Nat) (a b : Bool) (w : World) (hn : n ≤ 1000) : Calls Tryz.prog 25 #[.int .i64 (n : Int), .bool a, .bool b] w fun e w' => e = .returned (.int .i64 (Pr.waits n a b : Int)) ∧ w' = w := by
  go_enter Tryz.func25, Tryz.ntmps25
  cases b with
  | true =>
    go_wp2_with fail
    go_ret
    exact ⟨rfl, rfl⟩
  | false =>
    by_cases h0 : n = 0
    · subst h0
      cases a with
      | true =>
        go_wp2_with fail
        go_ret
        exact ⟨rfl, rfl⟩
      | false =>
        go_wp2_with fail
        go_ret
        exact ⟨rfl, rfl⟩
    · have hne : ((n : Int) == 0) = false := by rw [beq_eq_false_iff_ne]; omega
      have hne2 : (n == 0) = false := by rw [beq_eq_false_iff_ne]; exact h0
      have HW : Hid (Pr.waits n a false = n + 1) := by
        show Pr.waits n a false = n + 1
        unfold Pr.waits
        rw [hne2]
        rfl
      go_wp2_with fail
      go_ret
      exact ⟨by rw [HW.out]; simp, rfl⟩
set_option maxRecDepth 100000 in
theorem nextOf_any (bm S I gN s : Nat) (next : Nat → List Nat) (uN : List Nat) (w : World) (h : NextAt w bm S I next gN uN) (hs : s < S) (_hS : S ≤ 4096) : Calls Tryz.prog 47 #[.pointer (some ⟨bm, 0, none⟩), .int .i64 (s : Int)] w fun e w' => (∃ b, uN[s]? = some b ∧ e = .returned (.slice (some ⟨b, 0, none⟩) I I)) ∧ w' = w := by
  obtain ⟨bN, hbN⟩ : ∃ b, uN[s]? = some b := ⟨_, List.getElem?_eq_getElem (by rw [h.2.1]; exact hs)⟩
  have t0 := h.1
  obtain ⟨t1, t2⟩ := h.2.2 s bN hbN
  have HBN := hide hbN
  have hsi : (s : Int) < (S : Int) := by omega
  clear t2 h hbN
  go_enter Tryz.func47, Tryz.ntmps47
  go_wp2_with fail
  go_ret
  exact ⟨⟨bN, HBN.out, rfl⟩, rfl⟩
end
end Go.Proofs.YtjlkjhmmbaljiaaGreatDoor
