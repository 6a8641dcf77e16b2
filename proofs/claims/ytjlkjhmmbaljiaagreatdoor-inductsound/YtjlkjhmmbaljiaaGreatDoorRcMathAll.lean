/-
  The walks of the statements' own pick and sameInts. Plain facts: a latch, and its machine. A latch, its machine in memory, and small rows of numbers. Plain mathematics of chapter 5: states are gone to from the first one on, the nearest ones first.
-/
import Derived.Test.YtjlkjhmmbaljiaaGreatDoorKeMadeAll
import Derived.Test.YtjlkjhmmbaljiaaGreatDoorMcCopiedAll
import Derived.Test.YtjlkjhmmbaljiaaGreatDoorMcD7All
import Derived.Test.YtjlkjhmmbaljiaaGreatDoorMcMathAll
namespace Go.Proofs.YtjlkjhmmbaljiaaGreatDoor
section
open Go.RowKit
set_option maxHeartbeats 2000000 in
set_option maxRecDepth 100000 in
theorem pick_any (x : Int) (I : Nat) (w : World) (h1 : 1 ≤ I) (h2 : I ≤ 100000) :
    Calls Tryz.prog 7 #[.int .i64 x, .int .i64 (I : Int)] w fun e w' => e = .returned (.int .i64 (x % 18446744073709551616 % (I : Int))) ∧ w' = w := by
  go_enter Tryz.func7, Tryz.ntmps7
  go_wp2_with fail
  refine bodyPost_ret (results_tmp rfl _ _ _) rfl ⟨?_, rfl⟩
  have e1 : IntKind.u64.wrap x = x % 18446744073709551616 := IntKind.wrap_u64 x
  have h3 : 0 ≤ x % 18446744073709551616 := Int.emod_nonneg _ (by decide)
  have h4 : 0 ≤ x % 18446744073709551616 % (I : Int) := Int.emod_nonneg _ (by omega)
  have h5 : x % 18446744073709551616 % (I : Int) < (I : Int) := Int.emod_lt_of_pos _ (by omega)
  have e2 : wrap64 (x % 18446744073709551616 % (I : Int)) = x % 18446744073709551616 % (I : Int) := by unfold wrap64; omega
  rw [e1, Int.tmod_eq_emod_of_nonneg h3, e2]
  rfl
theorem Bools.len {w : World} {v : Value} {l : List Bool} (h : Bools w v l) : l.length ≤ 1000000 := by obtain ⟨_, _, _, h, _⟩ := h; exact h
theorem Bools.slice {w : World} {v : Value} {l : List Bool} (h : Bools w v l) : ∃ a c, v = .slice a l.length c := by obtain ⟨a, c, h, _⟩ := h; exact ⟨a, c, h⟩
/-- a row of numbers as a slice -/
theorem ints_row {W : World} {g : Nat} {l : List Int} (h : RowIs W g 3 (l.map fun x => .int .i64 x)) (hl : ∀ x, x ∈ l → I64 x) : Ints W (slV g l.length) l :=
  .inr ⟨g, 0, l.length, rfl, Nat.le_refl _, fun k x hx => ⟨by rw [Nat.zero_add]; exact h.cell k _ (by rw [List.getElem?_map, hx]; rfl), hl x (List.mem_of_getElem? hx)⟩⟩
set_option maxHeartbeats 2000000 in
set_option maxRecDepth 100000 in
theorem sameI_any (l : List Int) (u v : Value) (w : World) (hu : Ints w u l) (hv : Ints w v l) (hl : l.length ≤ 1000000) :
    Calls Tryz.prog 11 #[u, v] w fun e w' => e = .returned (.bool true) ∧ Below w.heap.size w w' := by
  have HU := hide hu
  have HV := hide hv
  obtain ⟨n, hn⟩ : ∃ n, n = l.length := ⟨_, rfl⟩
  have HN := hide hn
  obtain ⟨ua, uc, rfl⟩ := hu.slice
  obtain ⟨va, vc, rfl⟩ := hv.slice
  rw [← hn] at HU HV hl ⊢
  clear hu hv hn
  go_enter Tryz.func11, Tryz.ntmps11
  go_wp2_with fail
  go_loopw [5] (fun i wr => ∃ k : Nat, k ≤ n ∧ i = .int .i64 (k : Int) ∧ Hid (Below w.heap.size w wr)) (fun i _ => n - (intOf i).toNat)
  case atStart => exact ⟨0, Nat.zero_le _, rfl, Below.refl _ _⟩
  case round =>
    obtain ⟨k, hk, rfl, HB⟩ := hrel
    by_cases hlt : k < n
    · have hkl : k < l.length := by rw [← HN.out]; exact hlt
      have hx := List.getElem?_eq_getElem hkl
      obtain ⟨g1, o1, e1, d1⟩ := (HU.out.below HB.out).cell k _ hx
      obtain ⟨g2, o2, e2, d2⟩ := (HV.out.below HB.out).cell k _ hx
      subst e1
      subst e2
      generalize l[k] = x at *
      clear hx
      go_wp2_with fail
      go_quiet (fail)
      go_wp2_with fail
      go_roundw
      case rel => exact ⟨k + 1, by omega, by go_num, HB.out.trans ⟨rfl, rfl, rfl, Nat.le_refl _, fun _ _ => rfl⟩⟩
      case measure => simp [intOf]; omega
    · have hkn : k = n := by omega
      subst hkn
      go_wp2_with fail
      go_ret
      exact ⟨rfl, HB.out⟩
end
section
theorem lit_q : (Ld.kindL Ld.lit.names 1).length = 1 := by decide
theorem lit_inputs : Ld.kindL Ld.lit.names 1 = [0] := by kernel_rfl
theorem lit_asked : Ld.asked Ld.lit = [] := by
  have h : Ld.litA.named false = [] := by simp [Ld.litA, Ex.named]
  show (([⟨2, [109], some Ld.litA⟩] : List Ld.Rng).map Ld.asksR).flatten = []
  simp [Ld.asksR, h]
theorem lit_edges : Ld.edges Ld.lit = [] := by
  unfold Ld.edges
  rw [lit_asked]
  rfl
theorem lit_parts : Mc.parts Ld.lit = [(1, false), (2, false)] := by
  have h0 : Mc.part Ld.lit 0 = (1, false) := by
    unfold Mc.part
    rw [lit_edges]
    rfl
  have h1 : Mc.part Ld.lit 1 = (2, false) := by
    unfold Mc.part
    rw [lit_edges]
    rfl
  show [Mc.part Ld.lit 0, Mc.part Ld.lit 1] = _
  rw [h0, h1]
theorem lit_total : Mc.total (Mc.parts Ld.lit) = 2 := by rw [lit_parts]; rfl
theorem lit_num0 : Ld.number Ld.lit.names [97] = 0 := by kernel_rfl
theorem lit_num1 : Ld.number Ld.lit.names [109] = 1 := by kernel_rfl
theorem lit_eval (i w : List UInt8 → Bool) : Ld.litA.eval i w = i [97] := by simp [Ld.litA, Ex.eval]
theorem lit_step (x y b : Bool) (c d : Int) : Sc.step Ld.lit ⟨[x, y], [c, d]⟩ [b] = ⟨[b, b || y], [c, d]⟩ := by
  have ht : Sc.told Ld.lit.names [b, y] [97] = b := by
    unfold Sc.told
    rw [lit_num0]
    simp
  unfold Sc.step
  rw [lit_inputs]
  show Sc.doRung Ld.lit.names [x, y] ⟨[b, y], [c, d]⟩ ⟨2, [109], some Ld.litA⟩ = _
  unfold Sc.doRung
  simp only [lit_num1, lit_eval, ht]
  cases b <;> cases y <;> rfl
theorem lit_after (s i : Nat) (y b : Bool) (hs : Mc.state [(1, false), (2, false)] s = ⟨[false, y], [0, 0]⟩) (hi : bitsTo i 1 = [b]) : Mc.number [(1, false), (2, false)] (Mc.after1 Ld.lit 1 s i).is (Mc.after1 Ld.lit 1 s i).ct = if b || y then 1 else 0 := by
  unfold Mc.after1
  rw [lit_parts, hs, hi, lit_step]
  cases b <;> cases y <;> rfl
theorem lit_next0 : Mc.nextRow Ld.lit 1 2 0 = [.int .i64 0, .int .i64 1] := by
  have h0 := lit_after 0 0 false false rfl (by kernel_rfl)
  have h1 := lit_after 0 1 false true rfl (by kernel_rfl)
  show [Value.int .i64 (Mc.number (Mc.parts Ld.lit) (Mc.after1 Ld.lit 1 0 0).is (Mc.after1 Ld.lit 1 0 0).ct : Int), Value.int .i64 (Mc.number (Mc.parts Ld.lit) (Mc.after1 Ld.lit 1 0 1).is (Mc.after1 Ld.lit 1 0 1).ct : Int)] = _
  rw [lit_parts, h0, h1]
  rfl
theorem lit_next1 : Mc.nextRow Ld.lit 1 2 1 = [.int .i64 1, .int .i64 1] := by
  have h0 := lit_after 1 0 true false rfl (by kernel_rfl)
  have h1 := lit_after 1 1 true true rfl (by kernel_rfl)
  show [Value.int .i64 (Mc.number (Mc.parts Ld.lit) (Mc.after1 Ld.lit 1 1 0).is (Mc.after1 Ld.lit 1 1 0).ct : Int), Value.int .i64 (Mc.number (Mc.parts Ld.lit) (Mc.after1 Ld.lit 1 1 1).is (Mc.after1 Ld.lit 1 1 1).ct : Int)] = _
  rw [lit_parts, h0, h1]
  rfl
end
section
open Go.RowKit
theorem i64_small (x : Int) (h : 0 ≤ x ∧ x ≤ 1000) : I64 x := ⟨by omega, by omega⟩
theorem lit_made (most : Nat) (h : 2 ≤ most) : madeP ⟨#[105, 110, 112, 117, 116, 32, 97, 10, 99, 111, 105, 108, 32, 109, 10, 115, 101, 116, 32, 109, 32, 61, 32, 97, 10]⟩ most = some Ld.lit := by
  have hr : readP ⟨#[105, 110, 112, 117, 116, 32, 97, 10, 99, 111, 105, 108, 32, 109, 10, 115, 101, 116, 32, 109, 32, 61, 32, 97, 10]⟩ = some Ld.lit := by
    rw [readP, if_neg (by decide)]
    show prgOf (Ld.parse [105, 110, 112, 117, 116, 32, 97, 10, 99, 111, 105, 108, 32, 109, 10, 115, 101, 116, 32, 109, 32, 61, 32, 97, 10]) = _
    rw [Ld.lit_parse]; rfl
  rw [madeP, hr, fewP]
  rw [if_pos ⟨by rw [lit_q]; decide, by rw [lit_total]; exact h⟩]
/-- the latch's machine in memory -/
def IsLatch (W : World) (bm : Nat) : Prop := IsMach W bm Ld.lit ∧ (W.cell? ⟨bm, 2, none⟩ = some (.int .i64 2) ∧ W.cell? ⟨bm, 3, none⟩ = some (.int .i64 2)) ∧ ∃ gN b0 b1, W.cell? ⟨bm, 4, none⟩ = some (.slice (some ⟨gN, 0, none⟩) 2 2) ∧ (W.cell? ⟨gN, 0, none⟩ = some (.slice (some ⟨b0, 0, none⟩) 2 2) ∧ W.cell? ⟨gN, 1, none⟩ = some (.slice (some ⟨b1, 0, none⟩) 2 2)) ∧ RowIs W b0 3 [.int .i64 0, .int .i64 1] ∧ RowIs W b1 3 [.int .i64 1, .int .i64 1]
theorem latch_of {W : World} {bm : Nat} (h : IsMach W bm Ld.lit) : IsLatch W bm := by
  have hm := h
  obtain ⟨nv, rv, g, gN, gS, lo, uN, uS, h1, ⟨⟨h2, _⟩, h3, _⟩, _⟩ := h
  rw [lit_q, lit_total] at h1 h3
  rw [lit_total] at h2
  obtain ⟨_, ⟨c2, c3⟩, c4, _⟩ := h1.cells
  obtain ⟨b0, e0⟩ : ∃ b, uN[0]? = some b := ⟨_, List.getElem?_eq_getElem (by omega)⟩
  obtain ⟨b1, e1⟩ : ∃ b, uN[1]? = some b := ⟨_, List.getElem?_eq_getElem (by omega)⟩
  have r0 := (h3.row 0 b0 e0).1
  have r1 := (h3.row 1 b1 e1).1
  rw [show (2 ^ 1 : Nat) = 2 from rfl] at r0 r1
  rw [lit_next0] at r0
  rw [lit_next1] at r1
  exact ⟨hm, ⟨c2, c3⟩, gN, b0, b1, c4, ⟨h3.cell 0 b0 e0, h3.cell 1 b1 e1⟩, r0, r1⟩
theorem ints_two {W : World} {b : Nat} {x y : Int} (h : RowIs W b 3 [.int .i64 x, .int .i64 y]) (hx : I64 x) (hy : I64 y) : Ints W (.slice (some ⟨b, 0, none⟩) 2 2) [x, y] :=
  ints_row (l := [x, y]) h (fun z hz => by
    simp only [List.mem_cons, List.not_mem_nil, or_false] at hz
    rcases hz with rfl | rfl
    · exact hx
    · exact hy)
theorem ints_one {W : World} {b : Nat} {x : Int} (h : RowIs W b 3 [.int .i64 x]) (hx : I64 x) : Ints W (.slice (some ⟨b, 0, none⟩) 1 1) [x] :=
  ints_row (l := [x]) h (fun z hz => by
    simp only [List.mem_cons, List.not_mem_nil, or_false] at hz
    subst hz; exact hx)
end
section
namespace Rc
/-- how a state is come to: in how many scans, from which one, by which input -/
structure Stp where
  far : Int
  frm : Nat
  by_ : Nat
structure Qu where
  steps : List Stp
  met : List Nat
def st0 : Stp := ⟨0, 0, 0⟩
def Qu.at_ (q : Qu) (s : Nat) : Stp := q.steps.getD s st0
def see (f : Nat) (q : Qu) (k s : Nat) : Qu := if (q.at_ s).far < 0 then ⟨q.steps.set s ⟨(q.at_ f).far + 1, f, k⟩, q.met ++ [s]⟩ else q
def seesTo (l : List Nat) (f : Nat) (q : Qu) : Nat → Qu
  | 0 => q
  | k + 1 => see f (seesTo l f q k) k (l.getD k 0)
def rounds (next : Nat → List Nat) (q : Qu) : Nat → Qu
  | 0 => q
  | k + 1 => match (rounds next q k).met[k]? with
    | some f => seesTo (next f) f (rounds next q k) (next f).length
    | none => rounds next q k
def begin (S : Nat) : Qu := ⟨(List.replicate S ⟨-1, 0, 0⟩).set 0 ⟨0, 0, 0⟩, [0]⟩
def walk (next : Nat → List Nat) (S : Nat) : Qu := rounds next (begin S) S
/-- what stands while states are gone to: the first k of those met are done, of the next one the first b inputs -/
structure Ok (next : Nat → List Nat) (S : Nat) (q : Qu) (k b : Nat) : Prop where
  len : q.steps.length = S
  nd : q.met.Nodup
  lt : ∀ s, s ∈ q.met → s < S
  vis : ∀ s, s ∈ q.met → 0 ≤ (q.at_ s).far
  nev : ∀ s, s < S → s ∉ q.met → q.at_ s = ⟨-1, 0, 0⟩
  hd : q.met[0]? = some 0
  zero : (q.at_ 0).far = 0
  par : ∀ s, s ∈ q.met → s ≠ 0 → (q.at_ s).frm ∈ q.met ∧ (q.at_ s).far = (q.at_ (q.at_ s).frm).far + 1 ∧ (next (q.at_ s).frm)[(q.at_ s).by_]? = some s
  mono : ∀ (i j s t : Nat), i ≤ j → q.met[i]? = some s → q.met[j]? = some t → (q.at_ s).far ≤ (q.at_ t).far
  up : ∀ (i s : Nat), q.met[i]? = some s → (q.at_ s).far ≤ i
  near : ∀ (f s : Nat), q.met[k]? = some f → s ∈ q.met → (q.at_ s).far ≤ (q.at_ f).far + 1
  done : ∀ (j f u : Nat), j < k → q.met[j]? = some f → u ∈ next f → u ∈ q.met ∧ (q.at_ u).far ≤ (q.at_ f).far + 1
  part : ∀ (f i u : Nat), q.met[k]? = some f → i < b → (next f)[i]? = some u → u ∈ q.met ∧ (q.at_ u).far ≤ (q.at_ f).far + 1
theorem at_set (q : Qu) (s t : Nat) (x : Stp) (m : List Nat) (hs : s < q.steps.length) : (Qu.mk (q.steps.set s x) m).at_ t = if t = s then x else q.at_ t := by
  unfold Qu.at_
  by_cases h : t = s
  · subst h; rw [if_pos rfl, List.getD_eq_getElem?_getD, List.getElem?_set_self hs]; rfl
  · rw [if_neg h, List.getD_eq_getElem?_getD, List.getElem?_set_ne (fun e => h e.symm), List.getD_eq_getElem?_getD]
theorem see_ok {next : Nat → List Nat} {S : Nat} {q : Qu} {k b f s : Nat} (h : Ok next S q k b) (hf : q.met[k]? = some f) (hs : s < S) (hb : (next f)[b]? = some s) : Ok next S (see f q b s) k (b + 1) ∧ (see f q b s).met[k]? = some f := by
  unfold see
  have hfm : f ∈ q.met := List.mem_of_getElem? hf
  have hkl : k < q.met.length := (List.getElem?_eq_some_iff.1 hf).1
  by_cases hv : (q.at_ s).far < 0
  · rw [if_pos hv]
    have hsm : s ∉ q.met := fun hm => by have := h.vis s hm; omega
    have hsl : s < q.steps.length := by rw [h.len]; exact hs
    have hat := fun t => at_set q s t ⟨(q.at_ f).far + 1, f, b⟩ (q.met ++ [s]) hsl
    have hold : ∀ t, t ∈ q.met → (Qu.mk (q.steps.set s ⟨(q.at_ f).far + 1, f, b⟩) (q.met ++ [s])).at_ t = q.at_ t := fun t ht => by
      rw [hat, if_neg]; intro e; subst e; exact hsm ht
    have hnew : (Qu.mk (q.steps.set s ⟨(q.at_ f).far + 1, f, b⟩) (q.met ++ [s])).at_ s = ⟨(q.at_ f).far + 1, f, b⟩ := by rw [hat, if_pos rfl]
    have hget : ∀ (i t : Nat), (q.met ++ [s])[i]? = some t → (i < q.met.length ∧ q.met[i]? = some t ∧ t ∈ q.met) ∨ (i = q.met.length ∧ t = s) := fun i t ht => by
      by_cases hi : i < q.met.length
      · rw [List.getElem?_append_left hi] at ht
        exact .inl ⟨hi, ht, List.mem_of_getElem? ht⟩
      · rw [List.getElem?_append_right (by omega)] at ht
        have hl : i - q.met.length < [s].length := (List.getElem?_eq_some_iff.1 ht).1
        have hi2 : i = q.met.length := by simp at hl; omega
        subst hi2
        simp at ht
        exact .inr ⟨rfl, ht.symm⟩
    have hf2 : (q.met ++ [s])[k]? = some f := by rw [List.getElem?_append_left hkl]; exact hf
    have hfu := h.up k f hf
    refine ⟨⟨by simp [h.len], ?_, ?_, ?_, ?_, ?_, ?_, ?_, ?_, ?_, ?_, ?_, ?_⟩, hf2⟩
    · rw [List.nodup_append]
      exact ⟨h.nd, by simp, fun a ha c hc => by simp at hc; subst hc; intro e; subst e; exact hsm ha⟩
    · intro t ht
      rcases List.mem_append.1 ht with ht | ht
      · exact h.lt t ht
      · simp at ht; subst ht; exact hs
    · intro t ht
      rcases List.mem_append.1 ht with ht | ht
      · rw [hold t ht]; exact h.vis t ht
      · simp at ht; subst ht; rw [hnew]; have := h.vis f hfm; simp only; omega
    · intro t ht hnm
      have h1 : t ∉ q.met := fun hm => hnm (List.mem_append.2 (.inl hm))
      have h2 : t ≠ s := fun e => hnm (List.mem_append.2 (.inr (by simp [e])))
      rw [hat, if_neg h2]; exact h.nev t ht h1
    · rw [List.getElem?_append_left (by omega)]; exact h.hd
    · rw [hold 0 (List.mem_of_getElem? h.hd)]; exact h.zero
    · intro t ht hne
      rcases List.mem_append.1 ht with ht | ht
      · obtain ⟨p1, p2, p3⟩ := h.par t ht hne
        rw [hold t ht, hold _ p1]
        exact ⟨List.mem_append.2 (.inl p1), p2, p3⟩
      · simp at ht; subst ht
        rw [hnew]; simp only
        rw [hold f hfm]
        exact ⟨List.mem_append.2 (.inl hfm), rfl, hb⟩
    · intro i j a c hij ha hc
      rcases hget i a ha with ⟨i1, i2, i3⟩ | ⟨i1, rfl⟩
      · rcases hget j c hc with ⟨j1, j2, j3⟩ | ⟨j1, rfl⟩
        · rw [hold a i3, hold c j3]; exact h.mono i j a c hij i2 j2
        · rw [hold a i3, hnew]; exact h.near f a hf i3
      · rcases hget j c hc with ⟨j1, j2, j3⟩ | ⟨j1, rfl⟩
        · omega
        · exact Int.le_refl _
    · intro i a ha
      rcases hget i a ha with ⟨i1, i2, i3⟩ | ⟨i1, rfl⟩
      · rw [hold a i3]; exact h.up i a i2
      · rw [hnew, i1]; simp only; omega
    · intro g a hg ha
      rw [hf2] at hg
      cases hg
      rw [hold f hfm]
      rcases List.mem_append.1 ha with ha | ha
      · rw [hold a ha]; exact h.near f a hf ha
      · simp at ha; subst ha; rw [hnew]; exact Int.le_refl _
    · intro j g u hj hg hu
      have hjl : j < q.met.length := by omega
      rw [List.getElem?_append_left hjl] at hg
      obtain ⟨d1, d2⟩ := h.done j g u hj hg hu
      rw [hold u d1, hold g (List.mem_of_getElem? hg)]
      exact ⟨List.mem_append.2 (.inl d1), d2⟩
    · intro g i u hg hi hu
      rw [hf2] at hg
      cases hg
      by_cases hib : i < b
      · obtain ⟨d1, d2⟩ := h.part f i u hf hib hu
        rw [hold u d1, hold f hfm]
        exact ⟨List.mem_append.2 (.inl d1), d2⟩
      · have : i = b := by omega
        subst this
        rw [hb] at hu
        cases hu
        rw [hnew, hold f hfm]
        exact ⟨List.mem_append.2 (.inr (by simp)), Int.le_refl _⟩
  · rw [if_neg hv]
    have hsm : s ∈ q.met := by
      refine Classical.byContradiction fun hm => hv ?_
      rw [h.nev s hs hm]; decide
    refine ⟨{ h with part := ?_ }, hf⟩
    intro g i u hg hi hu
    by_cases hib : i < b
    · exact h.part g i u hg hib hu
    · have : i = b := by omega
      subst this
      rw [hf] at hg
      cases hg
      rw [hb] at hu
      cases hu
      exact ⟨hsm, h.near f s hf hsm⟩
theorem seesTo_ok {next : Nat → List Nat} {S : Nat} {q : Qu} {k f : Nat} (h : Ok next S q k 0) (hf : q.met[k]? = some f) (hn : ∀ s, s ∈ next f → s < S) : ∀ b, b ≤ (next f).length → Ok next S (seesTo (next f) f q b) k b ∧ (seesTo (next f) f q b).met[k]? = some f
  | 0, _ => ⟨h, hf⟩
  | b + 1, hb => by
    obtain ⟨h1, h2⟩ := seesTo_ok h hf hn b (by omega)
    have hbl : b < (next f).length := by omega
    have e : (next f).getD b 0 = (next f)[b] := by simp [hbl]
    show Ok next S (see f (seesTo (next f) f q b) b ((next f).getD b 0)) k (b + 1) ∧ (see f (seesTo (next f) f q b) b ((next f).getD b 0)).met[k]? = some f
    rw [e]
    refine see_ok h1 h2 (hn _ (List.getElem_mem hbl)) (List.getElem?_eq_getElem hbl)
/-- one that is met next lies no nearer -/
theorem next_ok {next : Nat → List Nat} {S : Nat} {q : Qu} {k f : Nat} (h : Ok next S q k (next f).length) (hf : q.met[k]? = some f) : Ok next S q (k + 1) 0 := by
  refine { h with near := ?_, done := ?_, part := fun _ _ _ _ hi _ => absurd hi (by omega) }
  · intro g s hg hs
    have h1 := h.near f s hf hs
    have h2 := h.mono k (k + 1) f g (by omega) hf hg
    omega
  · intro j g u hj hg hu
    by_cases hjk : j < k
    · exact h.done j g u hjk hg hu
    · have : j = k := by omega
      subst this
      rw [hf] at hg
      cases hg
      obtain ⟨i, hi, rfl⟩ := List.getElem_of_mem hu
      exact h.part f i _ hf hi (List.getElem?_eq_getElem hi)
theorem begin_ok (next : Nat → List Nat) (S : Nat) (hS : 1 ≤ S) : Ok next S (begin S) 0 0 := by
  have h0 : (begin S).at_ 0 = ⟨0, 0, 0⟩ := by
    unfold begin Qu.at_
    rw [List.getD_eq_getElem?_getD, List.getElem?_set_self (by simp; omega)]; rfl
  have hm : ∀ s, s ∈ (begin S).met → s = 0 := fun s hs => by simpa [begin] using hs
  have hg : ∀ (i s : Nat), (begin S).met[i]? = some s → i = 0 ∧ s = 0 := fun i s hi => by
    cases i with
    | zero => simp [begin] at hi; exact ⟨rfl, hi.symm⟩
    | succ i => simp [begin] at hi
  refine ⟨by simp [begin], by simp [begin], ?_, ?_, ?_, rfl, by rw [h0], ?_, ?_, ?_, ?_, ?_, ?_⟩
  · intro s hs; rw [hm s hs]; omega
  · intro s hs; rw [hm s hs, h0]; decide
  · intro s hs hn
    have hne : s ≠ 0 := fun e => hn (by simp [begin, e])
    unfold begin Qu.at_
    rw [List.getD_eq_getElem?_getD, List.getElem?_set_ne (fun e => hne e.symm), List.getElem?_replicate, if_pos hs]; rfl
  · intro s hs hne; exact absurd (hm s hs) hne
  · intro i j s t _ hi hj; rw [(hg i s hi).2, (hg j t hj).2]; exact Int.le_refl _
  · intro i s hi; rw [(hg i s hi).2, (hg i s hi).1, h0]; decide
  · intro f s hf hs; rw [hm s hs, (hg _ f hf).2, h0]; decide
  · intro j f u hj; omega
  · intro f i u _ hi; omega
theorem Ok.many {next : Nat → List Nat} {S : Nat} {q : Qu} {k b : Nat} (h : Ok next S q k b) : q.met.length ≤ S := by
  have h1 : q.met ⊆ List.range S := fun s hs => List.mem_range.2 (h.lt s hs)
  have := h.nd.length_le_of_subset h1
  simpa using this
theorem rounds_ok {next : Nat → List Nat} {S : Nat} {q : Qu} (h : Ok next S q 0 0) (hn : ∀ f s, f < S → s ∈ next f → s < S) : ∀ k, Ok next S (rounds next q k) k 0
  | 0 => h
  | k + 1 => by
    have ih := rounds_ok h hn k
    cases hm : (rounds next q k).met[k]? with
    | some f =>
      have e : rounds next q (k + 1) = seesTo (next f) f (rounds next q k) (next f).length := by rw [rounds, hm]
      rw [e]
      obtain ⟨h1, h2⟩ := seesTo_ok ih hm (fun s hs => hn f s (ih.lt f (List.mem_of_getElem? hm)) hs) (next f).length (Nat.le_refl _)
      exact next_ok h1 h2
    | none =>
      have e : rounds next q (k + 1) = rounds next q k := by rw [rounds, hm]
      rw [e]
      have hl : (rounds next q k).met.length ≤ k := List.getElem?_eq_none_iff.1 hm
      refine { ih with near := ?_, done := ?_, part := fun _ _ _ _ hi _ => absurd hi (by omega) }
      · intro f s hf; have := (List.getElem?_eq_some_iff.1 hf).1; omega
      · intro j f u hj hf hu
        have := (List.getElem?_eq_some_iff.1 hf).1
        exact ih.done j f u (by omega) hf hu
theorem rounds_stay {next : Nat → List Nat} {q : Qu} (k : Nat) (h : (rounds next q k).met.length ≤ k) : ∀ j, rounds next q (k + j) = rounds next q k
  | 0 => rfl
  | j + 1 => by
    have ih := rounds_stay k h j
    have hm : (rounds next q (k + j)).met[k + j]? = none := by rw [ih]; exact List.getElem?_eq_none_iff.2 (by omega)
    show rounds next q (k + j + 1) = _
    rw [rounds, hm]; exact ih
/-- all is gone to -/
structure Far (next : Nat → List Nat) (S : Nat) (q : Qu) : Prop where
  len : q.steps.length = S
  low : ∀ s, s < S → -1 ≤ (q.at_ s).far ∧ (q.at_ s).far < S ∧ ((q.at_ s).far < 0 → (q.at_ s).far = -1)
  zero : (q.at_ 0).far = 0
  one : ∀ s, s < S → (q.at_ s).far = 0 → s = 0
  par : ∀ s, s < S → 0 < (q.at_ s).far → (q.at_ s).frm < S ∧ (q.at_ (q.at_ s).frm).far = (q.at_ s).far - 1 ∧ (next (q.at_ s).frm)[(q.at_ s).by_]? = some s
  near : ∀ t u, t < S → 0 ≤ (q.at_ t).far → u ∈ next t → 0 ≤ (q.at_ u).far ∧ (q.at_ u).far ≤ (q.at_ t).far + 1
theorem walk_far (next : Nat → List Nat) (S : Nat) (hS : 1 ≤ S) (hn : ∀ f s, f < S → s ∈ next f → s < S) : Far next S (walk next S) := by
  have h : Ok next S (walk next S) S 0 := rounds_ok (begin_ok next S hS) hn S
  have hm := h.many
  have hin : ∀ s, s < S → 0 ≤ ((walk next S).at_ s).far → s ∈ (walk next S).met := fun s hs h0 => by
    refine Classical.byContradiction fun hx => ?_
    rw [h.nev s hs hx] at h0
    exact absurd h0 (by decide)
  have hlow : ∀ s, s ∈ (walk next S).met → 0 ≤ ((walk next S).at_ s).far ∧ ((walk next S).at_ s).far < S := fun s hs => by
    obtain ⟨i, hi, rfl⟩ := List.getElem_of_mem hs
    have := h.up i _ (List.getElem?_eq_getElem hi)
    exact ⟨h.vis _ hs, by omega⟩
  refine ⟨h.len, ?_, h.zero, ?_, ?_, ?_⟩
  · intro s hs
    by_cases hx : s ∈ (walk next S).met
    · have := hlow s hx; omega
    · rw [h.nev s hs hx]; refine ⟨by decide, by simp only; omega, fun _ => rfl⟩
  · intro s hs h0
    refine Classical.byContradiction fun hne => ?_
    obtain ⟨p1, p2, _⟩ := h.par s (hin s hs (by omega)) hne
    have := h.vis _ p1
    omega
  · intro s hs h0
    have hne : s ≠ 0 := fun e => by subst e; rw [h.zero] at h0; omega
    obtain ⟨p1, p2, p3⟩ := h.par s (hin s hs (by omega)) hne
    exact ⟨h.lt _ p1, by omega, p3⟩
  · intro t u ht h0 hu
    obtain ⟨j, hj, e⟩ := List.getElem_of_mem (hin t ht h0)
    obtain ⟨d1, d2⟩ := h.done j t u (by omega) (by rw [List.getElem?_eq_getElem hj, e]) hu
    exact ⟨h.vis u d1, d2⟩
/-- the inputs of the way to a state, from the last one back -/
def pathOf (q : Qu) : Nat → Nat → List Nat
  | 0, _ => []
  | n + 1, s => pathOf q n (q.at_ s).frm ++ [(q.at_ s).by_]
theorem pathOf_len (q : Qu) : ∀ n s, (pathOf q n s).length = n
  | 0, _ => rfl
  | n + 1, s => by simp [pathOf, pathOf_len q n]
/-- where inputs lead to -/
def go (next : Nat → List Nat) : Nat → List Nat → Nat
  | s, [] => s
  | s, i :: l => go next ((next s).getD i 0) l
theorem go_snoc (next : Nat → List Nat) : ∀ (s : Nat) (l : List Nat) (i : Nat), go next s (l ++ [i]) = (next (go next s l)).getD i 0
  | _, [], _ => rfl
  | s, a :: l, i => by show go next _ (l ++ [i]) = _; rw [go_snoc]; rfl
/-- a path leads to its state -/
theorem path_goes {next : Nat → List Nat} {S : Nat} {q : Qu} (h : Far next S q) : ∀ (n s : Nat), s < S → (q.at_ s).far = n → go next 0 (pathOf q n s) = s ∧ (∀ j, j ≤ n → go next 0 ((pathOf q n s).take j) < S ∧ (q.at_ (go next 0 ((pathOf q n s).take j))).far = j) ∧ ∀ j (i : Nat), (pathOf q n s)[j]? = some i → i < (next (go next 0 ((pathOf q n s).take j))).length
  | 0, s, hs, hf => by
    have := h.one s hs hf
    subst this
    refine ⟨rfl, fun j hj => ?_, fun j i hi => by simp [pathOf] at hi⟩
    have : j = 0 := by omega
    subst this
    exact ⟨hs, h.zero⟩
  | n + 1, s, hs, hf => by
    obtain ⟨p1, p2, p3⟩ := h.par s hs (by omega)
    obtain ⟨g1, g2, g3⟩ := path_goes h n (q.at_ s).frm p1 (by omega)
    have hl := pathOf_len q n (q.at_ s).frm
    have e1 : go next 0 (pathOf q (n + 1) s) = s := by
      show go next 0 (pathOf q n (q.at_ s).frm ++ [(q.at_ s).by_]) = s
      rw [go_snoc, g1, List.getD_eq_getElem?_getD, p3]; rfl
    refine ⟨e1, fun j hj => ?_, fun j i hi => ?_⟩
    · by_cases hjn : j ≤ n
      · have e : (pathOf q (n + 1) s).take j = (pathOf q n (q.at_ s).frm).take j := by
          show (pathOf q n (q.at_ s).frm ++ [(q.at_ s).by_]).take j = _
          rw [List.take_append_of_le_length (by omega)]
        rw [e]; exact g2 j hjn
      · have : j = n + 1 := by omega
        subst this
        rw [List.take_of_length_le (by rw [pathOf_len]; exact Nat.le_refl _), e1]
        exact ⟨hs, hf⟩
    · have hjl : j < n + 1 := by have := (List.getElem?_eq_some_iff.1 hi).1; rw [pathOf_len] at this; exact this
      have e : (pathOf q (n + 1) s).take j = (pathOf q n (q.at_ s).frm).take j := by
        show (pathOf q n (q.at_ s).frm ++ [(q.at_ s).by_]).take j = _
        rw [List.take_append_of_le_length (by omega)]
      rw [e]
      by_cases hjn : j < n
      · refine g3 j i ?_
        have h2 : (pathOf q n (q.at_ s).frm ++ [(q.at_ s).by_])[j]? = some i := hi
        rw [List.getElem?_append_left (by omega)] at h2; exact h2
      · have : j = n := by omega
        subst this
        have h2 : (pathOf q j (q.at_ s).frm ++ [(q.at_ s).by_])[j]? = some i := hi
        rw [List.getElem?_append_right (by omega), hl, Nat.sub_self] at h2
        simp at h2
        subst h2
        rw [List.take_of_length_le (by omega), g1]
        exact (List.getElem?_eq_some_iff.1 p3).1
end Rc
end
end Go.Proofs.YtjlkjhmmbaljiaaGreatDoor
