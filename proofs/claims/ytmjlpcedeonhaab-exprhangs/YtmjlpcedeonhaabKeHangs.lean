/-
  The walk of ExprHangs: what an expression says hangs on its names alone.
-/
import Derived.Test.YtmjlpcedeonhaabNaOrder
import Derived.Test.YtmjlpcedeonhaabKeSays
import Derived.Test.YtmjlpcedeonhaabKeRow
import Derived.Test.YtmjlpcedeonhaabRtBound
import Derived.Laws.AppendOwnNone
import Derived.Deep.RegionWith
import Derived.Deep.LoopGhost
import Derived.Deep.DeepCutAuto
namespace Go.Proofs.Ytmjlpcedeonhaab
open Go.RowKit
/-- those of some that are no such names -/
def extra (ns : List (List UInt8)) (more : List ByteArray) : List ByteArray := more.filter fun m => !(amongB (ns.map toBA) m.data.toList)
theorem among_map (ns : List (List UInt8)) (n : List UInt8) : amongB (ns.map toBA) n = ns.contains n := by
  unfold amongB
  rw [List.any_map]
  induction ns with
  | nil => rfl
  | cons a r ih =>
    simp only [List.any_cons, Function.comp, List.contains_cons]
    rw [ih]
    congr 1
    simp only [toBA, List.toList_toArray]
    exact Bool.eq_iff_iff.2 ⟨fun h => by rw [beq_iff_eq] at *; exact h.symm, fun h => by rw [beq_iff_eq] at *; exact h.symm⟩
theorem among_extra (ns : List (List UInt8)) (is more : List ByteArray) (n : List UInt8) (h : n ∈ ns) : amongB (is ++ extra ns more) n = amongB is n := by
  unfold amongB
  rw [List.any_append]
  have : (extra ns more).any (fun s => s.data.toList == n) = false := by
    rw [List.any_eq_false]
    intro s hs
    unfold extra at hs
    rw [List.mem_filter, among_map] at hs
    intro e
    rw [beq_iff_eq] at e
    rw [e] at hs
    simp [h] at hs
  rw [this, Bool.or_false]
theorem extra_succ (ns : List (List UInt8)) (more : List ByteArray) (k : Nat) (h : k < more.length) : extra ns (more.take (k + 1)) = extra ns (more.take k) ++ (if amongB (ns.map toBA) more[k].data.toList then [] else [more[k]]) := by
  unfold extra
  rw [List.take_succ_eq_append_getElem h, List.filter_append]
  congr 1
  cases hb : amongB (ns.map toBA) more[k].data.toList <;> simp [hb]
theorem extra_le (ns : List (List UInt8)) (more : List ByteArray) : (extra ns more).length ≤ more.length := List.length_filter_le _ _
/-- a row of strings of the call's own -/
theorem Strs.own {w : World} {B : Nat} {v : Value} {ss : List ByteArray} (h : w.ownsRow B 9 1 v ss.length (ss.map Value.string)) (hl : ss.length ≤ 1000000) : Strs w v ss := by
  have hown := h
  rcases h.2 with ⟨hv, h0⟩ | ⟨g, cap, cur, hv, hbg, hg, hnc, hcm, hcs, htake⟩
  · exact .inl ⟨List.length_eq_zero_iff.1 h0, none, 0, by rw [hv]⟩
  · refine .inr ⟨g, 0, cap, hv, hnc, hl, fun k s hs => ?_⟩
    have := hown.cells (g := g) (by rw [hv]; rfl) k (.string s) (by rw [List.getElem?_map, hs]; rfl)
    rw [Nat.zero_add]
    cases k <;> simpa [Addr.add] using this
/-- a slice of strings that can be appended from -/
def SrcS (w : World) (v : Value) (ss : List ByteArray) : Prop := (ss = [] ∧ v = .slice none 0 0) ∨ (ss = [] ∧ ∃ a cap, v = .slice (some a) 0 cap) ∨ ∃ g o cap, v = .slice (some ⟨g, o, none⟩) ss.length cap ∧ ∀ k s, ss[k]? = some s → w.cell? ⟨g, o + k, none⟩ = some (.string s)
theorem SrcS.below {w w' : World} {sv : Value} {ss : List ByteArray} (h : SrcS w sv ss) (hb : Below w.heap.size w w') : SrcS w' sv ss := by
  rcases h with h | h | ⟨g, o, cap, h1, h4⟩
  · exact .inl h
  · exact .inr (.inl h)
  · exact .inr (.inr ⟨g, o, cap, h1, fun k s hs => Stay.below (ok := fun _ => True) hb g _ _ trivial (h4 k s hs)⟩)
/-- append of such a slice to a row of the call's own -/
theorem wpList_append_strs {w : World} {ops : Array Oper} {rest : List Oper} {o : Oper} {a : Act} {Q : Exit → Act → World → Prop} (hgd : o.guard = none) (s x : Operand)
    (ho : o.op = .call { callee := .builtin .append, args := #[s, x], argTypes := #[22, 22] })
    (base : Nat) (v : Value) (xs ys : List ByteArray) (hs : a.eval s = v) (hown : w.ownsRow base 9 1 v xs.length (xs.map Value.string)) (xv : Value) (hx : a.eval x = xv) (hsrc : SrcS w xv ys)
    (hlen : xs.length + ys.length ≤ 1000000) (hbase : base ≤ w.heap.size)
    (h : ∀ v' w', w'.ownsRow base 9 1 v' (xs ++ ys).length ((xs ++ ys).map Value.string) → w.grownBy w' v.ownBlock → (v'.ownBlock = v.ownBlock ∨ v'.ownBlock = some w.heap.size) → wpList Try.prog ops Q rest (a.put o.dst v') w') : wpList Try.prog ops Q (o :: rest) a w := by
  obtain ⟨i0, hi0, hz0, hz1, hz2⟩ := info_parts Try.infoStr
  rcases hsrc with ⟨rfl, rfl⟩ | ⟨rfl, ad, cap, rfl⟩ | ⟨g, of, cap, rfl, hc⟩
  · refine wpList_append_own_none hgd s x 22 ho base 9 i0 1 Try.underlying22 hi0 v xs.length (xs.map Value.string) hs hown hx ?_
    exact h v w (by simpa using hown) ⟨rfl, rfl, rfl, Nat.le_refl _, fun _ _ _ => rfl⟩ (.inl rfl)
  · refine wpList_append_own_at w hgd s x 22 ho base 9 i0 (.string ⟨#[]⟩) 1 16 Try.underlying22 hi0 hz0 hz1 hz2 rfl (by decide) v xs.length (xs.map Value.string) hs hown ad 0 cap [] hx (by simp) (fun j u hj => by simp at hj) (fun u hu => by cases hu) (by unfold maxLen; simp at hlen; omega) (by simp at hlen; omega) hbase ?_
    intro v' w' h1 h2 _ h4
    exact h v' w' (by simpa using h1) h2 h4
  · refine wpList_append_own_at w hgd s x 22 ho base 9 i0 (.string ⟨#[]⟩) 1 16 Try.underlying22 hi0 hz0 hz1 hz2 rfl (by decide) v xs.length (xs.map Value.string) hs hown ⟨g, of, none⟩ ys.length cap (ys.map Value.string) hx (by simp) ?_ ?_ (by unfold maxLen; omega) (by omega) hbase ?_
    · intro j u hj
      rw [List.getElem?_map] at hj
      cases hy : ys[j]? with
      | none => rw [hy] at hj; simp at hj
      | some s0 =>
        rw [hy] at hj
        simp only [Option.map_some, Option.some.injEq] at hj
        have := hc j s0 hy
        rw [hj] at this
        cases j <;> simpa [Addr.add] using this
    · intro u hu
      obtain ⟨s0, _, rfl⟩ := List.mem_map.1 hu
      rfl
    · intro v' w' h1 h2 _ h4
      exact h v' w' (by simpa using h1) h2 h4
/-- what a walk is told of a slice of strings that came in, which is appended from, too -/
def InSrc (W : World) (a : Option Addr) (n c : Nat) (ss : List ByteArray) : Prop := n ≤ 9223372036854775807 ∧ (n ≤ 1000000 → Strs W (.slice a n c) ss ∧ SrcS W (.slice a n c) ss ∧ ss.length = n)
theorem in_src {H : Type} {enc : TypeId × Value → H} {W : World} {a : Option Addr} {n c : Nat} {d : DataW H} {p : List MemPlace} (h : DataW.Trod enc Try.prog W 0 (fun _ => true) true 22 (.slice a n c) d p) : ∃ ss, InSrc W a n c ss := by
  obtain ⟨fuel, hf⟩ := h
  rcases Go.ChangeShapes.open_strings Try.underlying22 Try.underlying9 (by kernel_rfl) hf with ⟨hcs, _⟩ | ⟨x, l, cc, ss, hcs, _, hl, hm, hz, _, hcell, _⟩
  · simp [Value.cells] at hcs
    obtain ⟨rfl, rfl, rfl⟩ := hcs
    exact ⟨[], by decide, fun _ => ⟨.inl ⟨rfl, _, _, rfl⟩, .inl ⟨rfl, rfl⟩, rfl⟩⟩
  · simp [Value.cells] at hcs
    obtain ⟨rfl, rfl, rfl⟩ := hcs
    have hzz : ss.length = c := by simpa using hz
    refine ⟨ss.take n, by unfold maxLen at hm; omega, fun hn => ?_⟩
    have hS := Strs.mk W x n c ss hl hzz hcell hn
    have hlen : (ss.take n).length = n := by rw [List.length_take]; omega
    refine ⟨hS, ?_, hlen⟩
    rcases hS with ⟨h0, _⟩ | ⟨g, o, cap, h1, _, _, h4⟩
    · have : n = 0 := by rw [← hlen, h0]; rfl
      subst this
      exact .inr (.inl ⟨h0, x, c, rfl⟩)
    · exact .inr (.inr ⟨g, o, cap, h1, h4⟩)
/-- among, to the letter -/
theorem among_new (a : Option Addr) (n cap : Nat) (w : World) :
    Calls Try.prog 8 #[.slice a n cap] w fun e w' => e = .returned (.func (.func 18) #[] #[.pointer (some ⟨w.heap.size, 0, none⟩)]) ∧ w' = w.alloc (.cells #[.slice a n cap] 22) := by
  have hmf : ∀ (fn : Fn) (first cap : Array Value) (w : World), (Instr.makeFunc fn first cap).run Try.prog w = .ok (.func fn first cap) w := fun _ _ _ _ => rfl
  go_enter Try.func8, Try.ntmps8
  go_wp2
  go_ret
  exact ⟨rfl, rfl⟩
/-- its closure, called at once -/
theorem among_at (a : Option Addr) (n cap : Nat) (ss : List ByteArray) (l : List UInt8) (w : World) (h : Strs w (.slice a n cap) ss) :
    Calls Try.prog 18 #[.string ⟨l.toArray⟩, .pointer (some ⟨w.heap.size, 0, none⟩)] (w.alloc (.cells #[.slice a n cap] 22)).drew fun e w' => e = .returned (.bool (amongB ss l)) ∧ w' = (w.alloc (.cells #[.slice a n cap] 22)).drew := by
  refine among1_any w.heap.size (.slice a n cap) ss l _ (by simp) ?_
  exact h.below ⟨rfl, rfl, rfl, by simp, fun k hk => Below.heap_alloc w _ k hk⟩
theorem owns_new (w : World) (B : Nat) (hB : B ≤ w.heap.size) : (w.alloc (.cells #[] 9)).ownsRow B 9 1 (.slice (some ⟨w.heap.size, 0, none⟩) 0 0) ([] : List ByteArray).length (([] : List ByteArray).map Value.string) := by
  refine ⟨by simp, .inr ⟨w.heap.size, 0, #[], rfl, hB, (by show (w.heap.push _)[w.heap.size]? = _; simp), by simp, by simp, by simp, by simp⟩⟩
theorem size_alloc1 (w : World) (o : Obj) : (w.alloc o).heap.size = w.heap.size + 1 := by simp
theorem below_drew (w : World) (o : Obj) : Below w.heap.size w (w.alloc o).drew := ⟨rfl, rfl, rfl, by simp, fun k hk => Below.heap_alloc w _ k hk⟩
theorem src_one (w : World) (s : ByteArray) : SrcS (w.alloc (.cells #[.string s] 9)) (.slice (some ⟨w.heap.size, 0, none⟩) 1 1) [s] :=
  .inr (.inr ⟨w.heap.size, 0, 1, rfl, fun k s' hk => by
    match k, hk with
    | 0, hk => simp at hk; subst hk; simp
    | k + 1, hk => simp at hk⟩)
/-- two rows of strings of the call's own, and all that is older stands -/
structure Two (w0 : World) (va vb : Value) (xs ys : List ByteArray) (w : World) : Prop where
  a : w.ownsRow w0.heap.size 9 1 va xs.length (xs.map Value.string)
  b : w.ownsRow w0.heap.size 9 1 vb ys.length (ys.map Value.string)
  ne : ∀ g, va.ownBlock = some g → vb.ownBlock ≠ some g
  low : Below w0.heap.size w0 w
theorem owns_below {w w' : World} {B : Nat} {v : Value} {n : Nat} {xs : List Value} (h : w.ownsRow B 9 1 v n xs) (hb : Below w.heap.size w w') : w'.ownsRow B 9 1 v n xs :=
  h.kept (row := none) ⟨hb.os, hb.tape, hb.output, hb.size, fun k hk _ => hb.block k hk⟩ (by cases v.ownBlock <;> simp)
theorem Two.below {w0 w w' : World} {va vb : Value} {xs ys : List ByteArray} (h : Two w0 va vb xs ys w) (hb : Below w.heap.size w w') : Two w0 va vb xs ys w' :=
  ⟨owns_below h.a hb, owns_below h.b hb, h.ne, h.low.trans (hb.mono h.low.size)⟩
theorem Two.left {w0 w w' : World} {va vb va' : Value} {xs xs' ys : List ByteArray} (h : Two w0 va vb xs ys w) (ho : w'.ownsRow w0.heap.size 9 1 va' xs'.length (xs'.map Value.string)) (hg : w.grownBy w' va.ownBlock) (hn : va'.ownBlock = va.ownBlock ∨ va'.ownBlock = some w.heap.size) : Two w0 va' vb xs' ys w' := by
  refine ⟨ho, h.b.kept hg ?_, ?_, h.low.grown hg h.low.size (fun k hk => (h.a.lt k hk).1)⟩
  · cases hv : vb.ownBlock with
    | none => exact .inl rfl
    | some k => exact .inr (fun e => h.ne k e.symm hv)
  · intro g hg2 e
    rcases hn with hn | hn
    · exact h.ne g (by rw [← hn]; exact hg2) e
    · rw [hn] at hg2
      simp only [Option.some.injEq] at hg2
      have := (h.b.lt g e).2
      omega
theorem Two.swap {w0 w : World} {va vb : Value} {xs ys : List ByteArray} (h : Two w0 va vb xs ys w) : Two w0 vb va ys xs w := ⟨h.b, h.a, fun g h1 h2 => h.ne g h2 h1, h.low⟩
theorem Two.right {w0 w w' : World} {va vb vb' : Value} {xs ys ys' : List ByteArray} (h : Two w0 va vb xs ys w) (ho : w'.ownsRow w0.heap.size 9 1 vb' ys'.length (ys'.map Value.string)) (hg : w.grownBy w' vb.ownBlock) (hn : vb'.ownBlock = vb.ownBlock ∨ vb'.ownBlock = some w.heap.size) : Two w0 va vb' xs ys' w' := (h.swap.left ho hg hn).swap
theorem owns_slice {w : World} {B : Nat} {e : TypeId} {v : Value} {n : Nat} {xs : List Value} (h : w.ownsRow B e 1 v n xs) : ∃ a c, v = .slice a n c := by
  rcases h.2 with ⟨hv, h0⟩ | ⟨g, cap, cur, hv, _⟩
  · exact ⟨_, _, by rw [hv, h0]⟩
  · exact ⟨_, _, hv⟩
set_option maxHeartbeats 4000000 in
set_option maxRecDepth 100000 in
theorem hangs_any (s : ByteArray) (hs : s.size ≤ maxLen) (a1 a2 a3 : Option Addr) (n1 c1 n2 c2 n3 c3 : Nat) (hn1 : n1 ≤ 9223372036854775807) (hn2 : n2 ≤ 9223372036854775807) (hn3 : n3 ≤ 9223372036854775807) (is was more : List ByteArray) (w : World)
    (h1 : n1 ≤ 20 → Strs w (.slice a1 n1 c1) is ∧ SrcS w (.slice a1 n1 c1) is ∧ is.length = n1) (h2 : n2 ≤ 20 → Strs w (.slice a2 n2 c2) was ∧ SrcS w (.slice a2 n2 c2) was ∧ was.length = n2) (h3 : n3 ≤ 20 → Strs w (.slice a3 n3 c3) more ∧ SrcS w (.slice a3 n3 c3) more ∧ more.length = n3) :
    Calls Try.prog 3 #[.string s, .slice a1 n1 c1, .slice a2 n2 c2, .slice a3 n3 c3] w fun e w' => e = .returned (.bool true) ∧ Below w.heap.size w w' := by
  have hs' := hs
  unfold maxLen at hs'
  by_cases q1 : 900 < s.size
  · have q1' : (900 : Int) < (s.size : Int) := by omega
    clear h1 h2 h3
    go_enter Try.func3, Try.ntmps3
    go_wp2_with fail
    go_ret
    exact ⟨rfl, Below.refl _ _⟩
  have q1' : ¬ (900 : Int) < (s.size : Int) := by omega
  by_cases q2 : 20 < n1
  · have q2' : (20 : Int) < (n1 : Int) := by omega
    clear h1 h2 h3
    go_enter Try.func3, Try.ntmps3
    go_wp2_with fail
    go_ret
    exact ⟨rfl, Below.refl _ _⟩
  have q2' : ¬ (20 : Int) < (n1 : Int) := by omega
  by_cases q3 : 20 < n2
  · have q3' : (20 : Int) < (n2 : Int) := by omega
    clear h1 h2 h3
    go_enter Try.func3, Try.ntmps3
    go_wp2_with fail
    go_ret
    exact ⟨rfl, Below.refl _ _⟩
  have q3' : ¬ (20 : Int) < (n2 : Int) := by omega
  by_cases q4 : 20 < n3
  · have q4' : (20 : Int) < (n3 : Int) := by omega
    clear h1 h2 h3
    go_enter Try.func3, Try.ntmps3
    go_wp2_with fail
    go_ret
    exact ⟨rfl, Below.refl _ _⟩
  have q4' : ¬ (20 : Int) < (n3 : Int) := by omega
  have S1 := hide (h1 (by omega))
  have S2 := hide (h2 (by omega))
  have S3 := hide (h3 (by omega))
  have HP := hide (Parse_any s w hs)
  clear h1 h2 h3
  obtain ⟨T, hT⟩ : ∃ T, T = Ex.parse s.data.toList := ⟨_, rfl⟩
  have HT := hide hT
  rw [← hT] at HP
  clear hT q1 q2 q3 q4
  go_enter Try.func3, Try.ntmps3
  go_wp2_with fail
  refine HP.out.mono ?_
  intro e w1 hq
  clear HP
  match T, hq, HT with
  | .inl (err, p), hq, _ =>
    obtain ⟨hb1, hq⟩ := hq
    have HB1 := hide hb1
    obtain ⟨t, y, he⟩ : ∃ t y, e = .returned (.tuple #[.nilIface, .iface t y]) := by
      match p, hq with
      | none, hq => exact ⟨_, _, hq⟩
      | some p, ⟨v, he, a, _, hv, _⟩ => exact ⟨_, _, by rw [he, hv]⟩
    subst he
    clear hb1 hq
    go_wp2_with fail
    refine (says_any w1).mono ?_
    rintro e w2 ⟨rfl, hb2⟩
    have HB2 := hide hb2
    clear hb2
    go_wp2_with fail
    refine (says_any w2).mono ?_
    rintro e w3 ⟨rfl, hb3⟩
    have HB3 := hide hb3
    clear hb3
    go_wp2_with fail
    go_ret
    have s1 := HB1.out.size
    have s2 := HB2.out.size
    exact ⟨rfl, (HB1.out.trans (HB2.out.mono (by omega))).trans (HB3.out.mono (by omega))⟩
  | .inr x, hq, HT =>
    obtain ⟨hb1, v, rfl, hx1⟩ := hq
    have HBD := hide (Ex.parse_bnd _ x HT.out.symm)
    have HB1 := hide hb1
    have HX1 := hide hx1
    obtain ⟨tu, yu, hiu⟩ := IsEx.iface _ v hx1
    subst hiu
    clear hb1 hx1
    go_wp2_with fail
    refine (says_any w1).mono ?_
    rintro e w2 ⟨rfl, hb2⟩
    have HX2 := hide (HX1.out.later hb2)
    have C2 := hide (HB1.out.trans (hb2.mono HB1.out.size))
    clear hb2
    have hsz1 : x.size ≤ 1000000 := by have := HBD.out; omega
    go_wp2_with fail
    refine (Names_any _ x _ w2 HX2.out hsz1).mono ?_
    rintro e w3 ⟨svn, rfl, hsn, hb3⟩
    have HSN3 := hide hsn
    have HX3 := hide (HX2.out.later hb3)
    have C3 := hide (C2.out.trans (hb3.mono C2.out.size))
    obtain ⟨an, nn, cn, hsvn⟩ : ∃ a n c, svn = .slice a n c := by
      rcases hsn with ⟨_, a, cap, h⟩ | ⟨g, o, cap, h, _⟩
      · exact ⟨_, _, _, h⟩
      · exact ⟨_, _, _, h⟩
    subst hsvn
    clear hsn hb3
    go_wp2_with fail
    refine (Edges_any _ x _ w3 HX3.out hsz1).mono ?_
    rintro e w4 ⟨sve, rfl, hse, hb4⟩
    have HSE4 := hide hse
    have HSN4 := hide (HSN3.out.below hb4)
    have HX4 := hide (HX3.out.later hb4)
    have C4 := hide (C3.out.trans (hb4.mono C3.out.size))
    obtain ⟨ae, ne, ce, hsve⟩ : ∃ a n c, sve = .slice a n c := by
      rcases hse with ⟨_, a, cap, h⟩ | ⟨g, o, cap, h, _⟩
      · exact ⟨_, _, _, h⟩
      · exact ⟨_, _, _, h⟩
    subst hsve
    clear hse hb4 hsz1
    have S1b := hide (S1.out.2.1.below C4.out)
    have HL1 : Hid (is.length ≤ 20 ∧ was.length ≤ 20 ∧ more.length ≤ 20) := ⟨by rw [S1.out.2.2]; omega, by rw [S2.out.2.2]; omega, by rw [S3.out.2.2]; omega⟩
    go_wp2_with (at_builtin; refine wpList_append_strs rfl (.tmp 55) (.tmp 56) rfl w4.heap.size (.slice (some ⟨w4.heap.size, 0, none⟩) 0 0) [] is rfl (owns_new w4 _ (Nat.le_refl _)) (.slice a1 n1 c1) rfl ?c1 ?c2 ?c3 ?_)
    case c1 => exact S1b.out.below ((Below.refl _ _).alloc (Nat.le_refl _) _)
    case c2 => have := HL1.out.1; simp; omega
    case c3 => simp
    intro va w5 ho5 hg5 hn5
    have HO5 := hide ho5
    have HC5 := hide (((Below.refl _ w4).alloc (Nat.le_refl _) (.cells #[] 9)).grown hg5 (by simp) (fun k hk => by simp [Value.ownBlock] at hk; omega))
    obtain ⟨aa, ca, hva⟩ := owns_slice ho5
    subst hva
    clear ho5 hg5 hn5
    have hlen0 : (w5.alloc (.cells #[] 9)).heap.size = w5.heap.size + 1 := size_alloc1 _ _
    generalize hl1 : is.length = li at *
    have HLI := hide hl1
    clear hl1
    go_wp2_with (at_builtin; refine wpList_append_strs rfl (.tmp 58) (.tmp 59) rfl w4.heap.size (.slice (some ⟨w5.heap.size, 0, none⟩) 0 0) [] was rfl (owns_new w5 _ HC5.out.size) (.slice a2 n2 c2) rfl ?c1 ?c2 ?c3 ?_)
    case c1 => exact (S2.out.2.1.below (C4.out.trans (HC5.out.mono C4.out.size))).below ((Below.refl _ _).alloc (Nat.le_refl _) _)
    case c2 => have := HL1.out.2.1; simp; omega
    case c3 => have := HC5.out.size; simp; omega
    intro vb w6 ho6 hg6 hn6
    have T6 := hide (Two.right (⟨owns_below (by rw [HLI.out]; exact HO5.out) ((Below.refl _ w5).alloc (Nat.le_refl _) _), owns_new w5 _ HC5.out.size, fun g h1 h2 => by simp [Value.ownBlock] at h2; have := (HO5.out.lt g h1).2; omega, HC5.out.alloc HC5.out.size _⟩ : Two w4 (.slice aa li ca) (.slice (some ⟨w5.heap.size, 0, none⟩) 0 0) is [] (w5.alloc (.cells #[] 9))) ho6 hg6 (by rw [hlen0]; exact hn6))
    obtain ⟨ab, cb, hvb⟩ := owns_slice ho6
    subst hvb
    clear ho6 hg6 hn6 HO5 HC5
    generalize hl2 : was.length = lw at *
    have HLW := hide hl2
    clear hl2
    generalize hN : ordered (Ex.named true x) = N at *
    generalize hE : ordered (Ex.named false x) = E at *
    have HN := hide hN
    have HE := hide hE
    clear hN hE
    go_wp2_with fail
    go_loopg [15, 13, 14] more.length (fun g i va vb wr => ∃ k, k ≤ more.length ∧ g = more.length - k ∧ i = .int .i64 (k : Int) ∧ Two w4 va vb (is ++ extra N (more.take k)) (was ++ extra E (more.take k)) wr)
    case atStart => exact ⟨0, Nat.zero_le _, rfl, rfl, by simpa [extra] using T6.out⟩
    case round =>
      obtain ⟨k, hk, hgk, rfl, htwo⟩ := hrel
      have HTW := hide htwo
      obtain ⟨ga, gc, hga⟩ := owns_slice htwo.a
      obtain ⟨gb, gd, hgb⟩ := owns_slice htwo.b
      subst hga
      subst hgb
      have HN3 := hide S3.out.2.2
      have HGK := hide hgk
      generalize hx1 : is ++ extra N (more.take k) = xs at *
      generalize hy1 : was ++ extra E (more.take k) = ys at *
      generalize hx2 : xs.length = lx at *
      generalize hy2 : ys.length = ly at *
      have HX1' := hide (And.intro hx1 hx2)
      have HY1' := hide (And.intro hy1 hy2)
      clear htwo hgk hx1 hx2 hy1 hy2
      by_cases hlt : k < n3
      · have hkm : k < more.length := by rw [HN3.out]; exact hlt
        obtain ⟨l, hl⟩ : ∃ l : List UInt8, more[k] = ⟨l.toArray⟩ := ⟨more[k].data.toList, by simp⟩
        have HEXA := hide (extra_succ N more k hkm)
        have HEXB := hide (extra_succ E more k hkm)
        rw [hl] at HEXA HEXB
        have hS3 : Strs w4 (.slice a3 n3 c3) more := S3.out.1.below C4.out
        have hcl : ∃ g o, a3 = some ⟨g, o, none⟩ ∧ n3 ≤ c3 ∧ w4.cell? ⟨g, o + k, none⟩ = some (.string ⟨l.toArray⟩) := by
          rcases hS3 with ⟨h0, _⟩ | ⟨g, o, cap, hv, hcap, _, hc⟩
          · rw [h0] at hkm; simp at hkm
          · have := hc k more[k] (List.getElem?_eq_getElem hkm)
            rw [hl] at this
            simp only [Value.slice.injEq] at hv
            exact ⟨g, o, hv.1, by rw [← HN3.out, hv.2.2]; exact hcap, this⟩
        obtain ⟨g3, o3, rfl, hcap3, hc34⟩ := hcl
        have HCW := hide (fun (W : World) (h : Below w4.heap.size w4 W) => (h.cell (World.block_lt_of_cell? _ _ hc34)).trans hc34)
        have hc3 := HCW.out wr HTW.out.low
        clear hc34
        have hc3' : ∀ ob, (wr.alloc ob).cell? ⟨g3, o3 + k, none⟩ = some (.string ⟨l.toArray⟩) := fun ob => by rw [World.cell?_alloc_old _ _ _ (Nat.ne_of_lt (World.block_lt_of_cell? _ _ hc3))]; exact hc3
        clear hS3
        clear hl hkm
        have HCA := hide (among_at an nn cn (N.map toBA) l wr (HSN4.out.below HTW.out.low))
        generalize hba : amongB (N.map toBA) l = ba at *
        generalize hbb : amongB (E.map toBA) l = bb at *
        have HBB := hide hbb
        clear hba hbb
        go_upto_region 11 with fail
        go_cut [74] (fun b wx => b = .bool (!ba) ∧ Below wr.heap.size wr wx)
        case first =>
          go_region_with (first | (go_at_call 8; refine (among_new an nn cn _).mono ?_; rintro e w' ⟨rfl, rfl⟩) | (go_at_call 18; refine HCA.out.mono ?_; rintro e w' ⟨rfl, rfl⟩))
          all_goals
            go_wp2_with fail
            go_meet
            exact ⟨rfl, below_drew wr _⟩
        case rest =>
          obtain ⟨rfl, hbc⟩ := hcut
          obtain ⟨wd, rfl⟩ : ∃ wd, wd = wc := ⟨wc, rfl⟩
          have HTC := hide (HTW.out.below hbc)
          have hcc3 : wd.cell? ⟨g3, o3 + k, none⟩ = some (.string ⟨l.toArray⟩) := HCW.out wd HTC.out.low
          clear hbc hc3 hc3' HCA
          go_upto_if 74 with fail
          go_cut [13] (fun va wx => (∃ a c, va = .slice a (xs ++ if ba then [] else [(⟨l.toArray⟩ : ByteArray)]).length c) ∧ Two w4 va (.slice gb ly gd) (xs ++ if ba then [] else [⟨l.toArray⟩]) ys wx)
          case first =>
            have HLX : Hid (xs.length ≤ 100) := by
              show _ ≤ _
              rw [← HX1'.out.1, List.length_append]
              have := extra_le N (more.take k)
              rw [List.length_take] at this
              have := HL1.out
              have := HLI.out
              omega
            cases ba with
            | true =>
              go_wp2_with fail
              go_meet
              refine ⟨⟨ga, gc, ?_⟩, ?_⟩
              · rw [← HX1'.out.2]; simp
              · simpa using HTC.out
            | false =>
              go_wp2_with (at_builtin; refine wpList_append_strs rfl (.tmp 75) (.tmp 80) rfl w4.heap.size (.slice ga lx gc) xs [⟨l.toArray⟩] rfl (owns_below HTC.out.a ((Below.refl _ _).alloc (Nat.le_refl _) _)) (.slice (some ⟨wd.heap.size, 0, none⟩) 1 1) rfl ?c1 ?c2 ?c3 ?_)
              case c1 => exact src_one wd _
              case c2 => have := HLX.out; simp; omega
              case c3 => have := HTC.out.low.size; simp; omega
              intro va w7 ho7 hg7 hn7
              have ho7' : w7.ownsRow w4.heap.size 9 1 va (xs ++ [(⟨l.toArray⟩ : ByteArray)]).length ((xs ++ [(⟨l.toArray⟩ : ByteArray)]).map Value.string) := by simpa using ho7
              have HT7 := hide ((HTC.out.below ((Below.refl _ _).alloc (Nat.le_refl _) (.cells #[.string ⟨l.toArray⟩] 9))).left ho7' hg7 (hn7.imp id fun h => by rw [size_alloc1]; exact h))
              obtain ⟨na, nc, hna⟩ := owns_slice ho7
              subst hna
              clear ho7 ho7' hg7 hn7
              go_wp2_with fail
              go_meet
              exact ⟨⟨na, nc, by simp⟩, by simpa using HT7.out⟩
          case rest =>
            obtain ⟨⟨na, nc, rfl⟩, htwo2⟩ := hcut
            obtain ⟨we, rfl⟩ : ∃ we, we = wc := ⟨wc, rfl⟩
            have HTW2 := hide htwo2
            have HLE : Hid (Below w4.heap.size w4 we) := htwo2.low
            clear HTC hcc3
            have hd3 : we.cell? ⟨g3, o3 + k, none⟩ = some (.string ⟨l.toArray⟩) := HCW.out we HTW2.out.low
            have hd3' : ∀ ob, (we.alloc ob).cell? ⟨g3, o3 + k, none⟩ = some (.string ⟨l.toArray⟩) := fun ob => by rw [World.cell?_alloc_old _ _ _ (Nat.ne_of_lt (World.block_lt_of_cell? _ _ hd3))]; exact hd3
            have HCB := hide (among_at ae ne ce (E.map toBA) l we (HSE4.out.below HTW2.out.low))
            rw [HBB.out] at HCB
            generalize hx3 : (xs ++ if ba then [] else [(⟨l.toArray⟩ : ByteArray)]) = xs3 at *
            generalize hx4 : xs3.length = lx3 at *
            have HX3' := hide (And.intro hx3 hx4)
            clear hx3 hx4 htwo2 HLE
            go_upto_region 13 with fail
            go_cut [89] (fun b wx => b = .bool (!bb) ∧ Below we.heap.size we wx)
            case first =>
              go_region_with (first | (go_at_call 8; refine (among_new ae ne ce _).mono ?_; rintro e w' ⟨rfl, rfl⟩) | (go_at_call 18; refine HCB.out.mono ?_; rintro e w' ⟨rfl, rfl⟩))
              all_goals
                go_wp2_with fail
                go_meet
                exact ⟨rfl, below_drew we _⟩
            case rest =>
              obtain ⟨rfl, hbc⟩ := hcut
              obtain ⟨wf, rfl⟩ : ∃ wf, wf = wc := ⟨wc, rfl⟩
              have HTF := hide (HTW2.out.below hbc)
              have hcf3 : wf.cell? ⟨g3, o3 + k, none⟩ = some (.string ⟨l.toArray⟩) := HCW.out wf HTF.out.low
              clear hbc hd3 hd3' HCB
              have HLY : Hid (ys.length ≤ 100) := by
                show _ ≤ _
                rw [← HY1'.out.1, List.length_append]
                have := extra_le E (more.take k)
                rw [List.length_take] at this
                have := HL1.out
                have := HLW.out
                omega
              cases bb with
              | true =>
                go_wp2_with fail
                go_roundg (more.length - (k + 1))
                case measure => have := HGK.out; have := HN3.out; omega
                case rel =>
                  refine ⟨k + 1, by have := HN3.out; omega, rfl, by go_num, ?_⟩
                  rw [HEXA.out, HEXB.out, ← List.append_assoc, ← List.append_assoc, HX1'.out.1, HY1'.out.1, HX3'.out.1]
                  simpa using HTF.out
              | false =>
                go_wp2_with (at_builtin; refine wpList_append_strs rfl (.tmp 90) (.tmp 95) rfl w4.heap.size (.slice gb ly gd) ys [⟨l.toArray⟩] rfl (owns_below HTF.out.b ((Below.refl _ _).alloc (Nat.le_refl _) _)) (.slice (some ⟨wf.heap.size, 0, none⟩) 1 1) rfl ?c1 ?c2 ?c3 ?_)
                case c1 => exact src_one wf _
                case c2 => have := HLY.out; simp; omega
                case c3 => have := HTF.out.low.size; simp; omega
                intro vb w7 ho7 hg7 hn7
                have ho7' : w7.ownsRow w4.heap.size 9 1 vb (ys ++ [(⟨l.toArray⟩ : ByteArray)]).length ((ys ++ [(⟨l.toArray⟩ : ByteArray)]).map Value.string) := by simpa using ho7
                have HT7 := hide ((HTF.out.below ((Below.refl _ _).alloc (Nat.le_refl _) (.cells #[.string ⟨l.toArray⟩] 9))).right ho7' hg7 (hn7.imp id fun h => by rw [size_alloc1]; exact h))
                obtain ⟨nb, nd, hnb⟩ := owns_slice ho7
                subst hnb
                clear ho7 ho7' hg7 hn7
                go_wp2_with fail
                go_roundg (more.length - (k + 1))
                case measure => have := HGK.out; have := HN3.out; omega
                case rel =>
                  refine ⟨k + 1, by have := HN3.out; omega, rfl, by go_num, ?_⟩
                  rw [HEXA.out, HEXB.out, ← List.append_assoc, ← List.append_assoc, HX1'.out.1, HY1'.out.1, HX3'.out.1]
                  simpa using HT7.out
      · have hkn : k = n3 := by have := HN3.out; omega
        have HKX : Hid (is ++ extra N more = xs ∧ was ++ extra E more = ys) := by
          show _ ∧ _
          rw [← HX1'.out.1, ← HY1'.out.1, List.take_of_length_le (by have := HN3.out; omega)]
          exact ⟨rfl, rfl⟩
        clear hkn
        go_wp2_with fail
        go_loopg [16] E.length (fun g i wv => ∃ j, j ≤ E.length ∧ g = E.length - j ∧ i = .int .i64 (j : Int) ∧ Two w4 (.slice ga lx gc) (.slice gb ly gd) xs ys wv)
        case atStart => exact ⟨0, Nat.zero_le _, rfl, rfl, HTW.out⟩
        case round =>
          obtain ⟨wv, rfl⟩ : ∃ wv, wv = wr := ⟨wr, rfl⟩
          obtain ⟨j, hj, hgj, rfl, htw⟩ := hrel
          have HTV := hide htw
          have HGJ := hide hgj
          have HNE : Hid (E.length = ne) := by
            show _ = _
            rcases HSE4.out with ⟨h0, _, _, hv⟩ | ⟨_, _, _, hv, _⟩
            · simp only [List.map_eq_nil_iff] at h0
              simp only [Value.slice.injEq] at hv
              rw [h0, hv.2.1]; rfl
            · simp only [Value.slice.injEq] at hv
              rw [hv.2.1]; simp
          have hne : ne ≤ 1000000 := by
            rcases HSE4.out with ⟨h0, _, _, hv⟩ | ⟨_, _, _, hv, _, hl, _⟩
            · simp only [Value.slice.injEq] at hv
              omega
            · simp only [Value.slice.injEq] at hv
              omega
          clear htw hgj
          by_cases hlt2 : j < ne
          · have hje : j < E.length := by rw [HNE.out]; exact hlt2
            obtain ⟨l, hl⟩ : ∃ l : List UInt8, E[j] = l := ⟨_, rfl⟩
            have hcl : ∃ g o, ae = some ⟨g, o, none⟩ ∧ ne ≤ ce ∧ w4.cell? ⟨g, o + j, none⟩ = some (.string ⟨l.toArray⟩) := by
              rcases HSE4.out with ⟨h0, _⟩ | ⟨g, o, cap, hv, hcap, _, hc⟩
              · simp only [List.map_eq_nil_iff] at h0
                rw [h0] at hje; simp at hje
              · have := hc j (toBA l) (by rw [List.getElem?_map, List.getElem?_eq_getElem hje, hl]; rfl)
                simp only [Value.slice.injEq] at hv
                simp only [List.length_map] at hcap hv
                exact ⟨g, o, hv.1, by rw [← HNE.out, hv.2.2]; exact hcap, this⟩
            obtain ⟨g3, o3, rfl, hcap3, hc34⟩ := hcl
            have hc3 : wv.cell? ⟨g3, o3 + j, none⟩ = some (.string ⟨l.toArray⟩) := (HTV.out.low.cell (World.block_lt_of_cell? _ _ hc34)).trans hc34
            have hc3' : ∀ ob, (wv.alloc ob).cell? ⟨g3, o3 + j, none⟩ = some (.string ⟨l.toArray⟩) := fun ob => by rw [World.cell?_alloc_old _ _ _ (Nat.ne_of_lt (World.block_lt_of_cell? _ _ hc3))]; exact hc3
            have HCA := hide (among_at an nn cn (N.map toBA) l wv (HSN4.out.below HTV.out.low))
            have hin : amongB (N.map toBA) l = true := by
              rw [among_map, List.contains_iff_mem, ← HN.out, mem_ordered]
              refine Ex.edges_names x l ?_
              rw [← mem_ordered, HE.out, ← hl]
              exact List.getElem_mem hje
            rw [hin] at HCA
            clear hin hc34 hl hje
            go_upto_region 18 with fail
            go_cut [110] (fun b wx => b = .bool false ∧ Below wv.heap.size wv wx)
            case first =>
              go_region_with (first | (go_at_call 8; refine (among_new an nn cn _).mono ?_; rintro e w' ⟨rfl, rfl⟩) | (go_at_call 18; refine HCA.out.mono ?_; rintro e w' ⟨rfl, rfl⟩))
              all_goals
                go_wp2_with fail
                go_meet
                exact ⟨rfl, below_drew wv _⟩
            case rest =>
              obtain ⟨rfl, hbc⟩ := hcut
              have HTD := hide (HTV.out.below hbc)
              clear hbc hc3 hc3' HCA
              go_wp2_with fail
              go_roundg (E.length - (j + 1))
              case measure => have := HGJ.out; have := HNE.out; omega
              case rel => exact ⟨j + 1, by have := HNE.out; omega, rfl, by go_num, HTD.out⟩
          · have HSA := hide (Strs.own HTV.out.a (by
              rw [← HX1'.out.1, List.length_append]
              have := extra_le N (more.take k)
              rw [List.length_take] at this
              have := HL1.out
              have := HLI.out
              omega))
            have HSB := hide (Strs.own HTV.out.b (by
              rw [← HY1'.out.1, List.length_append]
              have := extra_le E (more.take k)
              rw [List.length_take] at this
              have := HL1.out
              have := HLW.out
              omega))
            have CV := hide (C4.out.trans (HTV.out.low.mono C4.out.size))
            have HXV := hide (HX4.out.later HTV.out.low)
            have HEV : Hid (x.eval (amongB xs) (amongB ys) = x.eval (amongB is) (amongB was)) := by
              show _ = _
              rw [← HKX.out.1, ← HKX.out.2]
              refine Ex.eval_congr _ _ _ _ x (fun n hn => ?_) (fun n hn => ?_)
              · exact among_extra N is more n (by rw [← HN.out, mem_ordered]; exact hn)
              · exact among_extra E was more n (by rw [← HE.out, mem_ordered]; exact hn)
            go_wp2_with fail
            refine (among_any _ xs wv HSA.out).mono ?_
            rintro e w8 ⟨f, rfl, ht, hb8⟩
            have T8 := hide ht
            have HB8 := hide hb8
            obtain ⟨K8, c8, hf, _, _⟩ := ht
            subst hf
            have C8 := hide (CV.out.trans (hb8.mono CV.out.size))
            clear hb8
            go_wp2_with fail
            refine (among_any _ ys w8 (HSB.out.below HB8.out)).mono ?_
            rintro e w9 ⟨f, rfl, ht, hb9⟩
            have T9 := hide ht
            have HB9 := hide hb9
            obtain ⟨K9, c9, hf, _, _⟩ := ht
            subst hf
            have C9 := hide (C8.out.trans (hb9.mono C8.out.size))
            have HX9 := hide ((HXV.out.later HB8.out).later hb9)
            clear hb9
            go_wp2_with fail
            refine (Eval_any _ x _ _ _ _ _ w9 HX9.out (T8.out.below HB9.out) T9.out).mono ?_
            rintro e w10 ⟨rfl, hb10⟩
            have C10 := hide (C9.out.trans (hb10.mono C9.out.size))
            have HY10 := hide (HX9.out.later hb10)
            clear hb10
            rw [HEV.out]
            generalize hev : x.eval (amongB is) (amongB was) = ev
            have HEV2 := hide hev
            clear hev
            go_wp2_with fail
            refine (among_any _ is w10 (S1.out.1.below C10.out)).mono ?_
            rintro e w11 ⟨f, rfl, ht, hb11⟩
            have T11 := hide ht
            have HB11 := hide hb11
            obtain ⟨K11, c11, hf, _, _⟩ := ht
            subst hf
            have C11 := hide (C10.out.trans (hb11.mono C10.out.size))
            clear hb11
            go_wp2_with fail
            refine (among_any _ was w11 (S2.out.1.below C11.out)).mono ?_
            rintro e w12 ⟨f, rfl, ht, hb12⟩
            have T12 := hide ht
            have HB12 := hide hb12
            obtain ⟨K12, c12, hf, _, _⟩ := ht
            subst hf
            have C12 := hide (C11.out.trans (hb12.mono C11.out.size))
            have HY12 := hide ((HY10.out.later HB11.out).later hb12)
            clear hb12
            go_wp2_with fail
            refine (Eval_any _ x _ _ _ _ _ w12 HY12.out (T11.out.below HB12.out) T12.out).mono ?_
            rintro e w13 ⟨rfl, hb13⟩
            have C13 := hide (C12.out.trans (hb13.mono C12.out.size))
            clear hb13
            rw [HEV2.out]
            go_wp2_with fail
            go_ret
            exact ⟨ret_bool (by simp), C13.out⟩
end Go.Proofs.Ytmjlpcedeonhaab
