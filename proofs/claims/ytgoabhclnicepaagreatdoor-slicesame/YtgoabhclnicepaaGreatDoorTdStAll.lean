/-
  What was made tidy, in memory; the walk of leaf. The gathering of a list's parts, in memory: the struct 'gathered', the row of its parts, the set of their numbers; what stays while it turns.
-/
import Derived.Test.YtgoabhclnicepaaGreatDoorTdOfAll
import Derived.Test.YtgoabhclnicepaaGreatDoorTxList
import Derived.Test.YtgoabhclnicepaaGreatDoorMcCloneNAll
namespace Go.Proofs.YtgoabhclnicepaaGreatDoor
section
open Go.RowKit Go.Maps
/-- what 'tidied' holds: the expression, its number, its parts (three cells each) -/
def IsTv (ok : Nat → Prop) (tb : List (List UInt8)) (w : World) : Ex → Value → Nat → Value → Prop
  | ⟨k, nm, l⟩ => fun v n pv => IsEx ok w ⟨k, nm, l⟩ v ∧ Ex.Num tb ⟨k, nm, l⟩ n ∧ ((k ≤ 4 ∧ pv = .slice none 0 0) ∨ (5 ≤ k ∧ ∃ g o cap, pv = .slice (some ⟨g, o, none⟩) l.length cap ∧ l.length ≤ cap ∧ ok g ∧
    ∀ (i : Nat) (Q : Value → Nat → Value → Prop), (l.map fun y => IsTv ok tb w y)[i]? = some Q → ∃ (u : Value) (m : Nat) (qv : Value), w.cell? ⟨g, o + i * 3, none⟩ = some u ∧ w.cell? ⟨g, o + i * 3 + 1, none⟩ = some (.int .i64 (m : Int)) ∧ w.cell? ⟨g, o + i * 3 + 2, none⟩ = some qv ∧ Q u m qv))
theorem IsTv.def (ok : Nat → Prop) (tb : List (List UInt8)) (w : World) (k : Nat) (nm : List UInt8) (l : List Ex) (v : Value) (n : Nat) (pv : Value) : IsTv ok tb w ⟨k, nm, l⟩ v n pv ↔ IsEx ok w ⟨k, nm, l⟩ v ∧ Ex.Num tb ⟨k, nm, l⟩ n ∧ ((k ≤ 4 ∧ pv = .slice none 0 0) ∨ (5 ≤ k ∧ ∃ g o cap, pv = .slice (some ⟨g, o, none⟩) l.length cap ∧ l.length ≤ cap ∧ ok g ∧
    ∀ (i : Nat) (y : Ex), l[i]? = some y → ∃ (u : Value) (m : Nat) (qv : Value), w.cell? ⟨g, o + i * 3, none⟩ = some u ∧ w.cell? ⟨g, o + i * 3 + 1, none⟩ = some (.int .i64 (m : Int)) ∧ w.cell? ⟨g, o + i * 3 + 2, none⟩ = some qv ∧ IsTv ok tb w y u m qv)) := by
  simp only [IsTv]
  constructor
  · rintro ⟨h1, h2, h3 | ⟨h4, g, o, cap, h5, h6, hg, h7⟩⟩
    · exact ⟨h1, h2, .inl h3⟩
    · exact ⟨h1, h2, .inr ⟨h4, g, o, cap, h5, h6, hg, fun i y hy => h7 i _ (by rw [List.getElem?_map, hy]; rfl)⟩⟩
  · rintro ⟨h1, h2, h3 | ⟨h4, g, o, cap, h5, h6, hg, h7⟩⟩
    · exact ⟨h1, h2, .inl h3⟩
    · refine ⟨h1, h2, .inr ⟨h4, g, o, cap, h5, h6, hg, fun i Q hQ => ?_⟩⟩
      rw [List.getElem?_map] at hQ
      cases hl : l[i]? with
      | none => rw [hl] at hQ; simp at hQ
      | some y =>
        rw [hl] at hQ
        simp only [Option.map_some, Option.some.injEq] at hQ
        rw [← hQ]
        exact h7 i y hl
/-- a cell that is read lies in no map: it stays -/
theorem cell_turned {mb : Nat} {tb : List (List UInt8)} {w w' : World} (ht : Tbl mb tb w) (hg : w.grownBy w' (some mb)) {p : Addr} {v : Value} (h : w.cell? p = some v) : w'.cell? p = some v := by
  have hlt : p.block < w.heap.size := World.block_lt_of_cell? _ _ h
  have hne : p.block ≠ mb := by
    intro e
    obtain ⟨D, ⟨es, clock, hb, _⟩, _⟩ := ht.ex
    rw [← e] at hb
    simp [World.cell?, hb] at h
  have hh := hg.block p.block hlt (by simpa using hne)
  unfold World.cell? at *
  rw [hh]
  exact h
/-- it stays where its cells do; its blocks may be told by a weaker word -/
theorem IsTv.stay {ok ok' : Nat → Prop} {tb : List (List UInt8)} {w w' : World} (more : List (List UInt8)) (hs : Stay ok w w') (hok : ∀ g, ok g → ok' g) (x : Ex) : ∀ v n pv, IsTv ok tb w x v n pv → IsTv ok' (tb ++ more) w' x v n pv := by
  induction x using Ex.ind with
  | h k nm l ih =>
    intro v n pv h
    rw [IsTv.def] at h ⊢
    obtain ⟨h1, h2, h3⟩ := h
    refine ⟨IsEx.stay hs hok _ v h1, Ex.Num.mono tb more _ n h2, ?_⟩
    rcases h3 with h3 | ⟨h4, g, o, cap, h5, h6, hg, h7⟩
    · exact .inl h3
    · refine .inr ⟨h4, g, o, cap, h5, h6, hok g hg, fun i y hy => ?_⟩
      obtain ⟨u, m, qv, c1, c2, c3, hq⟩ := h7 i y hy
      exact ⟨u, m, qv, hs g _ _ hg c1, hs g _ _ hg c2, hs g _ _ hg c3, ih y (List.mem_of_getElem? hy) u m qv hq⟩
theorem Stay.turned {mb : Nat} {tb : List (List UInt8)} {w w' : World} (ok : Nat → Prop) (ht : Tbl mb tb w) (hg : w.grownBy w' (some mb)) : Stay ok w w' := fun _ _ _ _ hc => cell_turned ht hg hc
theorem three_set {w : World} {b : Nat} {x0 x1 x2 : Value} {T : TypeId} (h : w.heap[b]? = some (.cells #[x0, x1, x2] T (0, 0))) (v0 v1 v2 : Value) :
    (((w.setCell ⟨b, 0, none⟩ v0).setCell ⟨b, 1, none⟩ v1).setCell ⟨b, 2, none⟩ v2).heap[b]? = some (.cells #[v0, v1, v2] T (0, 0)) := by
  simp [World.setCell, Array.getElem?_modify, h]
theorem three_kept (w : World) (b : Nat) (v0 v1 v2 : Value) : w.grownBy (((w.setCell ⟨b, 0, none⟩ v0).setCell ⟨b, 1, none⟩ v1).setCell ⟨b, 2, none⟩ v2) (some b) := by
  refine ⟨rfl, rfl, rfl, by simp [World.setCell], fun k _ hk => ?_⟩
  have hne : k ≠ b := fun e => hk (by rw [e])
  rw [Below.heap_setCell _ _ _ _ (by simpa using hne), Below.heap_setCell _ _ _ _ (by simpa using hne), Below.heap_setCell _ _ _ _ (by simpa using hne)]
/-- what a walk that makes tidy comes to: a 'tidied' of this expression; the table has grown; of what was there nothing but the table's map has turned -/
def Made (ok : Nat → Prop) (mb : Nat) (tb : List (List UInt8)) (c : Nat) (x : Ex) (w : World) (e : Ending) (w' : World) : Prop :=
  ∃ (v : Value) (n : Nat) (pv : Value) (more : List (List UInt8)), e = .returned (.agg #[v, .int .i64 (n : Int), pv]) ∧ IsTv (fun g => ok g ∨ w.heap.size ≤ g) (tb ++ more) w' x v n pv ∧ Tbl mb (tb ++ more) w' ∧ more.length ≤ c ∧ w.grownBy w' (some mb)
set_option maxHeartbeats 4000000 in
set_option maxRecDepth 100000 in
theorem leaf_any (ok : Nat → Prop) (mb : Nat) (tb : List (List UInt8)) (x : Ex) (v : Value) (w : World) (h : Tbl mb tb w) (hl : tb.length < 1000000) (hx : IsEx ok w x v) (hk : x.kind ≤ 4) (ho : x.of = []) (hlen : x.text.length ≤ 1000000) :
    Calls Tryz.prog 69 #[.agg #[.map (some mb)], v] w (Made ok mb tb 1 x w) := by
  obtain ⟨w2, hw2⟩ : ∃ w2, w2 = (w.alloc (.cells #[.map (some mb)] 108)).alloc (.cells #[.nilIface, .int .i64 0, .slice none 0 0] 111) := ⟨_, rfl⟩
  have hs2 : w2.heap.size = w.heap.size + 1 + 1 := by rw [hw2]; simp
  have hb2 : Below w.heap.size w w2 := by rw [hw2]; exact ((Below.refl _ _).alloc (Nat.le_refl _) _).alloc (by simp) _
  have hx2 : w2.cell? ⟨w.heap.size, 0, none⟩ = some (.map (some mb)) := by
    rw [hw2, World.cell?_alloc_lt _ _ ⟨w.heap.size, 0, none⟩ (by simp)]; simp
  have hr2 : w2.heap[w.heap.size + 1]? = some (.cells #[.nilIface, .int .i64 0, .slice none 0 0] 111 (0, 0)) := by
    have := heap_alloc_new (w.alloc (.cells #[.map (some mb)] 108)) (.cells #[.nilIface, .int .i64 0, .slice none 0 0] 111)
    rw [World.size_alloc] at this
    rw [hw2]; exact this
  have HB2 := hide hb2
  have HX2 := hide hx2
  have HR2 := hide hr2
  have HW2 := hide hw2
  have HS2 := hide hs2
  have HT := hide h
  have HXX := hide hx
  have HLEN := hide hlen
  obtain ⟨tu, yu, hiu⟩ := IsEx.iface x v hx
  subst hiu
  clear hb2 hx2 hr2 hw2 hs2 h hx hlen
  go_enter Tryz.func69, Tryz.ntmps69
  go_wp2_with fail
  rw [← HW2.out]
  have hbd : Below w2.heap.size w2 w2.drew := (Below.refl _ _).drew
  have cx : w2.cell? ⟨w.heap.size, 0, none⟩ = some (.map (some mb)) := HX2.out
  have HST := hide (Text_any _ x _ w2.drew (IsEx.stay (Stay.below hbd) (fun _ _ => trivial) x _ (IsEx.stay (Stay.below HB2.out) (fun _ _ => trivial) x _ HXX.out)) HLEN.out)
  have HGO : Hid (∀ w3, Below w2.heap.size w2.drew w3 → w3.cell? ⟨w.heap.size, 0, none⟩ = some (.map (some mb)) ∧ w.grownBy w3 (some mb) ∧ Tbl mb tb w3 ∧ w3.heap[w.heap.size + 1]? = some (.cells #[.nilIface, .int .i64 0, .slice none 0 0] 111 (0, 0))) := by
    intro w3 h3
    have h23 := hbd.trans h3
    have hbw : Below w.heap.size w w3 := HB2.out.trans (h23.mono HB2.out.size)
    exact ⟨(h23.cell (p := ⟨w.heap.size, 0, none⟩) (by rw [HS2.out]; simp; omega)).trans HX2.out, ⟨hbw.os, hbw.tape, hbw.output, hbw.size, fun k hk _ => hbw.block k hk⟩, HT.out.kept (row := none) ⟨hbw.os, hbw.tape, hbw.output, hbw.size, fun k hk _ => hbw.block k hk⟩ (by simp), (h23.block _ (by rw [HS2.out]; omega)).trans HR2.out⟩
  have HSZ : Hid (x.text.length ≤ maxLen) := by show _ ≤ _; have := HLEN.out; unfold maxLen; omega
  have hmb := HT.out.lt
  clear hbd
  go_region_with (first | (go_at_call 45; refine HST.out.mono ?_; rintro e w3 ⟨rfl, hb3⟩; have c3 := (HGO.out w3 hb3).1) | (go_at_call 99; refine (number_any mb tb x.text _ (HGO.out _ hb3).2.2.1 hl HSZ.out).mono ?_; rintro e w4 ⟨iN, more, rfl, hq1, hq2, hq3, hq4⟩; have hr4 := (hq4.block (w.heap.size + 1) (by have := (Array.getElem?_eq_some_iff.1 (HGO.out _ hb3).2.2.2).1; omega) (by simp; omega)).trans (HGO.out _ hb3).2.2.2; have d0 : w4.cell? ⟨w.heap.size + 1, 0, none⟩ = some .nilIface := (by rw [Lib.cell_of_heap hr4]; rfl); have d1 : w4.cell? ⟨w.heap.size + 1, 1, none⟩ = some (.int .i64 0) := (by rw [Lib.cell_of_heap hr4]; rfl); have d2 : w4.cell? ⟨w.heap.size + 1, 2, none⟩ = some (.slice none 0 0) := (by rw [Lib.cell_of_heap hr4]; rfl); have g0 := Lib.frozen_of_heap hr4 0; have g1 := Lib.frozen_of_heap hr4 1; have g2 := Lib.frozen_of_heap hr4 2))
  all_goals go_wp2_with fail
  all_goals
    obtain ⟨w5, hw5⟩ : ∃ w5, w5 = ((w4.setCell ⟨w.heap.size + 1, 0, none⟩ (.iface tu yu)).setCell ⟨w.heap.size + 1, 1, none⟩ (.int .i64 (iN : Int))).setCell ⟨w.heap.size + 1, 2, none⟩ (.slice none 0 0) := ⟨_, rfl⟩
    have hr5 := three_set hr4 (.iface tu yu) (.int .i64 (iN : Int)) (.slice none 0 0)
    have hg5 := three_kept w4 (w.heap.size + 1) (.iface tu yu) (.int .i64 (iN : Int)) (.slice none 0 0)
    rw [← hw5] at hr5 hg5
    rw [← hw5]
    have q0 : w5.cell? ⟨w.heap.size + 1, 0, none⟩ = some (.iface tu yu) := by rw [Lib.cell_of_heap hr5]; rfl
    have q1 : w5.cell? ⟨w.heap.size + 1, 1, none⟩ = some (.int .i64 (iN : Int)) := by rw [Lib.cell_of_heap hr5]; rfl
    have q2 : w5.cell? ⟨w.heap.size + 1, 2, none⟩ = some (.slice none 0 0) := by rw [Lib.cell_of_heap hr5]; rfl
    have hgw : w.grownBy w5 (some mb) := by
      have h4 := (HGO.out _ hb3).2.1.trans hq4
      exact ⟨hg5.os.trans h4.os, hg5.tape.trans h4.tape, hg5.output.trans h4.output, Nat.le_trans h4.size hg5.size, fun k hk hne => (hg5.block k (Nat.lt_of_lt_of_le hk h4.size) (by simp; omega)).trans (h4.block k hk hne)⟩
    refine bodyPost_ret_by (v := .agg #[.iface tu yu, .int .i64 (iN : Int), .slice none 0 0]) ?_ rfl ⟨_, iN, _, more, rfl, ?_, hq1.kept hg5 (by simp; omega), hq3, hgw⟩
    · simp [results, Tryz.results69, go_sem, q0, q1, q2]
    · obtain ⟨k, nm, l⟩ := x
      simp only at ho hk
      subst ho
      rw [IsTv.def]
      refine ⟨IsEx.stay (Stay.turned ok HT.out hgw) (fun _ h => .inl h) _ _ HXX.out, ?_, .inl ⟨hk, rfl⟩⟩
      rw [Ex.Num.def]
      refine ⟨[], rfl, by simp, ?_⟩
      rw [hq2]
      unfold Ex.code
      rw [if_pos hk]
end
section
open Go.RowKit Go.Maps
/-- the rows of what was made tidy lie in blocks that are there -/
theorem IsTv.lt {ok : Nat → Prop} {tb : List (List UInt8)} {w : World} (x : Ex) : ∀ v n pv, IsTv ok tb w x v n pv → IsTv (fun g => ok g ∧ g < w.heap.size) tb w x v n pv := by
  induction x using Ex.ind with
  | h k nm l ih =>
    intro v n pv h
    rw [IsTv.def] at h ⊢
    obtain ⟨h1, h2, h3⟩ := h
    refine ⟨IsEx.lt _ v h1, h2, ?_⟩
    rcases h3 with h3 | ⟨h4, g, o, cap, h5, h6, hg, h7⟩
    · exact .inl h3
    · have hl : 0 < l.length := by
        have h8 := IsEx.le7 _ v h1
        match k, h1 with
        | 5, h1 => simp only [IsEx] at h1; omega
        | 6, h1 => simp only [IsEx] at h1; have := h1.2.1; omega
        | 7, h1 => simp only [IsEx] at h1; have := h1.2.1; omega
        | 0, _ => omega
        | 1, _ => omega
        | 2, _ => omega
        | 3, _ => omega
        | 4, _ => omega
        | n + 8, _ => simp only at h8; omega
      have hgl : g < w.heap.size := by
        obtain ⟨u, m, qv, c1, _⟩ := h7 0 l[0] (List.getElem?_eq_getElem hl)
        exact World.block_lt_of_cell? _ _ c1
      refine .inr ⟨h4, g, o, cap, h5, h6, ⟨hg, hgl⟩, fun i y hy => ?_⟩
      obtain ⟨u, m, qv, c1, c2, c3, hq⟩ := h7 i y hy
      exact ⟨u, m, qv, c1, c2, c3, ih y (List.mem_of_getElem? hy) u m qv hq⟩
theorem IsTv.num {ok : Nat → Prop} {tb : List (List UInt8)} {w : World} {x : Ex} {v : Value} {n : Nat} {pv : Value} (h : IsTv ok tb w x v n pv) : Ex.Num tb x n := by
  obtain ⟨k, nm, l⟩ := x
  rw [IsTv.def] at h
  exact h.2.1
theorem IsTv.ex {ok : Nat → Prop} {tb : List (List UInt8)} {w : World} {x : Ex} {v : Value} {n : Nat} {pv : Value} (h : IsTv ok tb w x v n pv) : IsEx ok w x v := by
  obtain ⟨k, nm, l⟩ := x
  rw [IsTv.def] at h
  exact h.1
theorem IsTv.slice {ok : Nat → Prop} {tb : List (List UInt8)} {w : World} {x : Ex} {v : Value} {n : Nat} {pv : Value} (h : IsTv ok tb w x v n pv) : ∃ a b c, pv = .slice a b c := by
  obtain ⟨k, nm, l⟩ := x
  rw [IsTv.def] at h
  rcases h.2.2 with ⟨_, h⟩ | ⟨_, g, o, cap, h, _⟩
  · exact ⟨_, _, _, h⟩
  · exact ⟨_, _, _, h⟩
theorem num_lt {tb : List (List UInt8)} {x : Ex} {n : Nat} (h : Ex.Num tb x n) : n < tb.length := by
  obtain ⟨k, nm, l⟩ := x
  rw [Ex.Num.def] at h
  obtain ⟨ns, _, _, h3⟩ := h
  by_cases hn : n < tb.length
  · exact hn
  · rw [List.getElem?_eq_none (by omega)] at h3; simp at h3
/-- what was made tidy, three cells each -/
def tflat3 (ts : List (Value × Nat × Value)) : List Value := (ts.map fun t => [t.1, Value.int .i64 (t.2.1 : Int), t.2.2]).flatten
theorem flat3_len (ts : List (Value × Nat × Value)) : (tflat3 ts).length = ts.length * 3 := by
  induction ts with
  | nil => rfl
  | cons a r ih => simp only [tflat3, List.map_cons, List.flatten_cons, List.length_append, List.length_cons, List.length_nil] at *; omega
theorem flat3_snoc (ts : List (Value × Nat × Value)) (t : Value × Nat × Value) : tflat3 (ts ++ [t]) = tflat3 ts ++ [t.1, Value.int .i64 (t.2.1 : Int), t.2.2] := by simp [tflat3]
theorem flat3_get : ∀ (ts : List (Value × Nat × Value)) (i : Nat) (t : Value × Nat × Value), ts[i]? = some t → (tflat3 ts)[i * 3]? = some t.1 ∧ (tflat3 ts)[i * 3 + 1]? = some (.int .i64 (t.2.1 : Int)) ∧ (tflat3 ts)[i * 3 + 2]? = some t.2.2 := by
  intro ts
  induction ts with
  | nil => intro i t h; simp at h
  | cons a r ih =>
    intro i t h
    match i, h with
    | 0, h =>
      simp only [List.getElem?_cons_zero, Option.some.injEq] at h
      subst h
      exact ⟨rfl, rfl, rfl⟩
    | i + 1, h =>
      rw [List.getElem?_cons_succ] at h
      obtain ⟨h1, h2, h3⟩ := ih i t h
      have e : tflat3 (a :: r) = a.1 :: Value.int .i64 (a.2.1 : Int) :: a.2.2 :: tflat3 r := rfl
      rw [e, show (i + 1) * 3 = i * 3 + 1 + 1 + 1 by omega, show i * 3 + 1 + 1 + 1 + 1 = (i * 3 + 1) + 1 + 1 + 1 by omega, show i * 3 + 1 + 1 + 1 + 2 = (i * 3 + 2) + 1 + 1 + 1 by omega]
      simp only [List.getElem?_cons_succ]
      exact ⟨h1, h2, h3⟩
/-- which blocks the parts may lie in: those of what came in, and new ones, but not the row of the parts itself -/
def okp (ok : Nat → Prop) (C : Nat) (pv : Value) (g : Nat) : Prop := (ok g ∨ C ≤ g) ∧ some g ≠ pv.ownBlock
/-- the gathering -/
structure Gs (ok : Nat → Prop) (B C mb gb sb k : Nat) (tb : List (List UInt8)) (U : List Ex) (d : Bool) (pv : Value) (w : World) : Prop where
  tbl : Tbl mb tb w
  pow : Pow w
  powB : 3 < B
  mbB : mb < B
  gbB : B ≤ gb
  gbC : gb < C
  sbB : B ≤ sb
  sbC : sb < C
  ne : gb ≠ sb
  size : C ≤ w.heap.size
  okB : ∀ g, ok g → g < B
  cells : w.heap[gb]? = some (.cells #[.map (some mb), .bool (decide (k = 6)), pv, .map (some sb), .bool d] 169 (0, 0))
  rows : ∃ ts : List (Value × Nat × Value), ts.length = U.length ∧ w.ownsRow C 111 3 pv U.length (tflat3 ts) ∧ (∀ (i : Nat) (x : Ex) (t : Value × Nat × Value), U[i]? = some x → ts[i]? = some t → IsTv (okp ok C pv) tb w x t.1 t.2.1 t.2.2) ∧
    ∃ D : DataW Unit, w.ownsMap Tryz.prog 3 (unitElem (H := Unit)) sb U.length D ∧ ∀ m : Nat, Maps.has D (.int .i64 (m : Int)) = decide (m ∈ ts.map fun t => t.2.1)
  td : ∀ x, x ∈ U → Ex.Td x ∧ 2 ≤ x.kind ∧ x.kind ≠ k
/-- what stays while it turns -/
structure Gf (mb gb sb : Nat) (pv pv' : Value) (w w' : World) : Prop where
  os : w'.os = w.os
  tape : w'.tape = w.tape
  output : w'.output = w.output
  size : w.heap.size ≤ w'.heap.size
  block : ∀ g, g < w.heap.size → g ≠ mb → g ≠ gb → g ≠ sb → some g ≠ pv.ownBlock → w'.heap[g]? = w.heap[g]?
  lies : pv'.ownBlock = pv.ownBlock ∨ ∃ b, pv'.ownBlock = some b ∧ w.heap.size ≤ b
namespace Gf
variable {mb gb sb : Nat} {pv pv' pv'' : Value} {w w' w'' : World}
theorem refl (mb gb sb : Nat) (pv : Value) (w : World) : Gf mb gb sb pv pv w w := ⟨rfl, rfl, rfl, Nat.le_refl _, fun _ _ _ _ _ _ => rfl, .inl rfl⟩
theorem trans (h : Gf mb gb sb pv pv' w w') (k : Gf mb gb sb pv' pv'' w' w'') : Gf mb gb sb pv pv'' w w'' := by
  refine ⟨k.os.trans h.os, k.tape.trans h.tape, k.output.trans h.output, Nat.le_trans h.size k.size, fun g hg h1 h2 h3 h4 => ?_, ?_⟩
  · refine (k.block g (Nat.lt_of_lt_of_le hg h.size) h1 h2 h3 ?_).trans (h.block g hg h1 h2 h3 h4)
    rcases h.lies with e | ⟨b, e, hb⟩
    · rw [e]; exact h4
    · rw [e]; intro e2; simp only [Option.some.injEq] at e2; omega
  · rcases k.lies with e | ⟨b, e, hb⟩
    · rw [e]; exact h.lies
    · exact .inr ⟨b, e, Nat.le_trans h.size hb⟩
theorem grown (h : w.grownBy w' (some mb)) : Gf mb gb sb pv pv w w' := ⟨h.os, h.tape, h.output, h.size, fun g hg h1 _ _ _ => h.block g hg (by simpa using h1), .inl rfl⟩
theorem below (h : Below w.heap.size w w') : Gf mb gb sb pv pv w w' := ⟨h.os, h.tape, h.output, h.size, fun g hg _ _ _ _ => h.block g hg, .inl rfl⟩
end Gf
/-- a block that has cells is not the table's -/
theorem Tbl.ne {mb : Nat} {tb : List (List UInt8)} {w : World} (ht : Tbl mb tb w) {p : Addr} {v : Value} (h : w.cell? p = some v) : p.block ≠ mb := by
  intro e
  obtain ⟨D, ⟨es, clock, hb, _⟩, _⟩ := ht.ex
  rw [← e] at hb
  simp [World.cell?, hb] at h
theorem Pow.turned {mb : Nat} {tb : List (List UInt8)} {w w' : World} (hp : Pow w) (ht : Tbl mb tb w) (hg : w.grownBy w' (some mb)) : Pow w' := by
  have hc := Lib.TabIs.cell hp gPow 0 (by decide)
  have hne := ht.ne hc
  exact hp.block (hg.block _ hp.lt (by simpa using hne))
section
variable {ok : Nat → Prop} {B C mb gb sb k : Nat} {tb more : List (List UInt8)} {U : List Ex} {d : Bool} {pv pv' : Value} {w w' : World}
theorem Gs.stay (h : Gs ok B C mb gb sb k tb U d pv w) (hf : Gf mb gb sb pv pv' w w') : Stay (fun g => okp ok C pv g ∧ g < w.heap.size) w w' := by
  intro g i u hg hc
  obtain ⟨⟨h1, h2⟩, h3⟩ := hg
  have hne := h.tbl.ne hc
  have hgb : g ≠ gb ∧ g ≠ sb := by
    have e1 := h.gbB; have e2 := h.gbC; have e3 := h.sbB; have e4 := h.sbC
    rcases h1 with h1 | h1
    · have := h.okB g h1; omega
    · omega
  unfold World.cell? at *
  rw [hf.block g h3 hne hgb.1 hgb.2 h2]
  exact hc
theorem okp_turn (hf : Gf mb gb sb pv pv' w w') : ∀ g, okp ok C pv g ∧ g < w.heap.size → okp ok C pv' g := by
  rintro g ⟨⟨h1, h2⟩, h3⟩
  refine ⟨h1, ?_⟩
  rcases hf.lies with e | ⟨b, e, hb⟩
  · rw [e]; exact h2
  · rw [e]; intro e2; simp only [Option.some.injEq] at e2; omega
/-- what was made tidy stays, where the gathering turns -/
theorem Gs.keep (h : Gs ok B C mb gb sb k tb U d pv w) (hf : Gf mb gb sb pv pv' w w') (more : List (List UInt8)) {x : Ex} {v : Value} {n : Nat} {q : Value} (hx : IsTv (okp ok C pv) tb w x v n q) : IsTv (okp ok C pv') (tb ++ more) w' x v n q :=
  IsTv.stay more (h.stay hf) (okp_turn (ok := ok) (C := C) hf) x v n q (IsTv.lt x v n q hx)
/-- what came in stays -/
theorem Gs.input (h : Gs ok B C mb gb sb k tb U d pv w) (hf : Gf mb gb sb pv pv' w w') : Stay ok w w' := by
  intro g i u hg hc
  refine h.stay hf g i u ⟨⟨.inl hg, ?_⟩, World.block_lt_of_cell? _ _ hc⟩ hc
  obtain ⟨ts, _, ho, _⟩ := h.rows
  intro e
  have h1 := (ho.lt g e.symm).1
  have h2 := h.okB g hg
  have h3 := h.gbB
  have h4 := h.gbC
  omega
theorem Gs.grown (h : Gs ok B C mb gb sb k tb U d pv w) (hg : w.grownBy w' (some mb)) (ht : Tbl mb (tb ++ more) w') : Gs ok B C mb gb sb k (tb ++ more) U d pv w' := by
  have e1 := h.gbB; have e2 := h.gbC; have e3 := h.sbB; have e4 := h.sbC; have e5 := h.mbB; have e6 := h.size
  have hf : Gf mb gb sb pv pv w w' := Gf.grown hg
  obtain ⟨ts, hl, ho, hx, D, hD, hm⟩ := h.rows
  refine ⟨ht, h.pow.turned h.tbl hg, h.powB, h.mbB, h.gbB, h.gbC, h.sbB, h.sbC, h.ne, Nat.le_trans h.size hg.size, h.okB, (hg.block gb (by omega) (by simp; omega)).trans h.cells, ⟨ts, hl, ?_, fun i x t hi ht => h.keep hf more (hx i x t hi ht), D, hD.kept hg (by simp; omega), hm⟩, h.td⟩
  refine ho.kept hg ?_
  cases hv : pv.ownBlock with
  | none => exact .inl rfl
  | some b => right; intro e; simp only [Option.some.injEq] at e; have := (ho.lt b hv).1; omega
theorem Gs.c0 (h : Gs ok B C mb gb sb k tb U d pv w) : w.cell? ⟨gb, 0, none⟩ = some (.map (some mb)) := by rw [Lib.cell_of_heap h.cells]; rfl
theorem Gs.c1 (h : Gs ok B C mb gb sb k tb U d pv w) : w.cell? ⟨gb, 1, none⟩ = some (.bool (decide (k = 6))) := by rw [Lib.cell_of_heap h.cells]; rfl
theorem Gs.c2 (h : Gs ok B C mb gb sb k tb U d pv w) : w.cell? ⟨gb, 2, none⟩ = some pv := by rw [Lib.cell_of_heap h.cells]; rfl
theorem Gs.c3 (h : Gs ok B C mb gb sb k tb U d pv w) : w.cell? ⟨gb, 3, none⟩ = some (.map (some sb)) := by rw [Lib.cell_of_heap h.cells]; rfl
theorem Gs.c4 (h : Gs ok B C mb gb sb k tb U d pv w) : w.cell? ⟨gb, 4, none⟩ = some (.bool d) := by rw [Lib.cell_of_heap h.cells]; rfl
theorem five_set4 {w : World} {b : Nat} {x0 x1 x2 x3 x4 : Value} {T : TypeId} (h : w.heap[b]? = some (.cells #[x0, x1, x2, x3, x4] T (0, 0))) (v : Value) : (w.setCell ⟨b, 4, none⟩ v).heap[b]? = some (.cells #[x0, x1, x2, x3, v] T (0, 0)) := by
  simp [World.setCell, Array.getElem?_modify, h]
theorem five_set2 {w : World} {b : Nat} {x0 x1 x2 x3 x4 : Value} {T : TypeId} (h : w.heap[b]? = some (.cells #[x0, x1, x2, x3, x4] T (0, 0))) (v : Value) : (w.setCell ⟨b, 2, none⟩ v).heap[b]? = some (.cells #[x0, x1, v, x3, x4] T (0, 0)) := by
  simp [World.setCell, Array.getElem?_modify, h]
theorem Gf.set (mb gb sb : Nat) (pv : Value) (w : World) (j : Nat) (v : Value) : Gf mb gb sb pv pv w (w.setCell ⟨gb, j, none⟩ v) :=
  ⟨rfl, rfl, rfl, by simp [World.setCell], fun g _ _ h2 _ _ => Below.heap_setCell _ _ _ _ (by simpa using h2), .inl rfl⟩
/-- it is decided, or not -/
theorem Gs.decide (h : Gs ok B C mb gb sb k tb U d pv w) (d' : Bool) : Gs ok B C mb gb sb k tb U d' pv (w.setCell ⟨gb, 4, none⟩ (.bool d')) := by
  have e1 := h.gbB; have e2 := h.gbC; have e3 := h.sbB; have e4 := h.sbC; have e5 := h.mbB; have e6 := h.size; have e7 := h.powB; have e8 := h.ne
  have hf : Gf mb gb sb pv pv w (w.setCell ⟨gb, 4, none⟩ (.bool d')) := Gf.set mb gb sb pv w 4 _
  have hb : ∀ g, g ≠ gb → (w.setCell ⟨gb, 4, none⟩ (.bool d')).heap[g]? = w.heap[g]? := fun g hg => Below.heap_setCell _ _ _ _ (by simpa using hg)
  have hg : w.grownBy (w.setCell ⟨gb, 4, none⟩ (.bool d')) (some gb) := ⟨rfl, rfl, rfl, by simp [World.setCell], fun g _ hne => hb g (by simpa using hne)⟩
  obtain ⟨ts, hl, ho, hx, D, hD, hm⟩ := h.rows
  refine ⟨h.tbl.kept hg (by simp; omega), h.pow.block (hb _ (by omega)), h.powB, h.mbB, h.gbB, h.gbC, h.sbB, h.sbC, h.ne, by simpa [World.setCell] using h.size, h.okB, five_set4 h.cells _, ⟨ts, hl, ?_, fun i x t hi ht => ?_, D, hD.kept hg (by simp; omega), hm⟩, h.td⟩
  · refine ho.kept hg ?_
    cases hv : pv.ownBlock with
    | none => exact .inl rfl
    | some b => right; intro e; simp only [Option.some.injEq] at e; have := (ho.lt b hv).1; omega
  · have := h.keep hf [] (hx i x t hi ht)
    rwa [List.append_nil] at this
/-- a part is there just if its number is -/
theorem Gs.there (h : Gs ok B C mb gb sb k tb U d pv w) {ts : List (Value × Nat × Value)} (hl : ts.length = U.length) (hx : ∀ (i : Nat) (x : Ex) (t : Value × Nat × Value), U[i]? = some x → ts[i]? = some t → IsTv (okp ok C pv) tb w x t.1 t.2.1 t.2.2) {y : Ex} {m : Nat} (hy : Ex.Td y) (hm : Ex.Num tb y m) : m ∈ (ts.map fun t => t.2.1) ↔ y ∈ U := by
  constructor
  · intro hin
    obtain ⟨t, ht, e⟩ := List.mem_map.1 hin
    obtain ⟨i, hi, hti⟩ := List.getElem_of_mem ht
    have hiU : i < U.length := by omega
    have hq := hx i U[i] t (List.getElem?_eq_getElem hiU) (by rw [List.getElem?_eq_getElem hi, hti])
    have hn := hq.num
    rw [e] at hn
    have := Ex.Num.inj tb y U[i] m (Ex.Td.wf y hy) (Ex.Td.wf _ (h.td _ (List.getElem_mem hiU)).1) hm hn
    rw [this]
    exact List.getElem_mem hiU
  · intro hin
    obtain ⟨i, hi, hyi⟩ := List.getElem_of_mem hin
    have hit : i < ts.length := by omega
    have hq := hx i U[i] ts[i] (List.getElem?_eq_getElem hi) (List.getElem?_eq_getElem hit)
    have hn := hq.num
    rw [hyi] at hn
    have := Ex.Num.one tb h.tbl.nodup y _ _ hm hn
    rw [this]
    exact List.mem_map.2 ⟨ts[i], List.getElem_mem hit, rfl⟩
end
end
end Go.Proofs.YtgoabhclnicepaaGreatDoor
