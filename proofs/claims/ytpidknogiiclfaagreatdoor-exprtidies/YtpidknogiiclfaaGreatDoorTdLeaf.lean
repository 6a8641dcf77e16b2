/-
  What was made tidy, in memory; the walk of leaf.
-/
import Derived.Test.YtpidknogiiclfaaGreatDoorTdOf
import Derived.Test.YtpidknogiiclfaaGreatDoorTxList
namespace Go.Proofs.YtpidknogiiclfaaGreatDoor
open Go.RowKit Go.Maps
/-- what 'tidied' holds: the expression, its number, its parts (three cells each) -/
def IsTv (ok : Nat → Prop) (tb : List (List UInt8)) (w : World) : Ex → Value → Nat → Value → Prop
  | ⟨k, nm, l⟩ => fun v n pv => IsEx ok w ⟨k, nm, l⟩ v ∧ Ex.Num tb ⟨k, nm, l⟩ n ∧ ((k ≤ 4 ∧ pv = .slice none 0 0) ∨ (5 ≤ k ∧ ∃ g o cap, pv = .slice (some ⟨g, o, none⟩) l.length cap ∧ l.length ≤ cap ∧ ok g ∧
    ∀ (i : Nat) (Q : Value → Nat → Value → Prop), (l.map fun y => IsTv ok tb w y)[i]? = some Q → ∃ (u : Value) (m : Nat) (qv : Value), w.cell? ⟨g, o + i * 3, none⟩ = some u ∧ w.cell? ⟨g, o + i * 3 + 1, none⟩ = some (.int .i64 (m : Int)) ∧ w.cell? ⟨g, o + i * 3 + 2, none⟩ = some qv ∧ Q u m qv))
theorem IsTv.def (ok : Nat → Prop) (tb : List (List UInt8)) (w : World) (k : Nat) (nm : List UInt8) (l : List Ex) (v : Value) (n : Nat) (pv : Value) : IsTv ok tb w ⟨k, nm, l⟩ v n pv ↔ IsEx ok w ⟨k, nm, l⟩ v ∧ Ex.Num tb ⟨k, nm, l⟩ n ∧ ((k ≤ 4 ∧ pv = .slice none 0 0) ∨ (5 ≤ k ∧ ∃ g o cap, pv = .slice (some ⟨g, o, none⟩) l.length cap ∧ l.length ≤ cap ∧ ok g ∧
    ∀ (i : Nat) (y : Ex), l[i]? = some y → ∃ (u : Value) (m : Nat) (qv : Value), w.cell? ⟨g, o + i * 3, none⟩ = some u ∧ w.cell? ⟨g, o + i * 3 + 1, none⟩ = some (.int .i64 (m : Int)) ∧ w.cell? ⟨g, o + i * 3 + 2, none⟩ = some qv ∧ IsTv ok tb w y u m qv)) := by
  simp only [IsTv]
  constructor
  · rintro ⟨h1, h2, h3 | ⟨h4, g, o, cap, h5, h6, hg, h7⟩⟩
    · exact ⟨h1, h2, .inl h3⟩
    · exact ⟨h1, h2, .inr ⟨h4, g, o, cap, h5, h6, hg, fun i y hy => h7 i _ (by rw [List.getElem?_map, hy]; rfl)⟩⟩
  · rintro ⟨h1, h2, h3 | ⟨h4, g, o, cap, h5, h6, hg, h7⟩⟩
    · exact ⟨h1, h2, .inl h3⟩
    · refine ⟨h1, h2, .inr ⟨h4, g, o, cap, h5, h6, hg, fun i Q hQ => ?_⟩⟩
      rw [List.getElem?_map] at hQ
      cases hl : l[i]? with
      | none => rw [hl] at hQ; simp at hQ
      | some y =>
        rw [hl] at hQ
        simp only [Option.map_some, Option.some.injEq] at hQ
        rw [← hQ]
        exact h7 i y hl
/-- a cell that is read lies in no map: it stays -/
theorem cell_turned {mb : Nat} {tb : List (List UInt8)} {w w' : World} (ht : Tbl mb tb w) (hg : w.grownBy w' (some mb)) {p : Addr} {v : Value} (h : w.cell? p = some v) : w'.cell? p = some v := by
  have hlt : p.block < w.heap.size := World.block_lt_of_cell? _ _ h
  have hne : p.block ≠ mb := by
    intro e
    obtain ⟨D, ⟨es, clock, hb, _⟩, _⟩ := ht.ex
    rw [← e] at hb
    simp [World.cell?, hb] at h
  have hh := hg.block p.block hlt (by simpa using hne)
  unfold World.cell? at *
  rw [hh]
  exact h
/-- it stays where its cells do; its blocks may be told by a weaker word -/
theorem IsTv.stay {ok ok' : Nat → Prop} {tb : List (List UInt8)} {w w' : World} (more : List (List UInt8)) (hs : Stay ok w w') (hok : ∀ g, ok g → ok' g) (x : Ex) : ∀ v n pv, IsTv ok tb w x v n pv → IsTv ok' (tb ++ more) w' x v n pv := by
  induction x using Ex.ind with
  | h k nm l ih =>
    intro v n pv h
    rw [IsTv.def] at h ⊢
    obtain ⟨h1, h2, h3⟩ := h
    refine ⟨IsEx.stay hs hok _ v h1, Ex.Num.mono tb more _ n h2, ?_⟩
    rcases h3 with h3 | ⟨h4, g, o, cap, h5, h6, hg, h7⟩
    · exact .inl h3
    · refine .inr ⟨h4, g, o, cap, h5, h6, hok g hg, fun i y hy => ?_⟩
      obtain ⟨u, m, qv, c1, c2, c3, hq⟩ := h7 i y hy
      exact ⟨u, m, qv, hs g _ _ hg c1, hs g _ _ hg c2, hs g _ _ hg c3, ih y (List.mem_of_getElem? hy) u m qv hq⟩
theorem Stay.turned {mb : Nat} {tb : List (List UInt8)} {w w' : World} (ok : Nat → Prop) (ht : Tbl mb tb w) (hg : w.grownBy w' (some mb)) : Stay ok w w' := fun _ _ _ _ hc => cell_turned ht hg hc
theorem three_set {w : World} {b : Nat} {x0 x1 x2 : Value} {T : TypeId} (h : w.heap[b]? = some (.cells #[x0, x1, x2] T (0, 0))) (v0 v1 v2 : Value) :
    (((w.setCell ⟨b, 0, none⟩ v0).setCell ⟨b, 1, none⟩ v1).setCell ⟨b, 2, none⟩ v2).heap[b]? = some (.cells #[v0, v1, v2] T (0, 0)) := by
  simp [World.setCell, Array.getElem?_modify, h]
theorem three_kept (w : World) (b : Nat) (v0 v1 v2 : Value) : w.grownBy (((w.setCell ⟨b, 0, none⟩ v0).setCell ⟨b, 1, none⟩ v1).setCell ⟨b, 2, none⟩ v2) (some b) := by
  refine ⟨rfl, rfl, rfl, by simp [World.setCell], fun k _ hk => ?_⟩
  have hne : k ≠ b := fun e => hk (by rw [e])
  rw [Below.heap_setCell _ _ _ _ (by simpa using hne), Below.heap_setCell _ _ _ _ (by simpa using hne), Below.heap_setCell _ _ _ _ (by simpa using hne)]
/-- what a walk that makes tidy comes to: a 'tidied' of this expression; the table has grown; of what was there nothing but the table's map has turned -/
def Made (ok : Nat → Prop) (mb : Nat) (tb : List (List UInt8)) (c : Nat) (x : Ex) (w : World) (e : Ending) (w' : World) : Prop :=
  ∃ (v : Value) (n : Nat) (pv : Value) (more : List (List UInt8)), e = .returned (.agg #[v, .int .i64 (n : Int), pv]) ∧ IsTv (fun g => ok g ∨ w.heap.size ≤ g) (tb ++ more) w' x v n pv ∧ Tbl mb (tb ++ more) w' ∧ more.length ≤ c ∧ w.grownBy w' (some mb)
set_option maxHeartbeats 4000000 in
set_option maxRecDepth 100000 in
theorem leaf_any (ok : Nat → Prop) (mb : Nat) (tb : List (List UInt8)) (x : Ex) (v : Value) (w : World) (h : Tbl mb tb w) (hl : tb.length < 1000000) (hx : IsEx ok w x v) (hk : x.kind ≤ 4) (ho : x.of = []) (hlen : x.text.length ≤ 1000000) :
    Calls Tryz.prog 51 #[.agg #[.map (some mb)], v] w (Made ok mb tb 1 x w) := by
  obtain ⟨w2, hw2⟩ : ∃ w2, w2 = (w.alloc (.cells #[.map (some mb)] 63)).alloc (.cells #[.nilIface, .int .i64 0, .slice none 0 0] 66) := ⟨_, rfl⟩
  have hs2 : w2.heap.size = w.heap.size + 1 + 1 := by rw [hw2]; simp
  have hb2 : Below w.heap.size w w2 := by rw [hw2]; exact ((Below.refl _ _).alloc (Nat.le_refl _) _).alloc (by simp) _
  have hx2 : w2.cell? ⟨w.heap.size, 0, none⟩ = some (.map (some mb)) := by
    rw [hw2, World.cell?_alloc_lt _ _ ⟨w.heap.size, 0, none⟩ (by simp)]; simp
  have hr2 : w2.heap[w.heap.size + 1]? = some (.cells #[.nilIface, .int .i64 0, .slice none 0 0] 66 (0, 0)) := by
    have := heap_alloc_new (w.alloc (.cells #[.map (some mb)] 63)) (.cells #[.nilIface, .int .i64 0, .slice none 0 0] 66)
    rw [World.size_alloc] at this
    rw [hw2]; exact this
  have HB2 := hide hb2
  have HX2 := hide hx2
  have HR2 := hide hr2
  have HW2 := hide hw2
  have HS2 := hide hs2
  have HT := hide h
  have HXX := hide hx
  have HLEN := hide hlen
  obtain ⟨tu, yu, hiu⟩ := IsEx.iface x v hx
  subst hiu
  clear hb2 hx2 hr2 hw2 hs2 h hx hlen
  go_enter Tryz.func51, Tryz.ntmps51
  go_wp2_with fail
  rw [← HW2.out]
  have hbd : Below w2.heap.size w2 w2.drew := (Below.refl _ _).drew
  have cx : w2.cell? ⟨w.heap.size, 0, none⟩ = some (.map (some mb)) := HX2.out
  have HST := hide (Text_any _ x _ w2.drew (IsEx.stay (Stay.below hbd) (fun _ _ => trivial) x _ (IsEx.stay (Stay.below HB2.out) (fun _ _ => trivial) x _ HXX.out)) HLEN.out)
  have HGO : Hid (∀ w3, Below w2.heap.size w2.drew w3 → w3.cell? ⟨w.heap.size, 0, none⟩ = some (.map (some mb)) ∧ w.grownBy w3 (some mb) ∧ Tbl mb tb w3 ∧ w3.heap[w.heap.size + 1]? = some (.cells #[.nilIface, .int .i64 0, .slice none 0 0] 66 (0, 0))) := by
    intro w3 h3
    have h23 := hbd.trans h3
    have hbw : Below w.heap.size w w3 := HB2.out.trans (h23.mono HB2.out.size)
    exact ⟨(h23.cell (p := ⟨w.heap.size, 0, none⟩) (by rw [HS2.out]; simp; omega)).trans HX2.out, ⟨hbw.os, hbw.tape, hbw.output, hbw.size, fun k hk _ => hbw.block k hk⟩, HT.out.kept (row := none) ⟨hbw.os, hbw.tape, hbw.output, hbw.size, fun k hk _ => hbw.block k hk⟩ (by simp), (h23.block _ (by rw [HS2.out]; omega)).trans HR2.out⟩
  have HSZ : Hid (x.text.length ≤ maxLen) := by show _ ≤ _; have := HLEN.out; unfold maxLen; omega
  have hmb := HT.out.lt
  clear hbd
  go_region_with (first | (go_at_call 17; refine HST.out.mono ?_; rintro e w3 ⟨rfl, hb3⟩; have c3 := (HGO.out w3 hb3).1) | (go_at_call 67; refine (number_any mb tb x.text _ (HGO.out _ hb3).2.2.1 hl HSZ.out).mono ?_; rintro e w4 ⟨iN, more, rfl, hq1, hq2, hq3, hq4⟩; have hr4 := (hq4.block (w.heap.size + 1) (by have := (Array.getElem?_eq_some_iff.1 (HGO.out _ hb3).2.2.2).1; omega) (by simp; omega)).trans (HGO.out _ hb3).2.2.2; have d0 : w4.cell? ⟨w.heap.size + 1, 0, none⟩ = some .nilIface := (by rw [Lib.cell_of_heap hr4]; rfl); have d1 : w4.cell? ⟨w.heap.size + 1, 1, none⟩ = some (.int .i64 0) := (by rw [Lib.cell_of_heap hr4]; rfl); have d2 : w4.cell? ⟨w.heap.size + 1, 2, none⟩ = some (.slice none 0 0) := (by rw [Lib.cell_of_heap hr4]; rfl); have g0 := Lib.frozen_of_heap hr4 0; have g1 := Lib.frozen_of_heap hr4 1; have g2 := Lib.frozen_of_heap hr4 2))
  all_goals go_wp2_with fail
  all_goals
    obtain ⟨w5, hw5⟩ : ∃ w5, w5 = ((w4.setCell ⟨w.heap.size + 1, 0, none⟩ (.iface tu yu)).setCell ⟨w.heap.size + 1, 1, none⟩ (.int .i64 (iN : Int))).setCell ⟨w.heap.size + 1, 2, none⟩ (.slice none 0 0) := ⟨_, rfl⟩
    have hr5 := three_set hr4 (.iface tu yu) (.int .i64 (iN : Int)) (.slice none 0 0)
    have hg5 := three_kept w4 (w.heap.size + 1) (.iface tu yu) (.int .i64 (iN : Int)) (.slice none 0 0)
    rw [← hw5] at hr5 hg5
    rw [← hw5]
    have q0 : w5.cell? ⟨w.heap.size + 1, 0, none⟩ = some (.iface tu yu) := by rw [Lib.cell_of_heap hr5]; rfl
    have q1 : w5.cell? ⟨w.heap.size + 1, 1, none⟩ = some (.int .i64 (iN : Int)) := by rw [Lib.cell_of_heap hr5]; rfl
    have q2 : w5.cell? ⟨w.heap.size + 1, 2, none⟩ = some (.slice none 0 0) := by rw [Lib.cell_of_heap hr5]; rfl
    have hgw : w.grownBy w5 (some mb) := by
      have h4 := (HGO.out _ hb3).2.1.trans hq4
      exact ⟨hg5.os.trans h4.os, hg5.tape.trans h4.tape, hg5.output.trans h4.output, Nat.le_trans h4.size hg5.size, fun k hk hne => (hg5.block k (Nat.lt_of_lt_of_le hk h4.size) (by simp; omega)).trans (h4.block k hk hne)⟩
    refine bodyPost_ret_by (v := .agg #[.iface tu yu, .int .i64 (iN : Int), .slice none 0 0]) ?_ rfl ⟨_, iN, _, more, rfl, ?_, hq1.kept hg5 (by simp; omega), hq3, hgw⟩
    · simp [results, Tryz.results51, go_sem, q0, q1, q2]
    · obtain ⟨k, nm, l⟩ := x
      simp only at ho hk
      subst ho
      rw [IsTv.def]
      refine ⟨IsEx.stay (Stay.turned ok HT.out hgw) (fun _ h => .inl h) _ _ HXX.out, ?_, .inl ⟨hk, rfl⟩⟩
      rw [Ex.Num.def]
      refine ⟨[], rfl, by simp, ?_⟩
      rw [hq2]
      unfold Ex.code
      rw [if_pos hk]
end Go.Proofs.YtpidknogiiclfaaGreatDoor
