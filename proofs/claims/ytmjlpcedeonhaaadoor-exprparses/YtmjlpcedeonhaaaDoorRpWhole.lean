/-
  The walks of the document's whole: parts with | between, of pieces with & between.
-/
import Derived.Test.YtmjlpcedeonhaaaDoorRpRow
namespace Go.Proofs.YtmjlpcedeonhaaaDoor
open Go.RowKit
theorem ReadR.from {b : Nat} {s : ByteArray} {D : Nat} {w w1 w' : World} {r : Ex.Res Ex} {e : Ending} (hk : Keep b w w1) (h : ReadR b s D w1 r e w') : ReadR b s D w r e w' := by
  obtain ⟨h1, h2⟩ := h
  refine ⟨hk.trans h1, ?_⟩
  match r, h2 with
  | .inl (err, p), h2 => exact h2
  | .inr (x, m), ⟨g, he, hx, hrd⟩ => exact ⟨g, he, IsRx.stay (fun g i u _ hc => hc) (fun g hg => Nat.le_trans hk.size hg) x g hx, hrd⟩
/-- a function that reads, by its number -/
def ReadsR (b : Nat) (s : ByteArray) (D : Nat) (K : Nat) (args : Array Value) (R : Nat → Ex.Res Ex) (w0 : World) : Prop :=
  ∀ (i : Nat) (w : World), Keep b w0 w → Rp b s i 0 (-1) w → i ≤ s.size → Calls Tryd.prog K args w (ReadR b s D w (R i))
theorem entered_rpiece : Entered 33 := fun _ _ => by kernel_rfl
theorem entered_rwhole1 : Entered 32 := fun _ _ => by kernel_rfl
set_option maxHeartbeats 1000000 in
set_option maxRecDepth 100000 in
theorem rpart_any (b c : Nat) (s : ByteArray) (D : Nat) (d : Int) (R : Nat → Ex.Res Ex) (hadv : Ex.Adv s.data.toList R) (w0 : World) (hcb : c ≠ b) (hc : w0.cell? ⟨c, 0, none⟩ = some (.pointer (some ⟨b, 0, none⟩))) (hR : ReadsR b s D 33 #[.pointer (some ⟨b, 0, none⟩), .int .i64 d] R w0) (hs : s.size ≤ 2000) :
    ReadsR b s D 32 #[.int .i64 d, .pointer (some ⟨c, 0, none⟩)] (Ex.partP s.data.toList R) w0 := by
  intro i w hk h hi
  have HL : Hid (s.data.toList.length = s.size) := by show _ = _; simp
  have HROW := hide (row_any b s i D (s.data.toList.length + 1) _ d _ _ entered_rpiece (.inl ⟨rfl, rfl⟩) (by rw [HL.out]; omega) 38 6 (.inl ⟨rfl, rfl⟩) R hadv w0 w hR hk h hi hs)
  have hmf : ∀ (fn : Fn) (first cap : Array Value) (w : World), (Instr.makeFunc fn first cap).run Tryd.prog w = .ok (.func fn first cap) w := fun _ _ _ _ => rfl
  have hcw : w.cell? ⟨c, 0, none⟩ = some (.pointer (some ⟨b, 0, none⟩)) := by rw [hk.cell (World.block_lt_of_cell? _ _ hc) hcb]; exact hc
  change Hid (Calls _ _ _ _ (ReadR b s D w (Ex.partP s.data.toList R i))) at HROW
  clear hR hadv hk h hc
  generalize Ex.partP s.data.toList R i = r at *
  go_enter Tryd.func32, Tryd.ntmps32
  go_wp2_with fail
  refine HROW.out.mono ?_
  intro e w1 hq
  obtain ⟨q, he⟩ := hq.ptr
  subst he
  have HQ := hide hq
  clear hq HROW
  go_wp2_with fail
  go_ret
  exact HQ.out
set_option maxHeartbeats 1000000 in
set_option maxRecDepth 100000 in
theorem rwhole_any (b : Nat) (s : ByteArray) (D : Nat) (d : Int) (R : Nat → Ex.Res Ex) (hadv : Ex.Adv s.data.toList R) (w0 : World) (hR : ReadsR b s D 33 #[.pointer (some ⟨b, 0, none⟩), .int .i64 d] R w0) (hs : s.size ≤ 2000) :
    ReadsR b s D 16 #[.pointer (some ⟨b, 0, none⟩), .int .i64 d] (Ex.wholeP s.data.toList R) w0 := by
  intro i w hk h hi
  have HL : Hid (s.data.toList.length = s.size) := by show _ = _; simp
  have hlt := h.lt
  have hka : Keep b w (w.alloc (.cells #[.pointer (some ⟨b, 0, none⟩)] 46)) := (Keep.refl b w).alloc _
  have hP := rpart_any b w.heap.size s D d R hadv (w.alloc (.cells #[.pointer (some ⟨b, 0, none⟩)] 46)) (by omega) (by simp) (fun i w' hk' => hR i w' ((hk.trans hka).trans hk')) hs
  have HROW := hide (row_any b s i D (s.data.toList.length + 1) _ d _ _ entered_rwhole1 (.inr ⟨w.heap.size, rfl, rfl⟩) (by rw [HL.out]; omega) 124 7 (.inr ⟨rfl, rfl⟩) _ (Ex.partP_adv _ _ hadv) _ _ hP (Keep.refl b _) (h.alloc _) hi hs)
  have hmf : ∀ (fn : Fn) (first cap : Array Value) (w : World), (Instr.makeFunc fn first cap).run Tryd.prog w = .ok (.func fn first cap) w := fun _ _ _ _ => rfl
  have HKA := hide hka
  change Hid (Calls _ _ _ _ (ReadR b s D _ (Ex.wholeP s.data.toList R i))) at HROW
  clear hR hadv hk h hka hP
  generalize Ex.wholeP s.data.toList R i = r at *
  go_enter Tryd.func16, Tryd.ntmps16
  go_wp2_with fail
  refine HROW.out.mono ?_
  intro e w1 hq
  obtain ⟨q, he⟩ := hq.ptr
  subst he
  have HQ := hide (ReadR.from HKA.out hq)
  clear hq HROW
  go_wp2_with fail
  go_ret
  exact HQ.out
end Go.Proofs.YtmjlpcedeonhaaaDoor
