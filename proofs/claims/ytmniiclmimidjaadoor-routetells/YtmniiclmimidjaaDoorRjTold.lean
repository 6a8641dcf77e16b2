/-
  The walks of the document's Told, at one small number, and of its text of tracks.
-/
import Derived.Test.YtmniiclmimidjaaDoorRjTextW
import Derived.Deep.CutRange
namespace Go.Proofs.YtmniiclmimidjaaDoor
namespace Ro
open Go.RowKit
theorem Tryd.infoTx : (Tryd.prog.info? 9).map (fun i => (i.zero, i.size, i.bytes)) = some (some (.string ⟨#[]⟩), 1, 16) := by kernel_rfl
set_option maxHeartbeats 2000000 in
theorem join1_any (g cap : Nat) (s p : ByteArray) (w : World) (hc : w.cell? ⟨g, 0, none⟩ = some (.string s)) : Calls Tryd.prog 38 #[.slice (some ⟨g, 0, none⟩) 1 cap, .string p] w fun e w' => e = .returned (.string s) ∧ w' = w := by
  go_enter Tryd.func38, Tryd.ntmps38
  go_wp2_with fail
  go_ret
  exact ⟨rfl, rfl⟩
set_option maxHeartbeats 4000000 in
set_option maxRecDepth 100000 in
theorem told_any (b : Nat) (c : Int) (w : World) (hc : w.cell? ⟨b, 0, none⟩ = some (.int .i64 c)) (h0 : 0 ≤ c) (h4 : c < 4) :
    Calls Tryd.prog 27 #[.slice (some ⟨b, 0, none⟩) 1 1] w fun e w' => e = .returned (.string ⟨#[dig c]⟩) ∧ Below w.heap.size w w' := by
  obtain ⟨i0, hi0, hz0, hz1, hz2⟩ := info_parts Tryd.infoTx
  have HIT := hide (itoaI_any c h0 h4)
  have HJN := hide join1_any
  generalize dig c = d at *
  clear h0 h4
  go_enter Tryd.func27, Tryd.ntmps27
  go_wp2_with fail
  go_loopw [3, 8] (fun l i wr => (i = .int .i64 0 ∧ l = .slice none 0 0 ∧ Hid (wr = w)) ∨ ∃ g cap, i = .int .i64 1 ∧ l = .slice (some ⟨g, 0, none⟩) 1 cap ∧ Hid (wr.ownsRow w.heap.size 9 1 (.slice (some ⟨g, 0, none⟩) 1 cap) 1 [.string ⟨#[d]⟩]) ∧ Hid (Below w.heap.size w wr)) (fun _ i _ => 1 - (intOf i).toNat)
  case atStart => exact .inl ⟨rfl, rfl, rfl⟩
  case round =>
    rcases hrel with ⟨rfl, rfl, HW⟩ | ⟨g, cap, rfl, rfl, HO, HB⟩
    · obtain rfl := HW.out
      have HI := hide (HIT.out wr)
      go_wp2_with fail
      refine HI.out.mono ?_
      rintro e w1 ⟨rfl, hw1⟩
      obtain rfl := hw1.symm
      have HONE : Hid (∀ u ∈ [Value.string ⟨#[d]⟩], u.oneCell' = true) := by
        intro u hu
        simp only [List.mem_cons, List.not_mem_nil, or_false] at hu
        subst hu; rfl
      clear HI
      go_wp2_with (at_builtin; refine wpList_append_lies _ rfl (.tmp 12) (.tmp 15) 91 rfl wr.heap.size 9 i0 _ 1 16 Tryd.underlying91 hi0 hz0 hz1 hz2 rfl (by decide) (.slice none 0 0) 0 [] rfl (World.ownsRow_nil _ _ _ _) ⟨wr.heap.size, 0, none⟩ 1 1 [.string ⟨#[d]⟩] rfl rfl (World.news_of_block (heap_alloc_new wr _)) HONE.out (by decide) (by unfold maxLen; omega) (by omega) (by simp) (wr.heap.size + 1) (by simp) ?_; intro g2 cap2 wC hown hgrow hat hltg; have HOC := hide hown; have HBC := hide (((Below.refl _ wr).alloc (Nat.le_refl _) _).grown hgrow (by simp) (fun j e => by cases e)); clear hown hgrow hat)
      exact ⟨.inr ⟨g2, cap2, rfl, rfl, HOC.out, HBC.out⟩, by simp [intOf]⟩
    · have hcell : wr.cell? ⟨g, 0, none⟩ = some (.string ⟨#[d]⟩) := by
        rcases HO.out.2 with ⟨hx, _⟩ | ⟨g', cap', cur, hx, _, hcur, hcap, _, _, htk⟩
        · cases hx
        · simp only [Value.slice.injEq, Option.some.injEq, Addr.mk.injEq, true_and, and_true] at hx
          obtain ⟨rfl, rfl⟩ := hx
          exact row_cell hcur htk rfl
      have HJ := hide (HJN.out g cap ⟨#[d]⟩ ⟨#[32]⟩ wr hcell)
      clear hcell
      go_wp2_with fail
      refine HJ.out.mono ?_
      rintro e w2 ⟨rfl, hw2⟩
      obtain rfl := hw2.symm
      go_wp2_with fail
      go_ret
      exact ⟨rfl, HB.out⟩
theorem bcat (x : List UInt8) (y : Array UInt8) : (⟨x.toArray⟩ : ByteArray) ++ ⟨y⟩ = ⟨(x ++ y.toList).toArray⟩ := by apply ByteArray.ext; simp
theorem bcat2 (x y : Array UInt8) : (⟨x⟩ : ByteArray) ++ ⟨y⟩ = ⟨x ++ y⟩ := by apply ByteArray.ext; simp
end Ro
end Go.Proofs.YtmniiclmimidjaaDoor
