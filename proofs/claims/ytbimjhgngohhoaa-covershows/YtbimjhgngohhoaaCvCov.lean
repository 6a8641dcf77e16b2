/-
  The walk of the statements' own covered: a fact of two pairs.
-/
import Derived.Test.YtbimjhgngohhoaaCvPairs
import Derived.Test.YtbimjhgngohhoaaParse
namespace Go.Proofs.Ytbimjhgngohhoaa
namespace Cv
open Go.RowKit
/-- the expression a & b -/
def exC : Ex := ⟨6, [], [⟨2, [97], []⟩, ⟨2, [98], []⟩]⟩
theorem exC_parse : Ex.parse [97, 32, 38, 32, 98] = .inr exC := by kernel_rfl
theorem ord2 : ordered [[97], [98]] = [[97], [98]] := by
  unfold ordered
  rw [List.mergeSort_of_pairwise (by decide +kernel)]
  decide +kernel
theorem ord0 : ordered [] = [] := by kernel_rfl
theorem exC_names : ordered (exC.named true) = [[97], [98]] := by
  have h : exC.named true = [[97], [98]] := by simp [exC, Ex.named]
  exact (congrArg ordered h).trans ord2
theorem exC_edges : ordered (exC.named false) = [] := by
  have h : exC.named false = [] := by simp [exC, Ex.named]
  exact (congrArg ordered h).trans ord0
theorem exC_says : sayV exC [[97], [98]] = fun v => v.testBit 0 && v.testBit 1 := by
  funext v
  have h1 : tv [[97], [98]] v [97] = v.testBit 0 := by simp [tv, ix]
  have h2 : tv [[97], [98]] v [98] = v.testBit 1 := by simp [tv, ix]
  simp only [sayV, exC, Ex.eval, List.map_cons, List.map_nil, List.all_cons, List.all_nil, id, h1, h2, Bool.and_true]
theorem exC_pairs : pairsTo (sayV exC [[97], [98]]) [[97], [98]] 2 = [⟨[97], 2, 0⟩, ⟨[98], 1, 1⟩] := by
  rw [exC_says]
  kernel_rfl
theorem exC_size : exC.size ≤ 1000000 := by simp [exC, Ex.size]
theorem later {ok : Nat → Prop} {w w' : World} {x : Ex} {v : Value} (h : IsEx ok w x v) (hb : Below w.heap.size w w') : IsEx (fun _ => True) w' x v := IsEx.stay (Stay.below hb) (fun _ _ => trivial) x v h
set_option maxHeartbeats 2000000 in
set_option maxRecDepth 100000 in
theorem covered_any (w : World) : Calls Try.prog 5 #[] w fun e w' => e = .returned (.bool true) ∧ Below w.heap.size w w' := by
  have HP := hide (Parse_any ⟨#[97, 32, 38, 32, 98]⟩ w (by decide))
  change Hid (Calls _ _ _ _ (Parsed w (Ex.parse [97, 32, 38, 32, 98]))) at HP
  rw [exC_parse] at HP
  have q0 : ∀ w : World, (binOp .eql 41 (.agg #[.string ⟨#[97]⟩, .int .u64 2, .int .u64 3]) (.agg #[.string ⟨#[97]⟩, .int .u64 2, .int .u64 3])).run Try.prog w = .ok (.bool true) w := fun _ => by kernel_rfl
  have q1 : ∀ w : World, (binOp .eql 41 (.agg #[.string ⟨#[98]⟩, .int .u64 1, .int .u64 3]) (.agg #[.string ⟨#[98]⟩, .int .u64 1, .int .u64 3])).run Try.prog w = .ok (.bool true) w := fun _ => by kernel_rfl
  go_enter Try.func5, Try.ntmps5
  go_wp2_with fail
  refine HP.out.mono ?_
  rintro e w1 ⟨hb1, v, rfl, hx1⟩
  have HB1 := hide hb1
  have HPA := hide (Pairs_any _ exC v w1 hx1 exC_size)
  obtain ⟨tu, yu, hiu⟩ := IsEx.iface _ v hx1
  subst hiu
  clear hb1 hx1 HP
  go_wp2_with fail
  refine HPA.out.mono ?_
  rintro e w2 ⟨ha, hb2⟩
  have HB2 := hide (HB1.out.trans (hb2.mono HB1.out.size))
  unfold Answer at ha
  rw [exC_names, exC_edges] at ha
  rcases ha with ⟨_, _, _, h⟩ | ⟨sv, rfl, _, _, hp⟩
  · exfalso
    rcases h with h | h
    · exact h rfl
    · exact absurd h (by decide)
  change PairsAt w2 sv (pairsTo (sayV exC [[97], [98]]) [[97], [98]] 2) at hp
  rw [exC_pairs] at hp
  rcases hp with ⟨h0, _⟩ | ⟨g, c, rfl, hc, hcell⟩
  · cases h0
  obtain ⟨a0, a1, a2⟩ := hcell 0 _ rfl
  obtain ⟨b0, b1, b2⟩ := hcell 1 _ rfl
  change w2.cell? ⟨g, 0, none⟩ = some (.string ⟨#[97]⟩) at a0
  change w2.cell? ⟨g, 1, none⟩ = some (.int .u64 2) at a1
  change w2.cell? ⟨g, 2, none⟩ = some (.int .u64 3) at a2
  change w2.cell? ⟨g, 3, none⟩ = some (.string ⟨#[98]⟩) at b0
  change w2.cell? ⟨g, 4, none⟩ = some (.int .u64 1) at b1
  change w2.cell? ⟨g, 5, none⟩ = some (.int .u64 3) at b2
  have hc2 : 2 ≤ c := hc
  clear hb2 hcell hc HPA
  go_wp2_with fail
  go_ret
  exact ⟨rfl, HB2.out⟩
end Cv
end Go.Proofs.Ytbimjhgngohhoaa
