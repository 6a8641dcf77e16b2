/-
  The walks of the document's named, Names and Edges: the names in order, each once.
-/
import Derived.Test.YtblfeahbpklgiaaGreatDoorNdPut
import Derived.Laws.EntriesVeiled
namespace Go.Proofs.YtblfeahbpklgiaaGreatDoor
open Go.RowKit
theorem rnamed_any (x : Ex) : NamedOK x := by
  induction x using Ex.ind with
  | h k nm l ih =>
    intro all p g m ns w h hs hmp hm hsz
    have h' := h
    rw [IsRx.def] at h'
    obtain ⟨_, hwf, _⟩ := h'
    rcases hwf with ⟨h1, rfl, h3⟩ | ⟨h1, h2, h3, h4⟩ | ⟨rfl, rfl, _⟩ | ⟨h1, h2, rfl, _⟩
    · exact named_none k l ⟨by omega, by omega, by omega⟩ ih all p g m ns w h hs hmp hm hsz
    · have hl : l = [] := List.length_eq_zero_iff.1 h4
      subst hl
      rw [Ex.size_eq] at hsz
      by_cases hb : k = 2 ∧ all = false
      · obtain ⟨rfl, rfl⟩ := hb
        have := named_not nm h3 g p m ns w h hs hm
        rw [Ex.named2]
        exact this
      · have hk : (k = 2 ∧ all = true) ∨ k = 3 ∨ k = 4 := by
          cases all
          · have : k ≠ 2 := fun e => hb ⟨e, rfl⟩
            omega
          · simp; omega
        have := named_put all k hk nm h3 g p m ns w h hs hm (by omega)
        have hn : Ex.named all ⟨k, nm, []⟩ = [nm] := by
          rcases hk with ⟨rfl, rfl⟩ | rfl | rfl
          · rw [Ex.named2]; rfl
          · rw [Ex.named3]
          · rw [Ex.named4]
        rw [hn]
        exact this
    · exact named_none 5 l (by decide) ih all p g m ns w h hs hmp hm hsz
    · exact named_none k l ⟨by omega, by omega, by omega⟩ ih all p g m ns w h hs hmp hm hsz
theorem owned_strs {w : World} {B : Nat} {v : Value} {ns : List (List UInt8)} (h : w.ownsRow B 9 1 v ns.length (ns.map strV)) (hl : ns.length ≤ 1000000) : Strs w v (ns.map toBA) := by
  rcases h.2 with ⟨hv, hn⟩ | ⟨g, cap, cur, hv, _, _, hnc, _⟩
  · exact .inl ⟨by simp [List.length_eq_zero_iff.1 hn], _, _, hv⟩
  · refine .inr ⟨g, 0, cap, by rw [hv]; simp, by simp; omega, by simp; omega, ?_⟩
    intro k s hk
    rw [List.getElem?_map] at hk
    cases e : ns[k]? with
    | none => rw [e] at hk; simp at hk
    | some y =>
      rw [e] at hk
      simp only [Option.map_some, Option.some.injEq] at hk
      subst hv
      have hkl : k < ns.length := by
        by_cases h : k < ns.length
        · exact h
        · rw [List.getElem?_eq_none (by omega)] at e; simp at e
      rw [Nat.zero_add, h.cellAt k (by omega), List.getElem?_map, e, ← hk]
      rfl
set_option maxHeartbeats 1000000 in
set_option maxRecDepth 100000 in
theorem Named_all (ok : Nat → Prop) (all : Bool) (x : Ex) (g : Nat) (m : Int) (w : World) (h : IsRx ok w x g) (hlen : x.size ≤ 1000000) (hmp : 2 < w.heap.size) (hm : w.cell? ⟨2, 0, none⟩ = some (.int .i64 m)) :
    Calls Tryz.prog 18 #[.pointer (some ⟨g, 0, none⟩), .string ⟨(kindsOf all).toArray⟩] w fun e w' => ∃ sv, e = .returned sv ∧ Strs w' sv ((ordered (x.named all)).map toBA) ∧ Below w.heap.size w w' := by
  have hmf : ∀ (fn : Fn) (first cap : Array Value) (w : World), (Instr.makeFunc fn first cap).run Tryz.prog w = .ok (.func fn first cap) w := fun _ _ _ _ => rfl
  obtain ⟨kd, hkd⟩ : ∃ kd, kd = kindsOf all := ⟨_, rfl⟩
  obtain ⟨wa, hwa⟩ : ∃ wa, wa = (w.alloc (.cells #[.string ⟨kd.toArray⟩] 9)).alloc (.cells #[.slice none 0 0] 34) := ⟨_, rfl⟩
  obtain ⟨F, hF⟩ : ∃ F, F = Value.func (.func 38) #[] #[.pointer (some ⟨w.heap.size, 0, none⟩), .pointer (some ⟨w.heap.size + 1, 0, none⟩), .pointer (some ⟨w.heap.size + 1 + 1, 0, none⟩)] := ⟨_, rfl⟩
  have hsa : wa.heap.size = w.heap.size + 1 + 1 := by rw [hwa]; simp
  have hba : Below w.heap.size w wa := by rw [hwa]; exact ((Below.refl _ w).alloc (Nat.le_refl _) _).alloc (by simp) _
  have hk1 : wa.heap[w.heap.size]? = some (.cells #[.string ⟨kd.toArray⟩] 9 (0, 0)) := by
    rw [hwa, Below.heap_alloc _ _ _ (by simp)]; exact heap_alloc_new _ _
  have ho1 : wa.heap[w.heap.size + 1]? = some (.cells #[.slice none 0 0] 34 (0, 0)) := by
    have := heap_alloc_new (w.alloc (.cells #[.string ⟨kd.toArray⟩] 9)) (.cells #[.slice none 0 0] 34)
    rw [World.size_alloc] at this
    rw [hwa]; exact this
  have hnew : (wa.alloc (.cells #[.nilFunc] 77)).heap[w.heap.size + 1 + 1]? = some (.cells #[.nilFunc] 77 (0, 0)) := by
    rw [← hsa]; exact heap_alloc_new _ _
  have s0 : (wa.alloc (.cells #[.nilFunc] 77)).cell? ⟨w.heap.size + 1 + 1, 0, none⟩ = some .nilFunc := by rw [Lib.cell_of_heap hnew]; rfl
  have s1 : (wa.alloc (.cells #[.nilFunc] 77)).frozen? ⟨w.heap.size + 1 + 1, 0, none⟩ = false := Lib.frozen_of_heap hnew 0
  obtain ⟨w3, hw3⟩ : ∃ w3, w3 = wa.alloc (.cells #[F] 77) := ⟨_, rfl⟩
  have hb3 : Below (w.heap.size + 1 + 1) wa w3 := by rw [hw3]; exact (Below.refl _ wa).alloc (by omega) _
  have hf3 : w3.heap[w.heap.size + 1 + 1]? = some (.cells #[F] 77 (0, 0)) := by rw [hw3, ← hsa]; exact heap_alloc_new _ _
  have hbw : Below w.heap.size w w3 := hba.trans (hb3.mono (by omega))
  have hs3 : Sn w.heap.size kd [] w3 := ⟨by rw [hb3.block _ (by omega)]; exact hk1, ⟨_, by rw [hb3.block _ (by omega)]; exact ho1, World.ownsRow_nil _ _ _ _⟩, by rw [← hF]; exact hf3⟩
  have hx3 : IsRx (fun g => g < w.heap.size) w3 x g := IsRx.stay (Stay.below hbw) (fun g hg => hg.2) x g (IsRx.lt x g h)
  have hm3 : w3.cell? ⟨2, 0, none⟩ = some (.int .i64 m) := by rw [hbw.cell (p := ⟨2, 0, none⟩) hmp]; exact hm
  have HC := hide (rnamed_any x all w.heap.size g m [] w3 hx3 (by rw [← hkd]; exact hs3) hmp hm3 (by simpa using hlen))
  rw [← hkd] at HC
  rw [← hkd]
  have HL := hide (insAll_len (x.named all) [])
  have HNL := hide (Ex.named_le all x)
  have HBW := hide hbw
  have HW3 := hide hw3
  have HWA := hide hwa
  have HF := hide hF
  have c3 : w3.cell? ⟨w.heap.size + 1 + 1, 0, none⟩ = some F := by rw [Lib.cell_of_heap hf3]; rfl
  rw [hw3, hF] at c3
  rw [hw3, hF] at HC
  rw [hwa] at s0 s1 c3 HC
  clear hsa hba hk1 ho1 hnew hb3 hf3 hbw hs3 hx3 hm3 hkd h hm hwa hF hw3
  go_enter Tryz.func18, Tryz.ntmps18
  go_wp2_with fail
  refine HC.out.mono ?_
  rintro e w1 ⟨rfl, hs, hb⟩
  obtain ⟨v, hp, ho⟩ := hs.o
  have c0 : w1.cell? ⟨w.heap.size + 1, 0, none⟩ = some v := by rw [Lib.cell_of_heap hp]; rfl
  have HO := hide ho
  have HB := hide hb
  obtain ⟨a, c, rfl⟩ := ownsRow_shape ho
  generalize hnn : (insAll [] (x.named all)).length = n at *
  have HNN := hide hnn
  clear hs hp ho hb hnn HC s0 s1 c3
  go_wp2_with fail
  go_ret
  refine ⟨.slice a n c, rfl, ?_, ?_⟩
  · rw [← insAll_ordered]
    exact owned_strs (B := w.heap.size + 3) (by rw [HNN.out]; exact HO.out) (by rw [HNN.out]; have h1 := HL.out; have h2 := HNL.out; simp only [List.length_nil] at h1; omega)
  · have := HB.out
    rw [← HWA.out, ← HF.out, ← HW3.out] at this
    exact HBW.out.trans this
set_option maxHeartbeats 1000000 in
set_option maxRecDepth 100000 in
theorem RNames_any (ok : Nat → Prop) (x : Ex) (g : Nat) (m : Int) (w : World) (h : IsRx ok w x g) (hlen : x.size ≤ 1000000) (hmp : 2 < w.heap.size) (hm : w.cell? ⟨2, 0, none⟩ = some (.int .i64 m)) :
    Calls Tryz.prog 8 #[.pointer (some ⟨g, 0, none⟩)] w fun e w' => ∃ sv, e = .returned sv ∧ Strs w' sv ((ordered (x.named true)).map toBA) ∧ Below w.heap.size w w' := by
  have HC := hide (Named_all ok true x g m w h hlen hmp hm)
  clear h hm
  go_enter Tryz.func8, Tryz.ntmps8
  go_wp2_with fail
  refine HC.out.mono ?_
  rintro e w1 ⟨sv, rfl, hs, hb⟩
  have HS := hide hs
  have HB := hide hb
  obtain ⟨a2, n2, c2, hsv2⟩ : ∃ a n c, sv = .slice a n c := by
    rcases hs with ⟨_, a, cap, h⟩ | ⟨g, o, cap, h, _⟩
    · exact ⟨_, _, _, h⟩
    · exact ⟨_, _, _, h⟩
  subst hsv2
  clear hs hb
  go_wp2_with fail
  go_ret
  exact ⟨.slice a2 n2 c2, rfl, HS.out, HB.out⟩
end Go.Proofs.YtblfeahbpklgiaaGreatDoor
