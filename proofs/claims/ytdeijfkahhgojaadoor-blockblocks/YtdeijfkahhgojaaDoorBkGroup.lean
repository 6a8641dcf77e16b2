/-
  The walks of package block's grouped, and of what it asks.
-/
import Derived.Test.YtdeijfkahhgojaaDoorBkIdx
import Derived.Test.YtdeijfkahhgojaaDoorBkGrp
namespace Go.Proofs.YtdeijfkahhgojaaDoor
namespace Bk
open Go.RowKit
set_option maxHeartbeats 2000000 in
set_option maxRecDepth 100000 in
theorem grouped1_any (x s n bF bS : Nat) (f : Value) (al : Nat → Nat → Bool) (w : World) (hF : w.cell? ⟨bF, 0, none⟩ = some f) (hS : w.cell? ⟨bS, 0, none⟩ = some (.int .i64 (s : Int))) (hf : PPred w f n al) (hx : x < n) (hs : s < n) :
    Calls Tryd.prog 40 #[.int .i64 (x : Int), .pointer (some ⟨bF, 0, none⟩), .pointer (some ⟨bS, 0, none⟩)] w fun e w' => e = .returned (.bool (al x s)) ∧ Below w.heap.size w w' := by
  obtain ⟨K, cs, rfl, hcs, hent, hcall⟩ := hf
  have hent' : ∀ (args : Array Value) (w : World), (callFunc K args).run Tryd.prog w = .ok (.enter K args) w := hent
  have HC := hide (hcall x s w (Below.refl _ _) hx hs)
  clear hcall hent
  generalize al x s = y at *
  rcases hcs with ⟨c, rfl⟩ | ⟨c, d, rfl⟩
  all_goals
    go_enter Tryd.func40, Tryd.ntmps40
    go_wp2_with fail
    refine HC.out.mono ?_
    rintro e w1 ⟨rfl, hb1⟩
    have HB := hide hb1
    clear hb1 HC
    go_wp2_with fail
    go_ret
    exact ⟨rfl, HB.out⟩
theorem grouped1_pred (s n bF bS : Nat) (f : Value) (al : Nat → Nat → Bool) (w : World) (hF : w.cell? ⟨bF, 0, none⟩ = some f) (hS : w.cell? ⟨bS, 0, none⟩ = some (.int .i64 (s : Int))) (hf : PPred w f n al) (hs : s < n) :
    SPred w (.func (.func 40) #[] #[.pointer (some ⟨bF, 0, none⟩), .pointer (some ⟨bS, 0, none⟩)]) (fun x => 0 ≤ x ∧ x < (n : Int)) (fun x => al x.toNat s) :=
  ⟨_, _, rfl, .inr ⟨_, _, rfl⟩, fun _ _ => by kernel_rfl, fun x W hW hx => by
    obtain ⟨k, rfl⟩ : ∃ k : Nat, x = (k : Int) := ⟨x.toNat, by omega⟩
    have := grouped1_any k s n bF bS f al W (kept hW hF) (kept hW hS) (hf.below hW) (by omega) hs
    simpa using this⟩
/-- numbers of states, as numbers -/
def ints (l : List Nat) : List Int := l.map fun i : Nat => (i : Int)
theorem ints_len (l : List Nat) : (ints l).length = l.length := by simp [ints]
theorem ints_snoc (l : List Nat) (x : Nat) : ints (l ++ [x]) = ints l ++ [(x : Int)] := by simp [ints]
theorem ints_get (l : List Nat) (i x : Nat) (h : l[i]? = some x) : (ints l)[i]? = some (x : Int) := by rw [ints, List.getElem?_map, h]; rfl
theorem ints_mem (l : List Nat) (n : Nat) (h : ∀ f, f ∈ l → f < n) (x : Int) (hx : x ∈ ints l) : 0 ≤ x ∧ x < (n : Int) := by
  obtain ⟨f, hf, rfl⟩ := List.mem_map.1 hx
  have := h f hf
  constructor <;> omega
theorem idx_ints (l : List Nat) (p : Nat → Bool) : idx (fun x => p x.toNat) (ints l) = (l.findIdx? p).elim (-1) fun j => (j : Int) := by
  unfold idx ints
  rw [List.findIdx?_map]
  congr 1
/-- what grouped comes to: of each state its group's number, of each group its first -/
def GrpDone (w : World) (n : Nat) (r : List Nat × List Nat) (e : Ending) (w' : World) : Prop := ∃ gO fv, e = .returned (.tuple #[.slice (some ⟨gO, 0, none⟩) n n, fv]) ∧ RowIs w' gO 3 ((ints r.1).map intV) ∧ w'.ownsRow w.heap.size 3 1 fv r.2.length ((ints r.2).map intV) ∧ w.heap.size ≤ gO ∧ Below w.heap.size w w'
set_option maxHeartbeats 8000000 in
set_option maxRecDepth 100000 in
theorem grouped_any (n : Nat) (f : Value) (al : Nat → Nat → Bool) (w : World) (hf : PPred w f n al) (he : Eqv n al) (hn : n ≤ 500) :
    Calls Tryd.prog 32 #[.int .i64 (n : Int), f] w (GrpDone w n (grp al n)) := by
  have hmf : ∀ (fn : Fn) (first cap : Array Value) (w : World), (Instr.makeFunc fn first cap).run Tryd.prog w = .ok (.func fn first cap) w := fun _ _ _ _ => rfl
  obtain ⟨i0, hi0, hz0, hz1, hz2⟩ := info_parts Tryd.infoInt
  have HE := hide he
  have HF := hide hf
  obtain ⟨K, cs, rfl, hcs, h8, h9⟩ := hf
  clear h8 h9
  have mk := fun w => makeIs n (by omega) w
  obtain ⟨cO, hcO⟩ : ∃ c, c = List.replicate n (Value.int .i64 0) := ⟨_, rfl⟩
  rw [← hcO] at mk
  obtain ⟨wA, hwA⟩ : ∃ wA, wA = w.alloc (.cells #[.func (.func K) #[] cs] 67) := ⟨_, rfl⟩
  obtain ⟨wB, hwB⟩ : ∃ wB, wB = wA.alloc (.cells ⟨cO⟩ 3) := ⟨_, rfl⟩
  have hzA : wA.heap.size = w.heap.size + 1 := by rw [hwA]; simp
  have HBA : Hid (Below w.heap.size w wA) := by rw [hwA]; exact (Below.refl _ _).alloc (Nat.le_refl _) _
  have HBB : Hid (Below w.heap.size w wB) := by rw [hwB]; exact HBA.out.alloc HBA.out.size _
  have HFC : Hid (wB.cell? ⟨w.heap.size, 0, none⟩ = some (.func (.func K) #[] cs)) := by
    rw [hwB]
    refine kept ((Below.refl _ wA).alloc (Nat.le_refl _) _) ?_
    rw [hwA, Lib.cell_of_heap (heap_alloc_new w _)]; rfl
  have HR0 : Hid (RowIs wB (w.heap.size + 1) 3 ((ints (grp al 0).1).map intV ++ List.replicate (n - ((ints (grp al 0).1).map intV).length) (.int .i64 0))) := by
    show RowIs wB (w.heap.size + 1) 3 (List.replicate n (.int .i64 0))
    rw [hwB, ← hcO, ← hzA]; exact RowIs.new _ _ _
  rcases hcs with ⟨c, rfl⟩ | ⟨c, d, rfl⟩
  all_goals
    clear he hcO
    go_enter Tryd.func32, Tryd.ntmps32
    go_wp2_with fail
    rw [← hwA, ← hwB]
    go_loopw [5, 10] (fun l i wr => ∃ s : Nat, s ≤ n ∧ i = .int .i64 (s : Int) ∧ (∃ a c, l = .slice a (grp al s).2.length c) ∧ Hid (wr.ownsRow (w.heap.size + 2) 3 1 l (grp al s).2.length ((ints (grp al s).2).map intV)) ∧ Hid (RowIs wr (w.heap.size + 1) 3 ((ints (grp al s).1).map intV ++ List.replicate (n - ((ints (grp al s).1).map intV).length) (.int .i64 0))) ∧ Hid (Below w.heap.size w wr) ∧ Hid (w.heap.size + 2 ≤ wr.heap.size ∧ wr.cell? ⟨w.heap.size, 0, none⟩ = wB.cell? ⟨w.heap.size, 0, none⟩)) (fun _ i _ => n - (intOf i).toNat)
    case atStart => exact ⟨0, Nat.zero_le _, rfl, ⟨_, _, rfl⟩, World.ownsRow_nil _ _ _ _, HR0.out, HBB.out, by rw [hwB]; simp; omega, rfl⟩
    case round =>
      obtain ⟨s, hs, rfl, ⟨fa, fc, rfl⟩, HO, HR, HB, HZ⟩ := hrel
      have I := inv_grp HE.out s hs
      obtain ⟨hz5, hfc5⟩ := HZ.out
      by_cases hlt : s < n
      · have hlo : ((ints (grp al s).1).map intV).length = s := by rw [List.length_map, ints_len, I.len]
        have HSU : Hid (grp al (s + 1) = grpStep al (grp al s) s) := rfl
        have HIX0 : Hid (idx (fun x => al x.toNat s) (ints (grp al s).2) = ((grp al s).2.findIdx? fun f => al f s).elim (-1) fun j => (j : Int)) := idx_ints (grp al s).2 (fun f => al f s)
        have d0 : wr.cell? ⟨w.heap.size + 1, s, none⟩ = some (.int .i64 0) := HR.out.cell s _ (by rw [List.getElem?_append_right (by omega), List.getElem?_replicate, if_pos (by omega)])
        have f0 := HR.out.frozen s
        obtain ⟨wS, hwS⟩ : ∃ wS, wS = wr.alloc (.cells #[.int .i64 (s : Int)] 3) := ⟨_, rfl⟩
        have HBS : Hid (Below wr.heap.size wr wS) := by rw [hwS]; exact (Below.refl _ _).alloc (Nat.le_refl _) _
        have hcS : wS.cell? ⟨wr.heap.size, 0, none⟩ = some (.int .i64 (s : Int)) := by rw [hwS, Lib.cell_of_heap (heap_alloc_new wr _)]; rfl
        have HIX := hide (fun W (hW : Below wS.heap.size wS W) => indexF_any (ints (grp al s).2) (.slice fa (grp al s).2.length fc) _ _ _ W
          (ints_own (own_below (by rw [ints_len]; exact HO.out) (then_ HBS.out hW)) (by rw [ints_len]; have := firsts_le (al := al) s; unfold maxLen; omega) (fun x hx => by have := ints_mem _ s I.mem_lt x hx; unfold I64; omega))
          (fun x hx => by have := ints_mem _ s I.mem_lt x hx; omega)
          (grouped1_pred s n w.heap.size wr.heap.size _ al W (kept (then_ HBS.out hW) (hfc5.trans HFC.out)) (kept hW hcS) (HF.out.below (then_ HB.out (then_ HBS.out hW))) hlt))
        rw [HIX0.out] at HIX
        have hne : wr.heap.size ≠ w.heap.size + 1 := by omega
        have hzS : wr.heap.size < wS.heap.size := by rw [hwS]; simp
        have HKS : Hid (∀ W, Below wS.heap.size wS W → W.cell? ⟨wr.heap.size, 0, none⟩ = some (.int .i64 (s : Int))) := fun W hW => kept hW hcS
        have HK2 : Hid (∀ W, Below wS.heap.size wS W → W.cell? ⟨w.heap.size + 1, s, none⟩ = some (.int .i64 0) ∧ W.frozen? ⟨w.heap.size + 1, s, none⟩ = false) := fun W hW => ⟨kept (then_ HBS.out hW) d0, (RowIs.below HR.out (then_ HBS.out hW)).frozen s⟩
        have HD := hide (drewB wS)
        obtain ⟨r, hr⟩ : ∃ r, r = (((grp al s).2.findIdx? fun f => al f s).elim (-1) fun j : Nat => (j : Int)) := ⟨_, rfl⟩
        have HRR := hide hr
        rw [← hr] at HIX
        obtain ⟨m, hm⟩ : ∃ m, m = (grp al s).2.length := ⟨_, rfl⟩
        have HM := hide hm
        rw [← hm] at HIX HO
        have hsi : (s : Int) < (n : Int) := by omega
        clear hr HIX0 hlo I hfc5
        rw [← hm]
        clear hm
        go_wp2_with fail
        rw [← hwS]
        clear hwS
        go_region_held3 (fun W => W.cell? ⟨wr.heap.size, 0, none⟩ = some (.int .i64 (s : Int))) ((first | exact cell_set_block _ _ _ _ _ _ _ hne (HKS.out _ HB2.out) | (refine HKS.out _ ?_; first | exact HD.out | exact HB2.out | exact Below.refl _ _))) ((go_at_call 37; (with_reducible refine (HIX.out _ HD.out).mono ?_); rintro e w2 ⟨rfl, hb2⟩; have HB2 : Hid (Below wS.heap.size wS w2) := then_ HD.out hb2; obtain ⟨q0, q1⟩ := HK2.out w2 HB2.out; clear hb2))
        have q2 := HKS.out w2 HB2.out
        obtain ⟨w3, hw3⟩ : ∃ w3, w3 = w2.setCell ⟨w.heap.size + 1, s, none⟩ (.int .i64 r) := ⟨_, rfl⟩
        have HR2 := RowIs.below HR.out (then_ HBS.out HB2.out)
        have hlo : ((ints (grp al s).1).map intV).length = s := by rw [List.length_map, ints_len, (inv_grp HE.out s hs).len]
        have HSET : Hid (∀ (W : World) (x : Int), RowIs W (w.heap.size + 1) 3 ((ints (grp al s).1).map intV ++ List.replicate (n - ((ints (grp al s).1).map intV).length) (.int .i64 0)) → RowIs (W.setCell ⟨w.heap.size + 1, s, none⟩ (.int .i64 x)) (w.heap.size + 1) 3 (((ints (grp al s).1).map intV ++ [Value.int .i64 x]) ++ List.replicate (n - ((ints (grp al s).1).map intV ++ [Value.int .i64 x]).length) (.int .i64 0))) := fun W x h => by
          have h1 := RowIs.set h s (.int .i64 x)
          have h2 := fill_set ((ints (grp al s).1).map intV) (.int .i64 0) (.int .i64 x) n (by omega)
          rw [hlo] at h2
          rw [hlo, h2] at h1
          exact h1
        have HR3 : Hid (RowIs w3 (w.heap.size + 1) 3 (((ints (grp al s).1).map intV ++ [Value.int .i64 r]) ++ List.replicate (n - ((ints (grp al s).1).map intV ++ [Value.int .i64 r]).length) (.int .i64 0))) := by rw [hw3]; exact HSET.out _ _ HR2
        have HB3 : Hid (Below w.heap.size w w3) := by rw [hw3]; exact (then_ HB.out (then_ HBS.out HB2.out)).setCell (by show w.heap.size ≤ w.heap.size + 1; omega) _
        have HG3 : Hid (wr.grownBy w3 (some (w.heap.size + 1))) := by
          rw [hw3]
          have h := then_ HBS.out HB2.out
          exact ⟨h.os, h.tape, h.output, by simpa [World.setCell] using h.size, fun k hk hne => by rw [Below.heap_setCell _ _ _ _ (fun e => hne (by rw [e]))]; exact h.block k hk⟩
        have HO3 : Hid (w3.ownsRow (w.heap.size + 2) 3 1 (.slice fa m fc) m ((ints (grp al s).2).map intV)) := HO.out.kept HG3.out (.inr (fun e => by have := (HO.out.lt _ e).1; omega))
        have hz3 : wr.heap.size < w3.heap.size := by rw [hw3]; have := HB2.out.size; simp [World.setCell]; omega
        have p0 : w3.cell? ⟨w.heap.size + 1, s, none⟩ = some (.int .i64 r) := HR3.out.cell s _ (by rw [List.getElem?_append_left (by rw [List.length_append, hlo]; simp), List.getElem?_append_right (by omega), hlo]; simp)
        have p1 : w3.cell? ⟨wr.heap.size, 0, none⟩ = some (.int .i64 (s : Int)) := by rw [hw3]; exact cell_set_block _ _ _ _ _ _ _ hne q2
        have p2 := HR3.out.frozen s
        have HFC3 : Hid (w3.cell? ⟨w.heap.size, 0, none⟩ = wB.cell? ⟨w.heap.size, 0, none⟩) := by
          rw [HFC.out, hw3]
          exact cell_set_block _ _ _ _ _ _ _ (by omega) (kept (then_ HBS.out HB2.out) (HZ.out.2.trans HFC.out))
        rw [← hw3]
        clear hw3 q0 q1 q2 HR2 hlo
        cases hidx : ((grp al s).2.findIdx? fun f => al f s) with
        | some j =>
          have HRJ : Hid (r = (j : Int)) := by rw [HRR.out, hidx]; rfl
          have HG : Hid (grp al (s + 1) = ((grp al s).1 ++ [j], (grp al s).2)) := grp_hit al s j hidx
          have HREL : Hid ((∃ a c, Value.slice fa m fc = .slice a (grp al (s + 1)).2.length c) ∧ w3.ownsRow (w.heap.size + 2) 3 1 (.slice fa m fc) (grp al (s + 1)).2.length ((ints (grp al (s + 1)).2).map intV) ∧ RowIs w3 (w.heap.size + 1) 3 ((ints (grp al (s + 1)).1).map intV ++ List.replicate (n - ((ints (grp al (s + 1)).1).map intV).length) (.int .i64 0))) := by
            rw [HG.out]
            refine ⟨⟨fa, fc, by rw [HM.out]⟩, ?_, ?_⟩
            · have h := HO3.out
              rw [HM.out] at h
              rw [HM.out]
              exact h
            · have h := HR3.out
              rw [HRJ.out] at h
              rw [ints_snoc, List.map_append]
              exact h
          rw [HRJ.out] at p0
          have hj0 : ¬ (j : Int) < 0 := by omega
          clear hidx HRR HSET HSU HIX HR3 HO3 HO HR HG HG3
          go_wp2_with fail
          go_roundw
          case rel => exact ⟨s + 1, by omega, by go_num, HREL.out.1, HREL.out.2.1, HREL.out.2.2, HB3.out, by omega, HFC3.out⟩
          case measure => simp [intOf]; omega
        | none =>
          have HRJ : Hid (r = -1) := by rw [HRR.out, hidx]; rfl
          have HG : Hid (grp al (s + 1) = ((grp al s).1 ++ [(grp al s).2.length], (grp al s).2 ++ [s])) := grp_new al s hidx
          rw [HRJ.out] at p0
          obtain ⟨w4, hw4⟩ : ∃ w4, w4 = w3.setCell ⟨w.heap.size + 1, s, none⟩ (.int .i64 (m : Int)) := ⟨_, rfl⟩
          have HR4 : Hid (RowIs w4 (w.heap.size + 1) 3 (((ints (grp al s).1).map intV ++ [Value.int .i64 (m : Int)]) ++ List.replicate (n - ((ints (grp al s).1).map intV ++ [Value.int .i64 (m : Int)]).length) (.int .i64 0))) := by
            have h := RowIs.set HR3.out s (.int .i64 (m : Int))
            rw [hw4]
            have hlo : ((ints (grp al s).1).map intV).length = s := by rw [List.length_map, ints_len, (inv_grp HE.out s hs).len]
            rw [List.set_append_left _ _ (by rw [List.length_append, hlo]; simp), List.set_append_right _ _ (by omega), hlo, Nat.sub_self, List.set_cons_zero] at h
            have e : ((ints (grp al s).1).map intV ++ [Value.int .i64 r]).length = ((ints (grp al s).1).map intV ++ [Value.int .i64 (m : Int)]).length := by simp
            rw [e] at h
            exact h
          have HB4 : Hid (Below w.heap.size w w4) := by rw [hw4]; exact HB3.out.setCell (by show w.heap.size ≤ w.heap.size + 1; omega) _
          have HG4 : Hid (w3.grownBy w4 (some (w.heap.size + 1))) := by
            rw [hw4]
            exact ⟨rfl, rfl, rfl, by simp [World.setCell], fun k hk hne => by rw [Below.heap_setCell _ _ _ _ (fun e => hne (by rw [e]))]⟩
          have HO4 : Hid (w4.ownsRow (w.heap.size + 2) 3 1 (.slice fa m fc) m ((ints (grp al s).2).map intV)) := HO3.out.kept HG4.out (.inr (fun e => by have := (HO3.out.lt _ e).1; omega))
          have hz4 : w4.heap.size = w3.heap.size := by rw [hw4]; simp [World.setCell]
          have p3 : w4.cell? ⟨wr.heap.size, 0, none⟩ = some (.int .i64 (s : Int)) := by rw [hw4]; exact cell_set_block _ _ _ _ _ _ _ hne p1
          have HFC4 : Hid (w4.cell? ⟨w.heap.size, 0, none⟩ = wB.cell? ⟨w.heap.size, 0, none⟩) := by rw [HFC.out, hw4]; exact cell_set_block _ _ _ _ _ _ _ (by omega) (HFC3.out.trans HFC.out)
          have hml : m ≤ 500 := by have := firsts_le (al := al) s; rw [← HM.out] at this; omega
          have HOWN : Hid (∀ o, (w4.alloc o).ownsRow (w.heap.size + 2) 3 1 (.slice fa m fc) m ((ints (grp al s).2).map intV)) := fun o => HO4.out.alloc o
          have HONE : Hid (∀ u ∈ [Value.int .i64 (s : Int)], u.oneCell' = true) := by
            intro u hu
            simp only [List.mem_cons, List.not_mem_nil, or_false] at hu
            subst hu; rfl
          have HREL : Hid (∀ (o : Obj) (g2 cap2 : Nat) (wC : World), wC.ownsRow (w.heap.size + 2) 3 1 (.slice (some ⟨g2, 0, none⟩) (m + 1) cap2) (m + 1) ((ints (grp al s).2).map intV ++ [.int .i64 (s : Int)]) → (w4.alloc o).grownBy wC (Value.slice fa m fc).ownBlock →
              (∃ a c, Value.slice (some ⟨g2, 0, none⟩) (m + 1) cap2 = .slice a (grp al (s + 1)).2.length c) ∧ wC.ownsRow (w.heap.size + 2) 3 1 (.slice (some ⟨g2, 0, none⟩) (m + 1) cap2) (grp al (s + 1)).2.length ((ints (grp al (s + 1)).2).map intV) ∧ RowIs wC (w.heap.size + 1) 3 ((ints (grp al (s + 1)).1).map intV ++ List.replicate (n - ((ints (grp al (s + 1)).1).map intV).length) (.int .i64 0)) ∧ Below w.heap.size w wC ∧ w.heap.size + 2 ≤ wC.heap.size ∧ wC.cell? ⟨w.heap.size, 0, none⟩ = wB.cell? ⟨w.heap.size, 0, none⟩) := by
            intro o g2 cap2 wC hown hgrow
            have hnb : ∀ k, k < w.heap.size + 2 → some k ≠ (Value.slice fa m fc).ownBlock := fun k hk e => by have := (HO4.out.lt k e.symm).1; omega
            have hzC := hgrow.size
            rw [World.size_alloc] at hzC
            rw [HG.out]
            refine ⟨⟨_, _, by rw [List.length_append, HM.out]; rfl⟩, ?_, ?_, ?_, by omega, ?_⟩
            · rw [ints_snoc, List.map_append, List.length_append, ← HM.out]; exact hown
            · rw [ints_snoc, List.map_append, ← HM.out]
              exact ((hgrow.block _ (by simp; omega) (hnb _ (by omega))).trans (Below.heap_alloc _ _ _ (by omega))).trans HR4.out
            · exact (HB4.out.alloc HB4.out.size o).grown hgrow (by simp; omega) (fun k e => by have := (HO4.out.lt k e).1; omega)
            · have hbl : wC.heap[w.heap.size]? = w4.heap[w.heap.size]? := (hgrow.block _ (by simp; omega) (hnb _ (by omega))).trans (Below.heap_alloc _ _ _ (by omega))
              exact (heap_cell 0 hbl).trans HFC4.out
          clear hidx HRR HSET HSU HIX HR3 HO3 HO HR HG HG3 HR4 HG4 HRJ
          have hz3b : w.heap.size + 2 ≤ w3.heap.size := by omega
          rw [hw4] at HOWN HREL hz4
          have HNEWS : Hid (∀ o, ((w3.setCell ⟨w.heap.size + 1, s, none⟩ (.int .i64 (m : Int))).alloc o).heap[w3.heap.size]? = some o) := fun o => by have := heap_alloc_new (w3.setCell ⟨w.heap.size + 1, s, none⟩ (.int .i64 (m : Int))) o; rw [hz4] at this; exact this
          clear hw4 p3 HB4 HO4 HFC4
          go_wp2_with (at_builtin; refine wpList_append_lies _ rfl (.tmp 29) (.tmp 31) 31 rfl (w.heap.size + 2) 3 i0 _ 1 8 Tryd.underlying31 hi0 hz0 hz1 hz2 rfl (by decide) (.slice fa m fc) m ((ints (grp al s).2).map intV) rfl (HOWN.out _) ⟨w3.heap.size, 0, none⟩ 1 1 [.int .i64 (s : Int)] rfl rfl (World.news_of_block (HNEWS.out _)) (HONE.out) (by decide) (by unfold maxLen; omega) (by omega) (by simp; omega) (w3.heap.size + 1) (by simp [World.setCell]) ?_; intro g2 cap2 wC hown hgrow hat hltg; have HRE := hide (HREL.out _ g2 cap2 wC hown hgrow); clear hown hgrow hat)
          go_roundw
          case rel => exact ⟨s + 1, by omega, by go_num, HRE.out.1, HRE.out.2.1, HRE.out.2.2.1, HRE.out.2.2.2.1, HRE.out.2.2.2.2⟩
          case measure => simp [intOf]; omega
      · have hsn : s = n := by omega
        subst hsn
        have HRF := HR.out
        have I := inv_grp HE.out s hs
        rw [List.length_map, ints_len, I.len, Nat.sub_self, List.replicate_zero, List.append_nil] at HRF
        have HRG := hide HRF
        obtain ⟨m, hm⟩ : ∃ m, m = (grp al s).2.length := ⟨_, rfl⟩
        have HFIN : Hid (GrpDone w s (grp al s) (.returned (.tuple #[.slice (some ⟨w.heap.size + 1, 0, none⟩) s s, .slice fa m fc])) wr) := ⟨_, _, rfl, HRG.out, by rw [hm]; exact own_mono HO.out (by omega), by omega, HB.out⟩
        rw [← hm]
        clear HRF I hm hz5 hfc5
        go_wp2_with fail
        go_ret2
        exact HFIN.out
end Bk
end Go.Proofs.YtdeijfkahhgojaaDoor
