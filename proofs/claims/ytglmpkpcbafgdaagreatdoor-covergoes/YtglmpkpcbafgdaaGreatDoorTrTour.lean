/-
  The walk of package cover's Tour.
-/
import Derived.Test.YtglmpkpcbafgdaaGreatDoorTrAllAll
import Derived.Test.YtglmpkpcbafgdaaGreatDoorTrSeek
import Derived.Test.YtglmpkpcbafgdaaGreatDoorRcFarAll
import Derived.Deep.LoopGhost
namespace Go.Proofs.YtglmpkpcbafgdaaGreatDoor
namespace Tr
open Go.RowKit Go.Sort
/-- is a state come to? -/
def far (next : Nat → List Nat) (S : Nat) (s : Nat) : Prop := 0 ≤ ((Rc.walk next S).at_ s).far
theorem ok_far (next : Nat → List Nat) (I S : Nat) (hS : 1 ≤ S) (hnl : ∀ s, (next s).length = I) (hnx : ∀ f s, f < S → s ∈ next f → s < S) : Ok next I S (far next S) := by
  have h := Rc.walk_far next S hS hnx
  refine ⟨hnl, hnx, ?_, fun t u ht h0 hu => (h.near t u ht h0 hu).1⟩
  unfold far
  rw [h.zero]
  exact Int.le_refl _
/-- the states that are come to, of the first ones -/
def comes (next : Nat → List Nat) (S k : Nat) : List Nat := (List.range k).filter fun s => decide (0 ≤ ((Rc.walk next S).at_ s).far)
theorem comes_succ (next : Nat → List Nat) (S k : Nat) : comes next S (k + 1) = comes next S k ++ (if 0 ≤ ((Rc.walk next S).at_ k).far then [k] else []) := by
  unfold comes
  rw [List.range_succ, List.filter_append]
  congr 1
  by_cases h : 0 ≤ ((Rc.walk next S).at_ k).far <;> simp [h]
theorem comes_le (next : Nat → List Nat) (S k : Nat) : (comes next S k).length ≤ k := by
  unfold comes
  exact Nat.le_trans (List.length_filter_le _ _) (by simp)
theorem comes_mem (next : Nat → List Nat) (S k s : Nat) : s ∈ comes next S k ↔ s < k ∧ far next S s := by
  unfold comes far
  rw [List.mem_filter, List.mem_range, decide_eq_true_iff]
/-- what Tour comes to -/
def Toured (w : World) (next : Nat → List Nat) (I S : Nat) (e : Ending) (w' : World) : Prop := ∃ l G a x c all, e = .returned (.tuple #[.slice x l.length c, .bool all, .nilIface]) ∧ w'.ownsRow w.heap.size 3 1 (.slice x l.length c) l.length (l.map natV) ∧ Tour next I S (far next S) G l a ∧ (all = true → ∀ s, s < S → far next S s → G.getD s 0 = I) ∧ 0 < G.sum
theorem any_all {next : Nat → List Nat} {I S : Nat} {G : List Nat} (hg : ∀ s, G.getD s 0 ≤ I) (h : (!(comes next S S).any (fun s => decide (G.getD s 0 < I))) = true) : ∀ s, s < S → far next S s → G.getD s 0 = I := fun s hs hf => by
  simp only [Bool.not_eq_true', List.any_eq_false] at h
  have h1 := h s ((comes_mem next S S s).2 ⟨hs, hf⟩)
  have h2 := hg s
  rw [decide_eq_true_iff] at h1
  omega
theorem NRow.kept {B bw gG : Nat} {W W' : World} {q : Nat} {v : Value} {xs : List Nat} (h : W.ownsRow q 3 1 v xs.length (xs.map natV)) (hk : Kept B bw gG W W') (hB : W.heap.size ≤ B) (h1 : ∀ b, v.ownBlock = some b → b ≠ bw ∧ b ≠ gG) : NRow W' v xs := by
  have h2 := NRow.own h
  obtain ⟨a, c, e, hc, hx⟩ := h2
  refine ⟨a, c, e, hc, fun i x hi => ?_⟩
  obtain ⟨g, rfl, hg⟩ := hx i x hi
  refine ⟨g, rfl, ?_⟩
  have hb : v.ownBlock = some g := by rw [e]; rfl
  obtain ⟨n1, n2⟩ := h1 g hb
  have hlt := (h.lt g hb).2
  exact (World.cell?_of_block (hk.block g (by omega) n1 n2)).trans hg
/-- what is behind the making of a walker -/
def NewWk (w2 : World) (gN S I : Nat) (next : Nat → List Nat) (uN : List Nat) (pv : Value) (W : World) : Prop := ∃ bw gG, pv = .pointer (some ⟨bw, 0, none⟩) ∧ Wk W bw gN gG S I next uN (List.replicate S 0) 0 ∧ Apart W bw gN gG uN ∧ (w2.heap.size ≤ bw ∧ w2.heap.size ≤ gG) ∧ (bw < W.heap.size ∧ gG < W.heap.size) ∧ Below w2.heap.size w2 W
theorem new_wk {w2 : World} {bm gN S I : Nat} {next : Nat → List Nat} {uN : List Nat} (h : NextAt w2 bm S I next gN uN) (hS : 1 ≤ S) (hI : 1 ≤ I) (hnl : ∀ s, (next s).length = I) (W : World) (bw gG : Nat) (hb : Below w2.heap.size w2 W) (h1 : w2.heap.size ≤ bw ∧ w2.heap.size ≤ gG) (hne : bw ≠ gG) (hw : W.heap[bw]? = some (.cells #[.slice (some ⟨gN, 0, none⟩) S S, .slice (some ⟨gG, 0, none⟩) S S, .int .i64 0] 66 (0, 0))) (hg : RowIs W gG 3 (List.replicate S (.int .i64 0))) : NewWk w2 gN S I next uN (.pointer (some ⟨bw, 0, none⟩)) W := by
  have hrow : ∀ (s b : Nat), uN[s]? = some b → b < w2.heap.size := fun s b hs => by
    have hl : 0 < (next s).length := by rw [hnl]; exact hI
    exact World.block_lt_of_cell? _ _ ((h.2.2 s b hs).2 0 _ (List.getElem?_eq_getElem hl))
  have hgN : gN < w2.heap.size := by
    have hl : 0 < uN.length := by rw [h.2.1]; exact hS
    exact World.block_lt_of_cell? _ _ (h.2.2 0 _ (List.getElem?_eq_getElem hl)).1
  have hz := hb.size
  refine ⟨bw, gG, rfl, ⟨hw, ⟨(h.below hb).2.1, (h.below hb).2.2⟩, ?_, by simp⟩, ⟨hne, ⟨by omega, by omega, by omega⟩, fun s b hs => ?_⟩, h1, ⟨(Array.getElem?_eq_some_iff.1 hw).1, hg.lt⟩, hb⟩
  · rw [List.map_replicate]; exact hg
  · have := hrow s b hs
    omega
theorem new_one {w2 : World} {bm gN S I : Nat} {next : Nat → List Nat} {uN : List Nat} (h : NextAt w2 bm S I next gN uN) (hS : 1 ≤ S) (hI : 1 ≤ I) (hnl : ∀ s, (next s).length = I) (cb : List Value) (hcb : cb = List.replicate S (.int .i64 0)) : NewWk w2 gN S I next uN (.pointer (some ⟨w2.heap.size + 1, 0, none⟩)) ((w2.alloc (.cells ⟨cb⟩ 3)).alloc (.cells #[.slice (some ⟨gN, 0, none⟩) S S, .slice (some ⟨w2.heap.size, 0, none⟩) S S, .int .i64 0] 66)).drew := by
  refine new_wk h hS hI hnl _ _ w2.heap.size (drewN_low ((Below.refl _ w2).alloc (Nat.le_refl _) _ |>.alloc (by simp) _) 1) ⟨by omega, Nat.le_refl _⟩ (by omega) ?_ ?_
  · have := heap_alloc_new (w2.alloc (.cells ⟨cb⟩ 3)) (.cells #[.slice (some ⟨gN, 0, none⟩) S S, .slice (some ⟨w2.heap.size, 0, none⟩) S S, .int .i64 0] 66)
    rw [World.size_alloc] at this
    exact this
  · rw [← hcb]
    exact (RowIs.new w2 3 cb).alloc _
theorem new_two {w2 : World} {bm gN S I : Nat} {next : Nat → List Nat} {uN : List Nat} (h : NextAt w2 bm S I next gN uN) (hS : 1 ≤ S) (hI : 1 ≤ I) (hnl : ∀ s, (next s).length = I) (cb : List Value) (hcb : cb = List.replicate S (.int .i64 0)) : NewWk w2 gN S I next uN (.pointer (some ⟨w2.heap.size, 0, none⟩)) ((w2.alloc (.cells #[.slice (some ⟨gN, 0, none⟩) S S, .slice (some ⟨w2.heap.size + 1, 0, none⟩) S S, .int .i64 0] 66)).alloc (.cells ⟨cb⟩ 3)).drew := by
  refine new_wk h hS hI hnl _ _ (w2.heap.size + 1) (drewN_low ((Below.refl _ w2).alloc (Nat.le_refl _) _ |>.alloc (by simp) _) 1) ⟨Nat.le_refl _, by omega⟩ (by omega) ?_ ?_
  · exact (Below.heap_alloc _ _ _ (by simp)).trans (heap_alloc_new w2 _)
  · rw [← hcb]
    have := RowIs.new (w2.alloc (.cells #[.slice (some ⟨gN, 0, none⟩) S S, .slice (some ⟨w2.heap.size + 1, 0, none⟩) S S, .int .i64 0] 66)) 3 cb
    rw [World.size_alloc] at this
    exact this
theorem Wk.low {W W' : World} {B bw gN gG S I : Nat} {next : Nat → List Nat} {uN : List Nat} {G : List Nat} {a : Nat} (h : Wk W bw gN gG S I next uN G a) (hk : ∀ k, k < B → W'.heap[k]? = W.heap[k]?) (hb : bw < B ∧ gN < B ∧ gG < B) (hu : ∀ (s b : Nat), uN[s]? = some b → b < B) : Wk W' bw gN gG S I next uN G a := by
  refine ⟨(hk _ hb.1).trans h.it, ⟨h.rows.1, fun s b hs => ⟨?_, fun i x hx => ?_⟩⟩, (hk _ hb.2.2).trans h.gone, h.len⟩
  · exact (World.cell?_of_block (hk gN hb.2.1)).trans (h.rows.2 s b hs).1
  · exact (World.cell?_of_block (hk b (hu s b hs))).trans ((h.rows.2 s b hs).2 i x hx)
theorem ownK {W W' : World} {q : Nat} {e : TypeId} {s : Nat} {v : Value} {n : Nat} {xs : List Value} (h : W.ownsRow q e s v n xs) (hk : ∀ k, v.ownBlock = some k → W'.heap[k]? = W.heap[k]?) : W'.ownsRow q e s v n xs := by
  obtain ⟨h1, h2⟩ := h
  refine ⟨h1, ?_⟩
  rcases h2 with h2 | ⟨g, cap, cur, hv, hb, hg, hr⟩
  · exact .inl h2
  · exact .inr ⟨g, cap, cur, hv, hb, (hk g (by rw [hv]; rfl)).trans hg, hr⟩
theorem getD_sum : ∀ (G : List Nat) (s : Nat), G.getD s 0 ≤ G.sum
  | [], s => by simp
  | g :: G, 0 => by simp
  | g :: G, s + 1 => by
    have := getD_sum G s
    simp only [List.getD_cons_succ, List.sum_cons]
    omega
/-- what stands while one tours -/
structure Run (w3 : World) (bw gN gG S I : Nat) (next : Nat → List Nat) (uN G l : List Nat) (a : Nat) (x : Option Addr) (c : Nat) (W : World) : Prop where
  wk : Wk W bw gN gG S I next uN G a
  own : W.ownsRow w3.heap.size 3 1 (.slice x l.length c) l.length (l.map natV)
  kept : Kept w3.heap.size bw gG w3 W
  tour : Tour next I S (far next S) G l a
/-- the next leg -/
def Lg (w3 : World) (next : Nat → List Nat) (I S : Nat) (G : List Nat) (a : Nat) (lv : Value) (W : World) : Prop := (lv = .slice none 0 0 ∧ G.getD a 0 = I) ∨ ∃ p i gl c, lv = .slice (some ⟨gl, 0, none⟩) (p.length + 1) c ∧ w3.heap.size ≤ gl ∧ gl < W.heap.size ∧ (∀ (k y : Nat), (p ++ [i])[k]? = some y → W.cell? ⟨gl, k, none⟩ = some (natV y)) ∧ Leg next I S G a p i
theorem Sought.lg {w3 W W' : World} {next : Nat → List Nat} {I S : Nat} {G : List Nat} {a : Nat} {e : Ending} (h : Sought W next I S G a e W') (hz : w3.heap.size ≤ W.heap.size) : ∃ lv, e = .returned lv ∧ (∃ x n c, lv = .slice x n c) ∧ Lg w3 next I S G a lv W' := by
  rcases h with ⟨h1, h2⟩ | ⟨p, i, g, c, h1, h2, h3⟩
  · exact ⟨_, h1, ⟨_, _, _, rfl⟩, .inl ⟨rfl, h2⟩⟩
  · refine ⟨_, h1, ⟨_, _, _, rfl⟩, .inr ⟨p, i, g, c, rfl, Nat.le_trans hz (h2.lt g rfl).1, (h2.lt g rfl).2, fun k y hy => ?_, h3⟩⟩
    have := h2.cells (g := g) rfl k (natV y) (by rw [List.getElem?_map, hy]; rfl)
    cases k <;> simpa [Addr.add] using this
theorem Kept.below {B bw gG : Nat} {w W W' : World} (h : Kept B bw gG w W) (hB : B ≤ W.heap.size) (hb : Below W.heap.size W W') : Kept B bw gG w W' :=
  ⟨hb.os.trans h.os, hb.tape.trans h.tape, hb.output.trans h.output, Nat.le_trans h.size hb.size, fun k h1 h2 h3 => (hb.block k (by omega)).trans (h.block k h1 h2 h3)⟩
theorem Run.below {w3 : World} {bw gN gG S I : Nat} {next : Nat → List Nat} {uN G l : List Nat} {a : Nat} {x : Option Addr} {c : Nat} {W W' : World} (h : Run w3 bw gN gG S I next uN G l a x c W) (hb : Below W.heap.size W W') : Run w3 bw gN gG S I next uN G l a x c W' :=
  ⟨h.wk.below hb, ownB h.own hb, h.kept.below h.kept.size hb, h.tour⟩
/-- a leg is gone, and told -/
theorem Run.went {w3 : World} {bw gN gG S I : Nat} {next : Nat → List Nat} {uN G l : List Nat} {a : Nat} {x : Option Addr} {c : Nat} {W W5 WC : World} {p : List Nat} {i g2 c2 : Nat} (h : Run w3 bw gN gG S I next uN G l a x c W) (ho : Ok next I S (far next S)) (hleg : Leg next I S G a p i) (hap : Apart w3 bw gN gG uN) (hhi : bw < w3.heap.size ∧ gG < w3.heap.size)
    (hw5 : Wk W5 bw gN gG S I next uN (G.set (Rc.go next a p) (i + 1)) (Rc.go next a (p ++ [i]))) (hk5 : Kept W.heap.size bw gG W W5) (hown : WC.ownsRow w3.heap.size 3 1 (.slice (some ⟨g2, 0, none⟩) (l.length + (p.length + 1)) c2) (l.length + (p.length + 1)) (l.map natV ++ (p ++ [i]).map natV)) (hg : W5.grownBy WC (Value.slice x l.length c).ownBlock) (hlt : ∀ b, (Value.slice x l.length c).ownBlock = some b → w3.heap.size ≤ b) :
    Run w3 bw gN gG S I next uN (G.set (Rc.go next a p) (i + 1)) (l ++ (p ++ [i])) (Rc.go next a (p ++ [i])) (some ⟨g2, 0, none⟩) c2 WC := by
  have hz := h.kept.size
  have hz5 := hk5.size
  have hlow : ∀ k, k < w3.heap.size → WC.heap[k]? = W5.heap[k]? := fun k hk => hg.block k (by omega) (fun e => by have := hlt k e.symm; omega)
  refine ⟨hw5.low hlow ⟨hhi.1, hap.n1.2.2, hhi.2⟩ (fun s b hs => (hap.us s b hs).2.2), ?_, ?_, h.tour.next ho hleg⟩
  · rw [List.map_append, List.length_append]
    simpa using hown
  · refine ⟨hg.os.trans (hk5.os.trans h.kept.os), hg.tape.trans (hk5.tape.trans h.kept.tape), hg.output.trans (hk5.output.trans h.kept.output), Nat.le_trans hz (Nat.le_trans hz5 hg.size), fun k h1 h2 h3 => ?_⟩
    rw [hlow k h1, hk5.block k (by omega) h2 h3]
    exact h.kept.block k h1 h2 h3
theorem Run.few {w3 : World} {bw gN gG S I : Nat} {next : Nat → List Nat} {uN G l : List Nat} {a : Nat} {x : Option Addr} {c : Nat} {W : World} (h : Run w3 bw gN gG S I next uN G l a x c W) : G.sum ≤ S * I ∧ l.length ≤ S * I * S := by
  have h1 := sum_le I G (fun s => h.tour.inv.gle s)
  rw [h.tour.inv.lenG] at h1
  exact ⟨h1, Nat.le_trans h.tour.long (Nat.mul_le_mul_right S h1)⟩
set_option maxHeartbeats 8000000 in
set_option maxRecDepth 100000 in
theorem Tour_any (bm S I gN : Nat) (next : Nat → List Nat) (uN : List Nat) (w : World) (h : NextAt w bm S I next gN uN) (hS1 : 1 ≤ S) (hS : S ≤ 100) (hI1 : 1 ≤ I) (hI : I ≤ 64) (hnl : ∀ s, (next s).length = I) (hnx : ∀ f s, f < S → s ∈ next f → s < S) :
    Calls Tryz.prog 6 #[.pointer (some ⟨bm, 0, none⟩)] w fun e w' => Toured w next I S e w' ∧ Below w.heap.size w w' := by
  obtain ⟨i0, hi0, hz0, hz1, hz2⟩ := info_parts Tryz.infoInt
  have hmf : ∀ (fn : Fn) (first cap : Array Value) (w : World), (Instr.makeFunc fn first cap).run Tryz.prog w = .ok (.func fn first cap) w := fun _ _ _ _ => rfl
  have HFA := hide (Far_any bm S I gN next uN w h hS1 (by omega) hI hnl hnx)
  have HNA := hide h
  have HNL := hide hnl
  have HNX := hide hnx
  have HOK := hide (ok_far next I S hS1 hnl hnx)
  have HLEN := hide (Rc.walk_far next S hS1 hnx).len
  clear h hnl hnx
  go_enter Tryz.func6, Tryz.ntmps6
  go_wp2_with fail
  refine HFA.out.mono ?_
  rintro e w1 ⟨gF, rfl, hrow, hgF, hb1⟩
  have HROW := hide hrow
  have HB1 := hide hb1
  clear hrow hb1 HFA
  unfold slV
  go_wp2_with fail
  go_loopw [7, 23] (fun pv i wr => ∃ k : Nat, ∃ a c, k ≤ S ∧ i = .int .i64 (k : Int) ∧ pv = .slice a (comes next S k).length c ∧ Hid (wr.ownsRow w1.heap.size 3 1 (.slice a (comes next S k).length c) (comes next S k).length ((comes next S k).map natV)) ∧ Hid (Below w1.heap.size w1 wr)) (fun _ i _ => S - (intOf i).toNat)
  case atStart => exact ⟨0, none, 0, Nat.zero_le _, rfl, rfl, World.ownsRow_nil _ _ _ _, Below.refl _ _⟩
  case round =>
    obtain ⟨k, pa, pc, hk, rfl, rfl, HO, HB⟩ := hrel
    have hpl := comes_le next S k
    by_cases hlt : k < S
    · have hkl : k < (Rc.walk next S).steps.length := by rw [HLEN.out]; exact hlt
      have c0 : wr.cell? ⟨gF, k, none⟩ = some (.int .i64 ((Rc.walk next S).at_ k).far) := (HROW.out.below HB.out).cell k _ (by
        rw [List.getElem?_map]
        unfold Rc.Qu.at_
        rw [List.getD_eq_getElem?_getD, List.getElem?_eq_getElem hkl]
        rfl)
      have HSU := hide (comes_succ next S k)
      generalize ((Rc.walk next S).at_ k).far = fv at *
      generalize comes next S k = P at *
      generalize hP2 : comes next S (k + 1) = P2 at *
      have HQ : Hid (∀ (W : World) a c, W.ownsRow w1.heap.size 3 1 (.slice a P2.length c) P2.length (P2.map natV) → Hid (W.ownsRow w1.heap.size 3 1 (.slice a (comes next S (k + 1)).length c) (comes next S (k + 1)).length ((comes next S (k + 1)).map natV))) := fun W a c h => by rw [hP2]; exact h
      have HQ2 := hide hP2
      clear hP2 hkl
      by_cases hf : 0 ≤ fv
      · rw [if_pos hf] at HSU
        have HOWN : Hid (∀ o, (wr.alloc o).ownsRow w1.heap.size 3 1 (.slice pa P.length pc) P.length (P.map natV)) := fun o => HO.out.alloc o
        have HONE : Hid (∀ z ∈ [Value.int .i64 (k : Int)], z.oneCell' = true) := by
          intro z hz
          simp only [List.mem_cons, List.not_mem_nil, or_false] at hz
          subst hz; rfl
        have HFIN : Hid (∀ (o : Obj) (g cap : Nat) (wC : World), wC.ownsRow w1.heap.size 3 1 (.slice (some ⟨g, 0, none⟩) (P.length + 1) cap) (P.length + 1) (P.map natV ++ [.int .i64 (k : Int)]) → (wr.alloc o).grownBy wC (Value.slice pa P.length pc).ownBlock →
            wC.ownsRow w1.heap.size 3 1 (.slice (some ⟨g, 0, none⟩) P2.length cap) P2.length (P2.map natV) ∧ Below w1.heap.size w1 wC) := fun o g cap wC h1 h2 =>
          ⟨by rw [HSU.out, List.map_append, List.length_append]; exact h1, (HB.out.alloc HB.out.size o).grown h2 (by have := HB.out.size; simp; omega) (fun k e => (HO.out.lt k e).1)⟩
        have HL2 : Hid (P.length + 1 = P2.length) := by show _ = _; rw [HSU.out]; simp
        have hzr := HB.out.size
        clear HSU
        generalize P.length = L at *
        go_wp2_with (at_builtin; refine wpList_append_lies _ rfl (.tmp 30) (.tmp 32) 26 rfl w1.heap.size 3 i0 _ 1 8 Tryz.underlying26 hi0 hz0 hz1 hz2 rfl (by decide) (.slice pa L pc) L (P.map natV) rfl (HOWN.out _) ⟨wr.heap.size, 0, none⟩ 1 1 [.int .i64 (k : Int)] rfl rfl (World.news_of_block (heap_alloc_new wr _)) (HONE.out) (by decide) (by unfold maxLen; omega) (by omega) (by simp; omega) (wr.heap.size + 1) (by simp) ?_; intro g2 cap2 wC hown hgrow hat hltg; obtain ⟨hoC, hbC⟩ := HFIN.out _ g2 cap2 wC hown hgrow; have HOC := hide hoC; have HBC := hide hbC; clear hoC hbC hown hgrow hat)
        go_roundw
        case rel => exact ⟨k + 1, some ⟨g2, 0, none⟩, cap2, by omega, by go_num, by rw [HQ2.out, ← HL2.out], HQ.out _ _ _ HOC.out, HBC.out⟩
        case measure => simp [intOf]; omega
      · rw [if_neg hf, List.append_nil] at HSU
        obtain rfl : P2 = P := HSU.out
        go_wp2_with fail
        go_roundw
        case rel => exact ⟨k + 1, pa, pc, by omega, by go_num, by rw [HQ2.out], HQ.out _ _ _ HO.out, HB.out⟩
        case measure => simp [intOf]; omega
    · have hkS : k = S := by omega
      subst hkS
      obtain ⟨w2, rfl⟩ : ∃ w2, w2 = wr := ⟨wr, rfl⟩
      have HB2 := hide (HB1.out.trans (HB.out.mono HB1.out.size))
      have HNA2 := hide (HNA.out.below HB2.out)
      have hsn : ¬ (100 : Int) < ((comes next k k).length : Int) := by omega
      have x0 := HNA2.out.1
      have x1 : ∀ o, (w2.alloc o).cell? ⟨bm, 4, none⟩ = some (.slice (some ⟨gN, 0, none⟩) k k) := fun o => by rw [World.cell?_alloc_old _ _ _ (Nat.ne_of_lt (World.block_lt_of_cell? _ _ x0))]; exact x0
      have x2 : ∀ o o2, ((w2.alloc o).alloc o2).cell? ⟨bm, 4, none⟩ = some (.slice (some ⟨gN, 0, none⟩) k k) := fun o o2 => by rw [World.cell?_alloc_old _ _ _ (Nat.ne_of_lt (World.block_lt_of_cell? _ _ (x1 o)))]; exact x1 o
      have mk := fun w => makeIs k (by omega) w
      obtain ⟨cb, hcb⟩ : ∃ cb, cb = List.replicate k (Value.int .i64 0) := ⟨_, rfl⟩
      have HCB := hide hcb
      rw [← hcb] at mk
      clear hcb
      have HST := hide HO.out
      have HSL : Hid ((comes next k k).length ≤ 100) := by show _ ≤ _; omega
      generalize hcm : (comes next k k).length = ns at *
      have HCM := hide hcm
      clear hcm hpl
      go_upto_region 13 with fail
      go_cut [10] (fun pv wx => NewWk w2 gN k I next uN pv wx)
      case first =>
        go_region
        · go_wp2_with fail
          go_meet
          exact new_one HNA2.out hS1 hI1 HNL.out cb HCB.out
        · go_wp2_with fail
          go_meet
          exact new_two HNA2.out hS1 hI1 HNL.out cb HCB.out
      case rest =>
        obtain ⟨bw, gG, rfl, hwk, hap, hlo, hhi, hb3⟩ := hcut
        obtain ⟨w3, rfl⟩ : ∃ w3, w3 = wc := ⟨wc, rfl⟩
        have HAP := hide hap
        have HHI := hide hhi
        have HLO := hide hlo
        have HB3 := hide hb3
        have HT0 := hide (Tour.start HOK.out hS1)
        have HWK0 := hide hwk
        have HS3 := hide (ownB HST.out hb3)
        have HB30 := hide (HB2.out.trans (hb3.mono HB2.out.size))
        clear hwk hap hlo hhi hb3 x0 x1 x2 mk hsn
        have HNR := hide (nearest_any bw gN gG k I next uN (List.replicate k 0) 0 w3 HWK0.out (by omega) (by omega) hI (fun s => HT0.out.inv.gle s) HNL.out HNX.out)
        go_wp2_with fail
        refine HNR.out.mono ?_
        rintro e w4 ⟨hso, hb4⟩
        obtain ⟨lv, rfl, ⟨lx, ln, lc, rfl⟩, hlg⟩ := hso.lg (w3 := w3) (Nat.le_refl _)
        have HLG := hide hlg
        have HRUN0 : Hid (Run w3 bw gN gG k I next uN (List.replicate k 0) [] 0 none 0 w4) := (show Run w3 bw gN gG k I next uN (List.replicate k 0) [] 0 none 0 w3 from ⟨HWK0.out, World.ownsRow_nil _ _ _ _, Kept.refl _ _ _ _, HT0.out⟩).below hb4
        have hSI : k * I ≤ 100 * 64 := Nat.mul_le_mul hS hI
        have hSIS : k * I * k ≤ 100 * 64 * 100 := Nat.mul_le_mul hSI hS
        have HSIS := hide hSIS
        have HSI := hide hSI
        clear hso hlg hb4 HNR HWK0 hSI hSIS HT0
        go_wp2_with fail
        go_loopg [11, 12] (k * I) (fun gh iv lv wr => ∃ G l a x c y n d, gh = k * I - G.sum ∧ iv = .slice x l.length c ∧ lv = .slice y n d ∧ Hid (Run w3 bw gN gG k I next uN G l a x c wr) ∧ Hid (Lg w3 next I k G a (.slice y n d) wr))
        case atStart => exact ⟨List.replicate k 0, [], 0, none, 0, _, _, _, by simp, rfl, rfl, HRUN0.out, HLG.out⟩
        case round =>
          obtain ⟨G, l, a, x, c, y, n, d, hgh, rfl, rfl, HRUN, HLGr⟩ := hrel
          clear HRUN0 HLG
          obtain ⟨hfw1, hfw2⟩ := HRUN.out.few
          have hll : l.length ≤ 640000 := by have := HSIS.out; omega
          have HGH := hide hgh
          clear hgh hfw2
          rcases HLGr.out with ⟨hnil, hfull⟩ | ⟨p, i, gl, lc2, hlv, hgl1, hgl2, hcl, hleg⟩
          · simp only [Value.slice.injEq] at hnil
            obtain ⟨rfl, rfl, rfl⟩ := hnil
            have HFULL := hide hfull
            clear hfull HLGr
            have HNS : Hid (NRow wr (.slice pa ns pc) (comes next k k)) := by
              have h1 := HS3.out
              rw [← HCM.out] at h1 ⊢
              refine NRow.kept h1 HRUN.out.kept (Nat.le_refl _) (fun b e => ?_)
              have h2 : b < w2.heap.size := (HST.out.lt b (by rw [← HCM.out]; exact e)).2
              have := HLO.out
              exact ⟨by omega, by omega⟩
            have HCT := hide (containsL_any (comes next k k) (.slice pa ns pc) bw gN gG k I next uN G a wr HRUN.out.wk (by omega) hI HNS.out (by rw [HCM.out]; have := HSL.out; omega) (fun s hs => ((comes_mem next k k s).1 hs).1))
            have HAA := hide (any_all (next := next) (S := k) (G := G) (I := I) (fun s => HRUN.out.tour.inv.gle s))
            have HBW : Hid (Below w.heap.size w wr) := by
              have h1 := HB30.out
              have h2 := HRUN.out.kept
              have h3 := HLO.out
              have h4 := HB2.out.size
              exact ⟨h2.os.trans h1.os, h2.tape.trans h1.tape, h2.output.trans h1.output, Nat.le_trans h1.size h2.size, fun b hb => (h2.block b (by have := h1.size; omega) (by omega) (by omega)).trans (h1.block b hb)⟩
            have HSUM : Hid (0 < G.sum) := by
              show _ < _
              have h1 := getD_sum G a
              rw [HFULL.out] at h1
              omega
            generalize hyy : (comes next k k).any (fun s => Decidable.decide (G.getD s 0 < I)) = yy at *
            clear hyy
            go_wp2_with fail
            refine HCT.out.mono ?_
            rintro e w5 ⟨rfl, hb5⟩
            have HB5 := hide (HBW.out.trans (hb5.mono HBW.out.size))
            have HR5 := hide (HRUN.out.below hb5)
            clear hb5 HCT
            go_wp2_with fail
            go_ret3
            exact ⟨⟨l, G, a, x, c, !yy, rfl, ownM HR5.out.own HB30.out.size, HR5.out.tour, HAA.out, HSUM.out⟩, HB5.out⟩
          · simp only [Value.slice.injEq] at hlv
            obtain ⟨rfl, rfl, rfl⟩ := hlv
            have HLEG := hide hleg
            have hpl := hleg.len
            have haS : a < k := by have := HRUN.out.tour.inv.at_; rw [HRUN.out.tour.at_] at this; exact this
            have hz3 := HRUN.out.kept.size
            have HAPr : Hid (Apart wr bw gN gG uN) := ⟨HAP.out.ne, ⟨HAP.out.n1.1, HAP.out.n1.2.1, by have := HAP.out.n1.2.2; omega⟩, fun s b hs => ⟨(HAP.out.us s b hs).1, (HAP.out.us s b hs).2.1, by have := (HAP.out.us s b hs).2.2; omega⟩⟩
            have HFO := hide (follow_any bw gN gG k I next uN G a p i gl d wr HRUN.out.wk HAPr.out hleg haS (by omega) hI HNL.out HNX.out hcl ⟨by have := HHI.out.1; omega, by have := HHI.out.2; omega, hgl2⟩)
            have HCL := hide hcl
            clear HLGr hcl hleg
            go_wp2_with fail
            refine HFO.out.mono ?_
            rintro e w5 ⟨rfl, hw5, hk5⟩
            have HW5 := hide hw5
            have HK5 := hide hk5
            clear hw5 hk5 HFO
            have HLT : Hid (∀ b, (Value.slice x l.length c).ownBlock = some b → w3.heap.size ≤ b) := fun b e => (HRUN.out.own.lt b e).1
            have HOW5 : Hid (w5.ownsRow w3.heap.size 3 1 (.slice x l.length c) l.length (l.map natV)) := ownK HRUN.out.own (fun b e => by
              obtain ⟨h1, h2⟩ := HRUN.out.own.lt b e
              have := HHI.out
              exact HK5.out.block b h2 (by omega) (by omega))
            have HNEWS : Hid (∀ (j : Nat) u, ((p ++ [i]).map natV)[j]? = some u → w5.cell? ((⟨gl, 0, none⟩ : Addr).add j) = some u) := by
              intro j u hu
              rw [List.getElem?_map, Option.map_eq_some_iff] at hu
              obtain ⟨y, hy, rfl⟩ := hu
              have h1 := HCL.out j y hy
              have h2 := HK5.out.block gl hgl2 (by have := HHI.out.1; omega) (by have := HHI.out.2; omega)
              have h3 : w5.cell? ⟨gl, j, none⟩ = some (natV y) := (World.cell?_of_block h2).trans h1
              cases j <;> simpa [Addr.add] using h3
            have HONE : Hid (∀ z ∈ (p ++ [i]).map natV, z.oneCell' = true) := by
              intro z hz
              obtain ⟨y, _, rfl⟩ := List.mem_map.1 hz
              rfl
            have HFIN : Hid (∀ g2 c2 wC, wC.ownsRow w3.heap.size 3 1 (.slice (some ⟨g2, 0, none⟩) (l.length + (p.length + 1)) c2) (l.length + (p.length + 1)) (l.map natV ++ (p ++ [i]).map natV) → w5.grownBy wC (Value.slice x l.length c).ownBlock → Run w3 bw gN gG k I next uN (G.set (Rc.go next a p) (i + 1)) (l ++ (p ++ [i])) (Rc.go next a (p ++ [i])) (some ⟨g2, 0, none⟩) c2 wC) := fun g2 c2 wC h1 h2 =>
              HRUN.out.went HOK.out HLEG.out HAP.out HHI.out HW5.out HK5.out h1 h2 HLT.out
            have hz5 := HK5.out.size
            have HLL2 : Hid ((l ++ (p ++ [i])).length = l.length + (p.length + 1)) := by show _ = _; simp
            have HSM : Hid ((G.set (Rc.go next a p) (i + 1)).sum = G.sum + 1) := by
              show _ = _
              have h1 := sum_set G (Rc.go next a p) (by
                have hl2 : Leg next I k G (ct next I k l).s p i := by rw [HRUN.out.tour.at_]; exact HLEG.out
                have h2 := (HRUN.out.tour.inv.along HOK.out hl2 p.length (Nat.le_refl _)).at_
                rw [List.take_length, fold_s, HRUN.out.tour.at_] at h2
                rw [HRUN.out.tour.inv.lenG]; exact h2)
              rw [← HLEG.out.last] at h1
              exact h1
            clear HW5 HK5 HCL
            generalize G.set (Rc.go next a p) (i + 1) = G2 at *
            generalize hl2 : l ++ (p ++ [i]) = l2 at *
            have HL2 := hide hl2
            clear hl2
            generalize Rc.go next a (p ++ [i]) = a2 at *
            obtain ⟨LL, hLL⟩ : ∃ LL, LL = l.length := ⟨_, rfl⟩
            have HLLe := hide hLL
            rw [← hLL] at HOW5 HFIN hll HLL2 ⊢
            clear hLL
            go_wp2_with (at_builtin; refine wpList_append_lies _ rfl (.tmp 56) (.tmp 57) 26 rfl w3.heap.size 3 i0 _ 1 8 Tryz.underlying26 hi0 hz0 hz1 hz2 rfl (by decide) (.slice x LL c) LL (l.map natV) rfl HOW5.out ⟨gl, 0, none⟩ (p.length + 1) d ((p ++ [i]).map natV) rfl (by simp) HNEWS.out HONE.out (by omega) (by unfold maxLen; omega) (by omega) (by omega) w5.heap.size rfl ?_; intro g2 cap2 wC hown hgrow hat hltg; have HRC := hide (HFIN.out g2 cap2 wC hown hgrow); clear hown hgrow hat)
            have HNR2 := hide (nearest_any bw gN gG k I next uN G2 a2 wC HRC.out.wk (by have := HRC.out.tour.inv.at_; rw [HRC.out.tour.at_] at this; exact this) (by omega) hI (fun s => HRC.out.tour.inv.gle s) HNL.out HNX.out)
            refine HNR2.out.mono ?_
            rintro e w6 ⟨hso, hb6⟩
            obtain ⟨lv, rfl, ⟨lx2, ln2, lc2, rfl⟩, hlg⟩ := hso.lg (w3 := w3) HRC.out.kept.size
            have HLG6 := hide hlg
            have HR6 := hide (HRC.out.below hb6)
            have HFW := hide HRC.out.few.1
            clear hso hlg hb6 HNR2
            go_wp2_with fail
            go_roundg (k * I - G2.sum)
            case measure => have h1 := HSM.out; have h2 := HFW.out; have h3 := HGH.out; omega
            case rel => exact ⟨G2, l2, a2, some ⟨g2, 0, none⟩, cap2, lx2, ln2, lc2, rfl, by rw [HLL2.out], rfl, HR6.out, HLG6.out⟩
end Tr
end Go.Proofs.YtglmpkpcbafgdaaGreatDoor
