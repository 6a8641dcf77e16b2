/-
  The walk of the statement LassoGrows.
-/
import Derived.Test.YtdkfbnokbjliiaaDoorLsKeep
import Derived.Test.YtdkfbnokbjliiaaDoorLsGrowM
namespace Go.Proofs.YtdkfbnokbjliiaaDoor
namespace Ls
open Go.RowKit
theorem isF_nd1 {W : World} {b g : Nat} {k : Int} {x : Fm} {v : Value} (hk : I64 k) (hr : RowIs W b 43 [.int .i64 k, .string ⟨#[]⟩, .slice (some ⟨g, 0, none⟩) 1 1]) (hg : RowIs W g 26 [v]) (hx : IsF (fun _ => True) W x v) : IsF (fun _ => True) W (nd k [x]) (.pointer (some ⟨b, 0, none⟩)) :=
  isF_node.2 ⟨hk, by simp, by unfold maxLen; simp, b, _, _, trivial, rfl, hr.cell 0 _ rfl, hr.cell 1 _ rfl, hr.cell 2 _ rfl, fun i y hy => by
    match i, hy with
    | 0, hy => cases hy; exact ⟨g, 0, v, trivial, rfl, Nat.le_refl _, hg.cell 0 _ rfl, hx⟩
    | i + 1, hy => simp at hy⟩
theorem isF_nd2 {W : World} {b g : Nat} {k : Int} {x y : Fm} {v u : Value} (hk : I64 k) (hr : RowIs W b 43 [.int .i64 k, .string ⟨#[]⟩, .slice (some ⟨g, 0, none⟩) 2 2]) (hg : RowIs W g 26 [v, u]) (hx : IsF (fun _ => True) W x v) (hy : IsF (fun _ => True) W y u) : IsF (fun _ => True) W (nd k [x, y]) (.pointer (some ⟨b, 0, none⟩)) :=
  isF_node.2 ⟨hk, by simp, by unfold maxLen; simp, b, _, _, trivial, rfl, hr.cell 0 _ rfl, hr.cell 1 _ rfl, hr.cell 2 _ rfl, fun i z hz => by
    match i, hz with
    | 0, hz => cases hz; exact ⟨g, 0, v, trivial, rfl, Nat.le_refl _, hg.cell 0 _ rfl, hx⟩
    | 1, hz => cases hz; exact ⟨g, 0, u, trivial, rfl, Nat.le_refl _, hg.cell 1 _ rfl, hy⟩
    | i + 2, hz => simp at hz⟩
set_option maxHeartbeats 2000000 in
theorem node1_any (k : Int) (hk : I64 k) (x : Fm) (v : Value) (W : World) (h : IsF (fun _ => True) W x v) :
    Calls Tryd.prog 13 #[.int .i64 k, .slice (some ⟨W.heap.size, 0, none⟩) 1 1] (W.alloc (.cells #[v] 26)) fun e w' => ∃ b, e = .returned (.pointer (some ⟨b, 0, none⟩)) ∧ IsF (fun _ => True) w' (nd k [x]) (.pointer (some ⟨b, 0, none⟩)) ∧ Below W.heap.size W w' := by
  have HN : Hid (IsF (fun _ => True) ((W.alloc (.cells #[v] 26)).alloc (.cells #[.int .i64 k, .string ⟨#[]⟩, .slice (some ⟨W.heap.size, 0, none⟩) 1 1] 43)) (nd k [x]) (.pointer (some ⟨W.heap.size + 1, 0, none⟩)) ∧ Below W.heap.size W ((W.alloc (.cells #[v] 26)).alloc (.cells #[.int .i64 k, .string ⟨#[]⟩, .slice (some ⟨W.heap.size, 0, none⟩) 1 1] 43))) := by
    have hb := then_ (newB W (.cells #[v] 26)) (newB _ (.cells #[.int .i64 k, .string ⟨#[]⟩, .slice (some ⟨W.heap.size, 0, none⟩) 1 1] 43))
    refine ⟨isF_nd1 hk ?_ ((RowIs.new W 26 [v]).alloc _) (h.below hb), hb⟩
    have := RowIs.new (W.alloc (.cells #[v] 26)) 43 [.int .i64 k, .string ⟨#[]⟩, .slice (some ⟨W.heap.size, 0, none⟩) 1 1]
    simpa using this
  clear h hk
  go_enter Tryd.func13, Tryd.ntmps13
  go_wp2_with fail
  go_ret
  exact ⟨_, rfl, HN.out⟩
set_option maxHeartbeats 2000000 in
theorem node2_any (k : Int) (hk : I64 k) (x y : Fm) (v u : Value) (W : World) (h : IsF (fun _ => True) W x v) (h2 : IsF (fun _ => True) W y u) :
    Calls Tryd.prog 13 #[.int .i64 k, .slice (some ⟨W.heap.size, 0, none⟩) 2 2] (W.alloc (.cells #[v, u] 26)) fun e w' => ∃ b, e = .returned (.pointer (some ⟨b, 0, none⟩)) ∧ IsF (fun _ => True) w' (nd k [x, y]) (.pointer (some ⟨b, 0, none⟩)) ∧ Below W.heap.size W w' := by
  have HN : Hid (IsF (fun _ => True) ((W.alloc (.cells #[v, u] 26)).alloc (.cells #[.int .i64 k, .string ⟨#[]⟩, .slice (some ⟨W.heap.size, 0, none⟩) 2 2] 43)) (nd k [x, y]) (.pointer (some ⟨W.heap.size + 1, 0, none⟩)) ∧ Below W.heap.size W ((W.alloc (.cells #[v, u] 26)).alloc (.cells #[.int .i64 k, .string ⟨#[]⟩, .slice (some ⟨W.heap.size, 0, none⟩) 2 2] 43))) := by
    have hb := then_ (newB W (.cells #[v, u] 26)) (newB _ (.cells #[.int .i64 k, .string ⟨#[]⟩, .slice (some ⟨W.heap.size, 0, none⟩) 2 2] 43))
    refine ⟨isF_nd2 hk ?_ ((RowIs.new W 26 [v, u]).alloc _) (h.below hb) (h2.below hb), hb⟩
    have := RowIs.new (W.alloc (.cells #[v, u] 26)) 43 [.int .i64 k, .string ⟨#[]⟩, .slice (some ⟨W.heap.size, 0, none⟩) 2 2]
    simpa using this
  clear h hk h2
  go_enter Tryd.func13, Tryd.ntmps13
  go_wp2_with fail
  go_ret
  exact ⟨_, rfl, HN.out⟩
theorem fine2 {A R : List (List (List UInt8))} {x : Fm} (hc : check A R = none) (hx : Fine x) : wrong2 A R x = none := by
  unfold wrong2
  rw [hc]
  exact (right_none x).2 hx
set_option maxHeartbeats 4000000 in
set_option maxRecDepth 100000 in
theorem same_any (A R : List (List (List UInt8))) (x y : Fm) (vx vy av rv : Value) (b : Nat) (w : World) (hA : Rows w av A) (hR : Rows w rv R) (hla : A.length ≤ mx) (hlr : R.length ≤ mx) (hx : IsF (fun _ => True) w x vx) (hy : IsF (fun _ => True) w y vy) (hP : PT w) (c0 : w.cell? ⟨b, 0, none⟩ = some av) (c1 : w.cell? ⟨b, 1, none⟩ = some rv) (hck : check A R = none) (fx : Fine x) (fy : Fine y) (hs : ∀ t, t < (A ++ R).length → sem (A ++ R) A.length x t = sem (A ++ R) A.length y t) :
    Calls Tryd.prog 14 #[vx, vy, .pointer (some ⟨b, 0, none⟩)] w fun e w' => e = .returned (.bool true) ∧ Below w.heap.size w w' := by
  have qe := errEql
  have HH1 := hide (Holds_any A R x av rv vx w hA hR hla hlr hx hP)
  have HH2 := hide (fun W (hW : Below w.heap.size w W) => Holds_any A R y av rv vy W (hA.below hW) (hR.below hW) hla hlr (hy.below hW) (hP.below hW))
  obtain ⟨hr0, h60⟩ := check_none hck
  have hl : (A ++ R).length ≤ 60 := by rw [List.length_append]; exact h60
  have HR1 : Hid (∀ e w', Held A R x w e w' → Below w.heap.size w w' ∧ ∃ g, e = .returned (.tuple #[.slice (some ⟨g, 0, none⟩) (A ++ R).length (A ++ R).length, .nilIface]) ∧ BRow w' g (A ++ R).length (sem (A ++ R) A.length y)) := fun e w' h => by
    obtain ⟨hb, h⟩ := h
    refine ⟨hb, ?_⟩
    rcases h with ⟨k, h1, _⟩ | ⟨_, g, h2, h3⟩
    · rw [fine2 hck fx] at h1; cases h1
    · exact ⟨g, h2, h3.congr hs⟩
  have HR2 : Hid (∀ W e w', Held A R y W e w' → Below W.heap.size W w' ∧ ∃ g, e = .returned (.tuple #[.slice (some ⟨g, 0, none⟩) (A ++ R).length (A ++ R).length, .nilIface]) ∧ BRow w' g (A ++ R).length (sem (A ++ R) A.length y)) := fun W e w' h => by
    obtain ⟨hb, h⟩ := h
    refine ⟨hb, ?_⟩
    rcases h with ⟨k, h1, _⟩ | ⟨_, g, h2, h3⟩
    · rw [fine2 hck fy] at h1; cases h1
    · exact ⟨g, h2, h3⟩
  obtain ⟨px, rfl⟩ := hx.ptr
  obtain ⟨py, rfl⟩ := hy.ptr
  have hsa := hA.slice
  have hsr := hR.slice
  generalize sem (A ++ R) A.length y = sm at *
  generalize (A ++ R).length = n at *
  obtain ⟨aa, ac, rfl⟩ := hsa
  obtain ⟨ra, rc, rfl⟩ := hsr
  clear hA hR hx hy hP hck fx fy hs hr0 h60
  go_enter Tryd.func14, Tryd.ntmps14
  go_wp2_with fail
  refine HH1.out.mono ?_
  rintro e w1 hres
  obtain ⟨hb1, g1, rfl, hr1⟩ := HR1.out _ _ hres
  have HB1 := hide hb1
  have HG1 := hide hr1
  have d0 := kept hb1 c0
  have d1 := kept hb1 c1
  have HC2 := hide (HH2.out w1 hb1)
  clear hres hb1 hr1 HH1 HH2 HR1 c0 c1
  go_wp2_with fail
  refine HC2.out.mono ?_
  rintro e w2 hres
  obtain ⟨hb2, g2, rfl, hr2⟩ := HR2.out _ _ _ hres
  have HB2 := hide (then_ HB1.out hb2)
  have HG12 := hide (HG1.out.below hb2)
  have HG2 := hide hr2
  have HD := hide (drewB w2)
  have HSB := hide (sameB_any n (by omega) sm g1 g2 w2.drew (HG12.out.below HD.out) (HG2.out.below HD.out))
  clear hres hb2 hr2 HC2 HR2 d0 d1
  go_wp2_with fail
  go_region_held3 (fun _ => True) (trivial) ((go_at_call 11; refine HSB.out.mono ?_; rintro e w3 ⟨rfl, hb3⟩; have HB3 := hide (then_ HB2.out (then_ HD.out hb3)); clear hb3))
  go_wp2_with fail
  go_ret
  exact ⟨rfl, HB3.out⟩
set_option maxHeartbeats 16000000 in
set_option maxRecDepth 100000 in
theorem lassoGrows_any (A R : List (List (List UInt8))) (l m : List St) (av rv lv mv : Value) (w : World) (hA : Rows w av A) (hR : Rows w rv R) (hla : A.length ≤ mx) (hlr : R.length ≤ mx) (hl : Steps w lv l) (hm : Steps w mv m) (hP : PT w) :
    Calls Tryd.prog 5 #[.agg #[av, rv], lv, mv] w fun e w' => e = .returned (.bool true) ∧ Below w.heap.size w w' := by
  have q1 := errNeq
  have q2 := nilNeq
  have hmf : ∀ (fn : Fn) (first cap : Array Value) (w : World), (Instr.makeFunc fn first cap).run Tryd.prog w = .ok (.func fn first cap) w := fun _ _ _ _ => rfl
  obtain ⟨wA, hwA⟩ : ∃ wA, wA = w.alloc (.cells #[av, rv] 24) := ⟨_, rfl⟩
  have HBA : Hid (Below w.heap.size w wA) := by rw [hwA]; exact newB _ _
  have ca0 : wA.cell? ⟨w.heap.size, 0, none⟩ = some av := by rw [hwA]; exact two_new0 _ _ _ _
  have ca1 : wA.cell? ⟨w.heap.size, 1, none⟩ = some rv := by rw [hwA]; exact two_new1 _ _ _ _
  have HFL := hide (fun (h : l.length ≤ 100) => Formula_any l lv wA (hl.below HBA.out) h)
  have HFM := hide (fun (h : m.length ≤ 100) W (hW : Below wA.heap.size wA W) => Formula_any m mv W ((hm.below HBA.out).below hW) h)
  have HAA := hide (hA.below HBA.out)
  have HRA := hide (hR.below HBA.out)
  have HPA := hide (hP.below HBA.out)
  obtain ⟨aa, ac, rfl⟩ := hA.slice
  obtain ⟨ra, rc, rfl⟩ := hR.slice
  obtain ⟨la, lc, rfl⟩ := hl.slice
  obtain ⟨ma, mc, rfl⟩ := hm.slice
  have hll : l.length ≤ maxLen := by obtain ⟨_, _, _, h, _⟩ := hl; exact h
  have hml : m.length ≤ maxLen := by obtain ⟨_, _, _, h, _⟩ := hm; exact h
  have HWA := hide hwA
  have hla' : A.length ≤ mx := hla
  have hlr' : R.length ≤ mx := hlr
  unfold mx at hla' hlr'
  unfold maxLen at hll hml
  clear hwA hA hR hl hm hP
  by_cases h1 : 8 < l.length
  · have h1i : (8 : Int) < (l.length : Int) := by omega
    go_enter Tryd.func5, Tryd.ntmps5
    go_wp2_with fail
    rw [← HWA.out]
    go_ret
    exact ⟨rfl, HBA.out⟩
  have h1i : ¬ (8 : Int) < (l.length : Int) := by omega
  by_cases h2 : 8 < m.length
  · have h2i : (8 : Int) < (m.length : Int) := by omega
    go_enter Tryd.func5, Tryd.ntmps5
    go_wp2_with fail
    rw [← HWA.out]
    go_ret
    exact ⟨rfl, HBA.out⟩
  have h2i : ¬ (8 : Int) < (m.length : Int) := by omega
  by_cases h3 : 30 < A.length + R.length
  · have h3i : (30 : Int) < (A.length : Int) + (R.length : Int) := by omega
    go_enter Tryd.func5, Tryd.ntmps5
    go_wp2_with fail
    rw [← HWA.out]
    go_ret
    exact ⟨rfl, HBA.out⟩
  have h3i : ¬ (30 : Int) < (A.length : Int) + (R.length : Int) := by omega
  have HF1 := hide (HFL.out (by omega))
  have HF2 := hide (HFM.out (by omega))
  clear HFL HFM
  go_enter Tryd.func5, Tryd.ntmps5
  go_wp2_with fail
  rw [← HWA.out]
  refine HF1.out.mono ?_
  rintro e w1 ⟨vf, rfl, hf1, hb1⟩
  have HB1 := hide hb1
  have HFF := hide hf1
  have HC2 := hide (HF2.out w1 hb1)
  obtain ⟨pf, rfl⟩ := hf1.ptr
  clear hf1 hb1 HF1 HF2 HWA
  go_wp2_with fail
  refine HC2.out.mono ?_
  rintro e w2 ⟨vg, rfl, hg2, hb2⟩
  have HBW := hide HBA.out
  have HB := hide (then_ HB1.out hb2)
  have If := hide (HFF.out.below hb2)
  have Ig := hide hg2
  obtain ⟨pg, rfl⟩ := hg2.ptr
  have HA := hide HAA.out
  have HR := hide HRA.out
  have HP := hide HPA.out
  have HC0 := hide ca0
  have HC1 := hide ca1
  clear hb2 hg2 HC2 HFF HB1 HAA HRA HPA ca0 ca1 h1 h2 h3 h1i h2i h3i hll hml hla' hlr' HBA
  go_wp2_with fail
  refine (node2_any 7 (by unfold I64; omega) _ _ _ _ w2 If.out Ig.out).mono ?_
  rintro e x1 ⟨b1, rfl, hn, hb⟩
  have Jf := hide (If.out.below hb)
  clear If
  have If := hide Jf.out
  clear Jf
  have Jg := hide (Ig.out.below hb)
  clear Ig
  have Ig := hide Jg.out
  clear Jg
  have JB := hide (then_ HB.out hb)
  clear HB
  have HB := hide JB.out
  clear JB
  have Iu : Hid (IsF (fun _ => True) x1 (nd 7 [(formula l), (formula m)]) (.pointer (some ⟨b1, 0, none⟩))) := hn
  clear hb hn
  go_wp2_with fail
  refine (node2_any 8 (by unfold I64; omega) _ _ _ _ x1 If.out Ig.out).mono ?_
  rintro e x2 ⟨b2, rfl, hn, hb⟩
  have Jf := hide (If.out.below hb)
  clear If
  have If := hide Jf.out
  clear Jf
  have Jg := hide (Ig.out.below hb)
  clear Ig
  have Ig := hide Jg.out
  clear Jg
  have Ju := hide (Iu.out.below hb)
  clear Iu
  have Iu := hide Ju.out
  clear Ju
  have JB := hide (then_ HB.out hb)
  clear HB
  have HB := hide JB.out
  clear JB
  have Ir : Hid (IsF (fun _ => True) x2 (nd 8 [(formula l), (formula m)]) (.pointer (some ⟨b2, 0, none⟩))) := hn
  clear hb hn
  go_wp2_with fail
  refine (node1_any 9 (by unfold I64; omega) _ _ x2 If.out).mono ?_
  rintro e x3 ⟨b3, rfl, hn, hb⟩
  have Jf := hide (If.out.below hb)
  clear If
  have If := hide Jf.out
  clear Jf
  have Jg := hide (Ig.out.below hb)
  clear Ig
  have Ig := hide Jg.out
  clear Jg
  have Ju := hide (Iu.out.below hb)
  clear Iu
  have Iu := hide Ju.out
  clear Ju
  have Jr := hide (Ir.out.below hb)
  clear Ir
  have Ir := hide Jr.out
  clear Jr
  have JB := hide (then_ HB.out hb)
  clear HB
  have HB := hide JB.out
  clear JB
  have Ie : Hid (IsF (fun _ => True) x3 (nd 9 [(formula l)]) (.pointer (some ⟨b3, 0, none⟩))) := hn
  clear hb hn
  go_wp2_with fail
  refine (node1_any 10 (by unfold I64; omega) _ _ x3 If.out).mono ?_
  rintro e x4 ⟨b4, rfl, hn, hb⟩
  have Jf := hide (If.out.below hb)
  clear If
  have If := hide Jf.out
  clear Jf
  have Jg := hide (Ig.out.below hb)
  clear Ig
  have Ig := hide Jg.out
  clear Jg
  have Ju := hide (Iu.out.below hb)
  clear Iu
  have Iu := hide Ju.out
  clear Ju
  have Jr := hide (Ir.out.below hb)
  clear Ir
  have Ir := hide Jr.out
  clear Jr
  have Je := hide (Ie.out.below hb)
  clear Ie
  have Ie := hide Je.out
  clear Je
  have JB := hide (then_ HB.out hb)
  clear HB
  have HB := hide JB.out
  clear JB
  have Ia : Hid (IsF (fun _ => True) x4 (nd 10 [(formula l)]) (.pointer (some ⟨b4, 0, none⟩))) := hn
  clear hb hn
  go_wp2_with fail
  refine (lassoed_any x4 (HP.out.below HB.out)).mono ?_
  rintro e x5 ⟨rfl, hb⟩
  have Jf := hide (If.out.below hb)
  clear If
  have If := hide Jf.out
  clear Jf
  have Jg := hide (Ig.out.below hb)
  clear Ig
  have Ig := hide Jg.out
  clear Jg
  have Ju := hide (Iu.out.below hb)
  clear Iu
  have Iu := hide Ju.out
  clear Ju
  have Jr := hide (Ir.out.below hb)
  clear Ir
  have Ir := hide Jr.out
  clear Jr
  have Je := hide (Ie.out.below hb)
  clear Ie
  have Ie := hide Je.out
  clear Je
  have Ja := hide (Ia.out.below hb)
  clear Ia
  have Ia := hide Ja.out
  clear Ja
  have JB := hide (then_ HB.out hb)
  clear HB
  have HB := hide JB.out
  clear JB
  clear hb
  go_wp2_with fail
  refine (node1_any 6 (by unfold I64; omega) _ _ x5 Iu.out).mono ?_
  rintro e x6 ⟨b6, rfl, hn, hb⟩
  have Jf := hide (If.out.below hb)
  clear If
  have If := hide Jf.out
  clear Jf
  have Jg := hide (Ig.out.below hb)
  clear Ig
  have Ig := hide Jg.out
  clear Jg
  have Ju := hide (Iu.out.below hb)
  clear Iu
  have Iu := hide Ju.out
  clear Ju
  have Jr := hide (Ir.out.below hb)
  clear Ir
  have Ir := hide Jr.out
  clear Jr
  have Je := hide (Ie.out.below hb)
  clear Ie
  have Ie := hide Je.out
  clear Je
  have Ja := hide (Ia.out.below hb)
  clear Ia
  have Ia := hide Ja.out
  clear Ja
  have JB := hide (then_ HB.out hb)
  clear HB
  have HB := hide JB.out
  clear JB
  have In1 : Hid (IsF (fun _ => True) x6 (nd 6 [(nd 7 [(formula l), (formula m)])]) (.pointer (some ⟨b6, 0, none⟩))) := hn
  clear hb hn
  go_wp2_with fail
  refine (node2_any 4 (by unfold I64; omega) _ _ _ _ x6 If.out In1.out).mono ?_
  rintro e x7 ⟨b7, rfl, hn, hb⟩
  have Jf := hide (If.out.below hb)
  clear If
  have If := hide Jf.out
  clear Jf
  have Jg := hide (Ig.out.below hb)
  clear Ig
  have Ig := hide Jg.out
  clear Jg
  have Ju := hide (Iu.out.below hb)
  clear Iu
  have Iu := hide Ju.out
  clear Ju
  have Jr := hide (Ir.out.below hb)
  clear Ir
  have Ir := hide Jr.out
  clear Jr
  have Je := hide (Ie.out.below hb)
  clear Ie
  have Ie := hide Je.out
  clear Je
  have Ja := hide (Ia.out.below hb)
  clear Ia
  have Ia := hide Ja.out
  clear Ja
  have Jn1 := hide (In1.out.below hb)
  clear In1
  have In1 := hide Jn1.out
  clear Jn1
  have JB := hide (then_ HB.out hb)
  clear HB
  have HB := hide JB.out
  clear JB
  have In2 : Hid (IsF (fun _ => True) x7 (nd 4 [(formula l), (nd 6 [(nd 7 [(formula l), (formula m)])])]) (.pointer (some ⟨b7, 0, none⟩))) := hn
  clear hb hn
  go_wp2_with fail
  refine (node2_any 5 (by unfold I64; omega) _ _ _ _ x7 Ig.out In2.out).mono ?_
  rintro e x8 ⟨b8, rfl, hn, hb⟩
  have Jf := hide (If.out.below hb)
  clear If
  have If := hide Jf.out
  clear Jf
  have Jg := hide (Ig.out.below hb)
  clear Ig
  have Ig := hide Jg.out
  clear Jg
  have Ju := hide (Iu.out.below hb)
  clear Iu
  have Iu := hide Ju.out
  clear Ju
  have Jr := hide (Ir.out.below hb)
  clear Ir
  have Ir := hide Jr.out
  clear Jr
  have Je := hide (Ie.out.below hb)
  clear Ie
  have Ie := hide Je.out
  clear Je
  have Ja := hide (Ia.out.below hb)
  clear Ia
  have Ia := hide Ja.out
  clear Ja
  have Jn1 := hide (In1.out.below hb)
  clear In1
  have In1 := hide Jn1.out
  clear Jn1
  have Jn2 := hide (In2.out.below hb)
  clear In2
  have In2 := hide Jn2.out
  clear Jn2
  have JB := hide (then_ HB.out hb)
  clear HB
  have HB := hide JB.out
  clear JB
  have Ibig : Hid (IsF (fun _ => True) x8 (nd 5 [(formula m), (nd 4 [(formula l), (nd 6 [(nd 7 [(formula l), (formula m)])])])]) (.pointer (some ⟨b8, 0, none⟩))) := hn
  clear hb hn
  go_wp2_with fail
  have HRG := hide (Right_any _ _ x8 Ibig.out (HP.out.below HB.out))
  have HBG : Hid (nd 5 [formula m, nd 4 [formula l, nd 6 [nd 7 [formula l, formula m]]]] = big (formula l) (formula m)) := rfl
  cases hrt : right (nd 5 [formula m, nd 4 [formula l, nd 6 [nd 7 [formula l, formula m]]]]) with
  | some kk =>
    rw [hrt, errV_some] at HRG
    clear hrt
    refine HRG.out.mono ?_
    rintro e x9 ⟨rfl, hb⟩
    have HBZ := hide (then_ HBW.out (then_ HB.out hb))
    clear hb HRG
    go_wp2_with fail
    go_ret
    exact ⟨rfl, HBZ.out⟩
  | none =>
    rw [hrt, errV_none] at HRG
    have HPT : Hid (Parts (formula l) (formula m)) := parts_of ((right_none _).1 hrt)
    have HFB : Hid (Fine (big (formula l) (formula m))) := (right_none _).1 hrt
    clear hrt
    refine HRG.out.mono ?_
    rintro e x9 ⟨rfl, hb⟩
    have Jf := hide (If.out.below hb)
    clear If
    have If := hide Jf.out
    clear Jf
    have Jg := hide (Ig.out.below hb)
    clear Ig
    have Ig := hide Jg.out
    clear Jg
    have Ju := hide (Iu.out.below hb)
    clear Iu
    have Iu := hide Ju.out
    clear Ju
    have Jr := hide (Ir.out.below hb)
    clear Ir
    have Ir := hide Jr.out
    clear Jr
    have Je := hide (Ie.out.below hb)
    clear Ie
    have Ie := hide Je.out
    clear Je
    have Ja := hide (Ia.out.below hb)
    clear Ia
    have Ia := hide Ja.out
    clear Ja
    have Jn1 := hide (In1.out.below hb)
    clear In1
    have In1 := hide Jn1.out
    clear Jn1
    have Jn2 := hide (In2.out.below hb)
    clear In2
    have In2 := hide Jn2.out
    clear Jn2
    have Jbig := hide (Ibig.out.below hb)
    clear Ibig
    have Ibig := hide Jbig.out
    clear Jbig
    have JB := hide (then_ HB.out hb)
    clear HB
    have HB := hide JB.out
    clear JB
    clear hb HRG
    have cw0 := kept HB.out HC0.out
    have cw1 := kept HB.out HC1.out
    go_wp2_with fail
    have HCW := hide (Check_any A R _ _ x9 (HA.out.below HB.out) (HR.out.below HB.out) hla hlr)
    cases hck : check A R with
    | some kk =>
      rw [hck, errV_some] at HCW
      clear hck
      refine HCW.out.mono ?_
      rintro e x10 ⟨rfl, hb⟩
      have HBZ := hide (then_ HBW.out (then_ HB.out hb))
      clear hb HCW
      go_wp2_with fail
      go_ret
      exact ⟨rfl, HBZ.out⟩
    | none =>
      rw [hck, errV_none] at HCW
      have HCK := hide hck
      clear hck cw0 cw1
      refine HCW.out.mono ?_
      rintro e x10 ⟨rfl, hb⟩
      have Jf := hide (If.out.below hb)
      clear If
      have If := hide Jf.out
      clear Jf
      have Jg := hide (Ig.out.below hb)
      clear Ig
      have Ig := hide Jg.out
      clear Jg
      have Ju := hide (Iu.out.below hb)
      clear Iu
      have Iu := hide Ju.out
      clear Ju
      have Jr := hide (Ir.out.below hb)
      clear Ir
      have Ir := hide Jr.out
      clear Jr
      have Je := hide (Ie.out.below hb)
      clear Ie
      have Ie := hide Je.out
      clear Je
      have Ja := hide (Ia.out.below hb)
      clear Ia
      have Ia := hide Ja.out
      clear Ja
      have Jn1 := hide (In1.out.below hb)
      clear In1
      have In1 := hide Jn1.out
      clear Jn1
      have Jn2 := hide (In2.out.below hb)
      clear In2
      have In2 := hide Jn2.out
      clear Jn2
      have Jbig := hide (Ibig.out.below hb)
      clear Ibig
      have Ibig := hide Jbig.out
      clear Jbig
      have JB := hide (then_ HB.out hb)
      clear HB
      have HB := hide JB.out
      clear JB
      clear hb HCW
      go_wp2_with fail
      refine (same_any A R (nd 7 [(formula l), (formula m)]) (nd 5 [(formula m), (nd 4 [(formula l), (nd 6 [(nd 7 [(formula l), (formula m)])])])]) _ _ _ _ _ x10 (HA.out.below HB.out) (HR.out.below HB.out) hla hlr Iu.out Ibig.out (HP.out.below HB.out) (kept HB.out HC0.out) (kept HB.out HC1.out) HCK.out HPT.out.until HFB.out (fun t ht => grow_until _ _ t ht)).mono ?_
      rintro e x11 ⟨rfl, hb⟩
      have Jf := hide (If.out.below hb)
      clear If
      have If := hide Jf.out
      clear Jf
      have Jg := hide (Ig.out.below hb)
      clear Ig
      have Ig := hide Jg.out
      clear Jg
      have Ju := hide (Iu.out.below hb)
      clear Iu
      have Iu := hide Ju.out
      clear Ju
      have Jr := hide (Ir.out.below hb)
      clear Ir
      have Ir := hide Jr.out
      clear Jr
      have Je := hide (Ie.out.below hb)
      clear Ie
      have Ie := hide Je.out
      clear Je
      have Ja := hide (Ia.out.below hb)
      clear Ia
      have Ia := hide Ja.out
      clear Ja
      have Jn1 := hide (In1.out.below hb)
      clear In1
      have In1 := hide Jn1.out
      clear Jn1
      have Jn2 := hide (In2.out.below hb)
      clear In2
      have In2 := hide Jn2.out
      clear Jn2
      have Jbig := hide (Ibig.out.below hb)
      clear Ibig
      have Ibig := hide Jbig.out
      clear Jbig
      have JB := hide (then_ HB.out hb)
      clear HB
      have HB := hide JB.out
      clear JB
      clear hb
      go_wp2_with fail
      refine (node1_any 6 (by unfold I64; omega) _ _ x11 Ir.out).mono ?_
      rintro e x12 ⟨b12, rfl, hn, hb⟩
      have Jf := hide (If.out.below hb)
      clear If
      have If := hide Jf.out
      clear Jf
      have Jg := hide (Ig.out.below hb)
      clear Ig
      have Ig := hide Jg.out
      clear Jg
      have Ju := hide (Iu.out.below hb)
      clear Iu
      have Iu := hide Ju.out
      clear Ju
      have Jr := hide (Ir.out.below hb)
      clear Ir
      have Ir := hide Jr.out
      clear Jr
      have Je := hide (Ie.out.below hb)
      clear Ie
      have Ie := hide Je.out
      clear Je
      have Ja := hide (Ia.out.below hb)
      clear Ia
      have Ia := hide Ja.out
      clear Ja
      have Jn1 := hide (In1.out.below hb)
      clear In1
      have In1 := hide Jn1.out
      clear Jn1
      have Jn2 := hide (In2.out.below hb)
      clear In2
      have In2 := hide Jn2.out
      clear Jn2
      have Jbig := hide (Ibig.out.below hb)
      clear Ibig
      have Ibig := hide Jbig.out
      clear Jbig
      have JB := hide (then_ HB.out hb)
      clear HB
      have HB := hide JB.out
      clear JB
      have Im1 : Hid (IsF (fun _ => True) x12 (nd 6 [(nd 8 [(formula l), (formula m)])]) (.pointer (some ⟨b12, 0, none⟩))) := hn
      clear hb hn
      go_wp2_with fail
      refine (node2_any 5 (by unfold I64; omega) _ _ _ _ x12 If.out Im1.out).mono ?_
      rintro e x13 ⟨b13, rfl, hn, hb⟩
      have Jf := hide (If.out.below hb)
      clear If
      have If := hide Jf.out
      clear Jf
      have Jg := hide (Ig.out.below hb)
      clear Ig
      have Ig := hide Jg.out
      clear Jg
      have Ju := hide (Iu.out.below hb)
      clear Iu
      have Iu := hide Ju.out
      clear Ju
      have Jr := hide (Ir.out.below hb)
      clear Ir
      have Ir := hide Jr.out
      clear Jr
      have Je := hide (Ie.out.below hb)
      clear Ie
      have Ie := hide Je.out
      clear Je
      have Ja := hide (Ia.out.below hb)
      clear Ia
      have Ia := hide Ja.out
      clear Ja
      have Jn1 := hide (In1.out.below hb)
      clear In1
      have In1 := hide Jn1.out
      clear Jn1
      have Jn2 := hide (In2.out.below hb)
      clear In2
      have In2 := hide Jn2.out
      clear Jn2
      have Jbig := hide (Ibig.out.below hb)
      clear Ibig
      have Ibig := hide Jbig.out
      clear Jbig
      have Jm1 := hide (Im1.out.below hb)
      clear Im1
      have Im1 := hide Jm1.out
      clear Jm1
      have JB := hide (then_ HB.out hb)
      clear HB
      have HB := hide JB.out
      clear JB
      have Im2 : Hid (IsF (fun _ => True) x13 (nd 5 [(formula l), (nd 6 [(nd 8 [(formula l), (formula m)])])]) (.pointer (some ⟨b13, 0, none⟩))) := hn
      clear hb hn
      go_wp2_with fail
      refine (node2_any 4 (by unfold I64; omega) _ _ _ _ x13 Ig.out Im2.out).mono ?_
      rintro e x14 ⟨b14, rfl, hn, hb⟩
      have Jf := hide (If.out.below hb)
      clear If
      have If := hide Jf.out
      clear Jf
      have Jg := hide (Ig.out.below hb)
      clear Ig
      have Ig := hide Jg.out
      clear Jg
      have Ju := hide (Iu.out.below hb)
      clear Iu
      have Iu := hide Ju.out
      clear Ju
      have Jr := hide (Ir.out.below hb)
      clear Ir
      have Ir := hide Jr.out
      clear Jr
      have Je := hide (Ie.out.below hb)
      clear Ie
      have Ie := hide Je.out
      clear Je
      have Ja := hide (Ia.out.below hb)
      clear Ia
      have Ia := hide Ja.out
      clear Ja
      have Jn1 := hide (In1.out.below hb)
      clear In1
      have In1 := hide Jn1.out
      clear Jn1
      have Jn2 := hide (In2.out.below hb)
      clear In2
      have In2 := hide Jn2.out
      clear Jn2
      have Jbig := hide (Ibig.out.below hb)
      clear Ibig
      have Ibig := hide Jbig.out
      clear Jbig
      have Jm1 := hide (Im1.out.below hb)
      clear Im1
      have Im1 := hide Jm1.out
      clear Jm1
      have Jm2 := hide (Im2.out.below hb)
      clear Im2
      have Im2 := hide Jm2.out
      clear Jm2
      have JB := hide (then_ HB.out hb)
      clear HB
      have HB := hide JB.out
      clear JB
      have Im3 : Hid (IsF (fun _ => True) x14 (nd 4 [(formula m), (nd 5 [(formula l), (nd 6 [(nd 8 [(formula l), (formula m)])])])]) (.pointer (some ⟨b14, 0, none⟩))) := hn
      clear hb hn
      go_wp2_with fail
      refine (same_any A R (nd 8 [(formula l), (formula m)]) (nd 4 [(formula m), (nd 5 [(formula l), (nd 6 [(nd 8 [(formula l), (formula m)])])])]) _ _ _ _ _ x14 (HA.out.below HB.out) (HR.out.below HB.out) hla hlr Ir.out Im3.out (HP.out.below HB.out) (kept HB.out HC0.out) (kept HB.out HC1.out) HCK.out HPT.out.release HPT.out.release2 (fun t ht => grow_release _ _ t ht)).mono ?_
      rintro e x15 ⟨rfl, hb⟩
      have Jf := hide (If.out.below hb)
      clear If
      have If := hide Jf.out
      clear Jf
      have Jg := hide (Ig.out.below hb)
      clear Ig
      have Ig := hide Jg.out
      clear Jg
      have Ju := hide (Iu.out.below hb)
      clear Iu
      have Iu := hide Ju.out
      clear Ju
      have Jr := hide (Ir.out.below hb)
      clear Ir
      have Ir := hide Jr.out
      clear Jr
      have Je := hide (Ie.out.below hb)
      clear Ie
      have Ie := hide Je.out
      clear Je
      have Ja := hide (Ia.out.below hb)
      clear Ia
      have Ia := hide Ja.out
      clear Ja
      have Jn1 := hide (In1.out.below hb)
      clear In1
      have In1 := hide Jn1.out
      clear Jn1
      have Jn2 := hide (In2.out.below hb)
      clear In2
      have In2 := hide Jn2.out
      clear Jn2
      have Jbig := hide (Ibig.out.below hb)
      clear Ibig
      have Ibig := hide Jbig.out
      clear Jbig
      have Jm1 := hide (Im1.out.below hb)
      clear Im1
      have Im1 := hide Jm1.out
      clear Jm1
      have Jm2 := hide (Im2.out.below hb)
      clear Im2
      have Im2 := hide Jm2.out
      clear Jm2
      have Jm3 := hide (Im3.out.below hb)
      clear Im3
      have Im3 := hide Jm3.out
      clear Jm3
      have JB := hide (then_ HB.out hb)
      clear HB
      have HB := hide JB.out
      clear JB
      clear hb
      go_wp2_with fail
      refine (node1_any 6 (by unfold I64; omega) _ _ x15 Ie.out).mono ?_
      rintro e x16 ⟨b16, rfl, hn, hb⟩
      have Jf := hide (If.out.below hb)
      clear If
      have If := hide Jf.out
      clear Jf
      have Jg := hide (Ig.out.below hb)
      clear Ig
      have Ig := hide Jg.out
      clear Jg
      have Ju := hide (Iu.out.below hb)
      clear Iu
      have Iu := hide Ju.out
      clear Ju
      have Jr := hide (Ir.out.below hb)
      clear Ir
      have Ir := hide Jr.out
      clear Jr
      have Je := hide (Ie.out.below hb)
      clear Ie
      have Ie := hide Je.out
      clear Je
      have Ja := hide (Ia.out.below hb)
      clear Ia
      have Ia := hide Ja.out
      clear Ja
      have Jn1 := hide (In1.out.below hb)
      clear In1
      have In1 := hide Jn1.out
      clear Jn1
      have Jn2 := hide (In2.out.below hb)
      clear In2
      have In2 := hide Jn2.out
      clear Jn2
      have Jbig := hide (Ibig.out.below hb)
      clear Ibig
      have Ibig := hide Jbig.out
      clear Jbig
      have Jm1 := hide (Im1.out.below hb)
      clear Im1
      have Im1 := hide Jm1.out
      clear Jm1
      have Jm2 := hide (Im2.out.below hb)
      clear Im2
      have Im2 := hide Jm2.out
      clear Jm2
      have Jm3 := hide (Im3.out.below hb)
      clear Im3
      have Im3 := hide Jm3.out
      clear Jm3
      have JB := hide (then_ HB.out hb)
      clear HB
      have HB := hide JB.out
      clear JB
      have Ip1 : Hid (IsF (fun _ => True) x16 (nd 6 [(nd 9 [(formula l)])]) (.pointer (some ⟨b16, 0, none⟩))) := hn
      clear hb hn
      go_wp2_with fail
      refine (node2_any 5 (by unfold I64; omega) _ _ _ _ x16 If.out Ip1.out).mono ?_
      rintro e x17 ⟨b17, rfl, hn, hb⟩
      have Jf := hide (If.out.below hb)
      clear If
      have If := hide Jf.out
      clear Jf
      have Jg := hide (Ig.out.below hb)
      clear Ig
      have Ig := hide Jg.out
      clear Jg
      have Ju := hide (Iu.out.below hb)
      clear Iu
      have Iu := hide Ju.out
      clear Ju
      have Jr := hide (Ir.out.below hb)
      clear Ir
      have Ir := hide Jr.out
      clear Jr
      have Je := hide (Ie.out.below hb)
      clear Ie
      have Ie := hide Je.out
      clear Je
      have Ja := hide (Ia.out.below hb)
      clear Ia
      have Ia := hide Ja.out
      clear Ja
      have Jn1 := hide (In1.out.below hb)
      clear In1
      have In1 := hide Jn1.out
      clear Jn1
      have Jn2 := hide (In2.out.below hb)
      clear In2
      have In2 := hide Jn2.out
      clear Jn2
      have Jbig := hide (Ibig.out.below hb)
      clear Ibig
      have Ibig := hide Jbig.out
      clear Jbig
      have Jm1 := hide (Im1.out.below hb)
      clear Im1
      have Im1 := hide Jm1.out
      clear Jm1
      have Jm2 := hide (Im2.out.below hb)
      clear Im2
      have Im2 := hide Jm2.out
      clear Jm2
      have Jm3 := hide (Im3.out.below hb)
      clear Im3
      have Im3 := hide Jm3.out
      clear Jm3
      have Jp1 := hide (Ip1.out.below hb)
      clear Ip1
      have Ip1 := hide Jp1.out
      clear Jp1
      have JB := hide (then_ HB.out hb)
      clear HB
      have HB := hide JB.out
      clear JB
      have Ip2 : Hid (IsF (fun _ => True) x17 (nd 5 [(formula l), (nd 6 [(nd 9 [(formula l)])])]) (.pointer (some ⟨b17, 0, none⟩))) := hn
      clear hb hn
      go_wp2_with fail
      refine (same_any A R (nd 9 [(formula l)]) (nd 5 [(formula l), (nd 6 [(nd 9 [(formula l)])])]) _ _ _ _ _ x17 (HA.out.below HB.out) (HR.out.below HB.out) hla hlr Ie.out Ip2.out (HP.out.below HB.out) (kept HB.out HC0.out) (kept HB.out HC1.out) HCK.out HPT.out.ever HPT.out.ever2 (fun t ht => grow_ever _ t ht)).mono ?_
      rintro e x18 ⟨rfl, hb⟩
      have Jf := hide (If.out.below hb)
      clear If
      have If := hide Jf.out
      clear Jf
      have Jg := hide (Ig.out.below hb)
      clear Ig
      have Ig := hide Jg.out
      clear Jg
      have Ju := hide (Iu.out.below hb)
      clear Iu
      have Iu := hide Ju.out
      clear Ju
      have Jr := hide (Ir.out.below hb)
      clear Ir
      have Ir := hide Jr.out
      clear Jr
      have Je := hide (Ie.out.below hb)
      clear Ie
      have Ie := hide Je.out
      clear Je
      have Ja := hide (Ia.out.below hb)
      clear Ia
      have Ia := hide Ja.out
      clear Ja
      have Jn1 := hide (In1.out.below hb)
      clear In1
      have In1 := hide Jn1.out
      clear Jn1
      have Jn2 := hide (In2.out.below hb)
      clear In2
      have In2 := hide Jn2.out
      clear Jn2
      have Jbig := hide (Ibig.out.below hb)
      clear Ibig
      have Ibig := hide Jbig.out
      clear Jbig
      have Jm1 := hide (Im1.out.below hb)
      clear Im1
      have Im1 := hide Jm1.out
      clear Jm1
      have Jm2 := hide (Im2.out.below hb)
      clear Im2
      have Im2 := hide Jm2.out
      clear Jm2
      have Jm3 := hide (Im3.out.below hb)
      clear Im3
      have Im3 := hide Jm3.out
      clear Jm3
      have Jp1 := hide (Ip1.out.below hb)
      clear Ip1
      have Ip1 := hide Jp1.out
      clear Jp1
      have Jp2 := hide (Ip2.out.below hb)
      clear Ip2
      have Ip2 := hide Jp2.out
      clear Jp2
      have JB := hide (then_ HB.out hb)
      clear HB
      have HB := hide JB.out
      clear JB
      clear hb
      go_wp2_with fail
      refine (node1_any 6 (by unfold I64; omega) _ _ x18 Ia.out).mono ?_
      rintro e x19 ⟨b19, rfl, hn, hb⟩
      have Jf := hide (If.out.below hb)
      clear If
      have If := hide Jf.out
      clear Jf
      have Jg := hide (Ig.out.below hb)
      clear Ig
      have Ig := hide Jg.out
      clear Jg
      have Ju := hide (Iu.out.below hb)
      clear Iu
      have Iu := hide Ju.out
      clear Ju
      have Jr := hide (Ir.out.below hb)
      clear Ir
      have Ir := hide Jr.out
      clear Jr
      have Je := hide (Ie.out.below hb)
      clear Ie
      have Ie := hide Je.out
      clear Je
      have Ja := hide (Ia.out.below hb)
      clear Ia
      have Ia := hide Ja.out
      clear Ja
      have Jn1 := hide (In1.out.below hb)
      clear In1
      have In1 := hide Jn1.out
      clear Jn1
      have Jn2 := hide (In2.out.below hb)
      clear In2
      have In2 := hide Jn2.out
      clear Jn2
      have Jbig := hide (Ibig.out.below hb)
      clear Ibig
      have Ibig := hide Jbig.out
      clear Jbig
      have Jm1 := hide (Im1.out.below hb)
      clear Im1
      have Im1 := hide Jm1.out
      clear Jm1
      have Jm2 := hide (Im2.out.below hb)
      clear Im2
      have Im2 := hide Jm2.out
      clear Jm2
      have Jm3 := hide (Im3.out.below hb)
      clear Im3
      have Im3 := hide Jm3.out
      clear Jm3
      have Jp1 := hide (Ip1.out.below hb)
      clear Ip1
      have Ip1 := hide Jp1.out
      clear Jp1
      have Jp2 := hide (Ip2.out.below hb)
      clear Ip2
      have Ip2 := hide Jp2.out
      clear Jp2
      have JB := hide (then_ HB.out hb)
      clear HB
      have HB := hide JB.out
      clear JB
      have Iq1 : Hid (IsF (fun _ => True) x19 (nd 6 [(nd 10 [(formula l)])]) (.pointer (some ⟨b19, 0, none⟩))) := hn
      clear hb hn
      go_wp2_with fail
      refine (node2_any 4 (by unfold I64; omega) _ _ _ _ x19 If.out Iq1.out).mono ?_
      rintro e x20 ⟨b20, rfl, hn, hb⟩
      have Jf := hide (If.out.below hb)
      clear If
      have If := hide Jf.out
      clear Jf
      have Jg := hide (Ig.out.below hb)
      clear Ig
      have Ig := hide Jg.out
      clear Jg
      have Ju := hide (Iu.out.below hb)
      clear Iu
      have Iu := hide Ju.out
      clear Ju
      have Jr := hide (Ir.out.below hb)
      clear Ir
      have Ir := hide Jr.out
      clear Jr
      have Je := hide (Ie.out.below hb)
      clear Ie
      have Ie := hide Je.out
      clear Je
      have Ja := hide (Ia.out.below hb)
      clear Ia
      have Ia := hide Ja.out
      clear Ja
      have Jn1 := hide (In1.out.below hb)
      clear In1
      have In1 := hide Jn1.out
      clear Jn1
      have Jn2 := hide (In2.out.below hb)
      clear In2
      have In2 := hide Jn2.out
      clear Jn2
      have Jbig := hide (Ibig.out.below hb)
      clear Ibig
      have Ibig := hide Jbig.out
      clear Jbig
      have Jm1 := hide (Im1.out.below hb)
      clear Im1
      have Im1 := hide Jm1.out
      clear Jm1
      have Jm2 := hide (Im2.out.below hb)
      clear Im2
      have Im2 := hide Jm2.out
      clear Jm2
      have Jm3 := hide (Im3.out.below hb)
      clear Im3
      have Im3 := hide Jm3.out
      clear Jm3
      have Jp1 := hide (Ip1.out.below hb)
      clear Ip1
      have Ip1 := hide Jp1.out
      clear Jp1
      have Jp2 := hide (Ip2.out.below hb)
      clear Ip2
      have Ip2 := hide Jp2.out
      clear Jp2
      have Jq1 := hide (Iq1.out.below hb)
      clear Iq1
      have Iq1 := hide Jq1.out
      clear Jq1
      have JB := hide (then_ HB.out hb)
      clear HB
      have HB := hide JB.out
      clear JB
      have Iq2 : Hid (IsF (fun _ => True) x20 (nd 4 [(formula l), (nd 6 [(nd 10 [(formula l)])])]) (.pointer (some ⟨b20, 0, none⟩))) := hn
      clear hb hn
      go_wp2_with fail
      refine (same_any A R (nd 10 [(formula l)]) (nd 4 [(formula l), (nd 6 [(nd 10 [(formula l)])])]) _ _ _ _ _ x20 (HA.out.below HB.out) (HR.out.below HB.out) hla hlr Ia.out Iq2.out (HP.out.below HB.out) (kept HB.out HC0.out) (kept HB.out HC1.out) HCK.out HPT.out.always HPT.out.always2 (fun t ht => grow_always _ t ht)).mono ?_
      rintro e x21 ⟨rfl, hb⟩
      have Jf := hide (If.out.below hb)
      clear If
      have If := hide Jf.out
      clear Jf
      have Jg := hide (Ig.out.below hb)
      clear Ig
      have Ig := hide Jg.out
      clear Jg
      have Ju := hide (Iu.out.below hb)
      clear Iu
      have Iu := hide Ju.out
      clear Ju
      have Jr := hide (Ir.out.below hb)
      clear Ir
      have Ir := hide Jr.out
      clear Jr
      have Je := hide (Ie.out.below hb)
      clear Ie
      have Ie := hide Je.out
      clear Je
      have Ja := hide (Ia.out.below hb)
      clear Ia
      have Ia := hide Ja.out
      clear Ja
      have Jn1 := hide (In1.out.below hb)
      clear In1
      have In1 := hide Jn1.out
      clear Jn1
      have Jn2 := hide (In2.out.below hb)
      clear In2
      have In2 := hide Jn2.out
      clear Jn2
      have Jbig := hide (Ibig.out.below hb)
      clear Ibig
      have Ibig := hide Jbig.out
      clear Jbig
      have Jm1 := hide (Im1.out.below hb)
      clear Im1
      have Im1 := hide Jm1.out
      clear Jm1
      have Jm2 := hide (Im2.out.below hb)
      clear Im2
      have Im2 := hide Jm2.out
      clear Jm2
      have Jm3 := hide (Im3.out.below hb)
      clear Im3
      have Im3 := hide Jm3.out
      clear Jm3
      have Jp1 := hide (Ip1.out.below hb)
      clear Ip1
      have Ip1 := hide Jp1.out
      clear Jp1
      have Jp2 := hide (Ip2.out.below hb)
      clear Ip2
      have Ip2 := hide Jp2.out
      clear Jp2
      have Jq1 := hide (Iq1.out.below hb)
      clear Iq1
      have Iq1 := hide Jq1.out
      clear Jq1
      have Jq2 := hide (Iq2.out.below hb)
      clear Iq2
      have Iq2 := hide Jq2.out
      clear Jq2
      have JB := hide (then_ HB.out hb)
      clear HB
      have HB := hide JB.out
      clear JB
      clear hb
      go_wp2_with fail
      refine (node1_any 3 (by unfold I64; omega) _ _ x21 If.out).mono ?_
      rintro e x22 ⟨b22, rfl, hn, hb⟩
      have Jf := hide (If.out.below hb)
      clear If
      have If := hide Jf.out
      clear Jf
      have Jg := hide (Ig.out.below hb)
      clear Ig
      have Ig := hide Jg.out
      clear Jg
      have Ju := hide (Iu.out.below hb)
      clear Iu
      have Iu := hide Ju.out
      clear Ju
      have Jr := hide (Ir.out.below hb)
      clear Ir
      have Ir := hide Jr.out
      clear Jr
      have Je := hide (Ie.out.below hb)
      clear Ie
      have Ie := hide Je.out
      clear Je
      have Ja := hide (Ia.out.below hb)
      clear Ia
      have Ia := hide Ja.out
      clear Ja
      have Jn1 := hide (In1.out.below hb)
      clear In1
      have In1 := hide Jn1.out
      clear Jn1
      have Jn2 := hide (In2.out.below hb)
      clear In2
      have In2 := hide Jn2.out
      clear Jn2
      have Jbig := hide (Ibig.out.below hb)
      clear Ibig
      have Ibig := hide Jbig.out
      clear Jbig
      have Jm1 := hide (Im1.out.below hb)
      clear Im1
      have Im1 := hide Jm1.out
      clear Jm1
      have Jm2 := hide (Im2.out.below hb)
      clear Im2
      have Im2 := hide Jm2.out
      clear Jm2
      have Jm3 := hide (Im3.out.below hb)
      clear Im3
      have Im3 := hide Jm3.out
      clear Jm3
      have Jp1 := hide (Ip1.out.below hb)
      clear Ip1
      have Ip1 := hide Jp1.out
      clear Jp1
      have Jp2 := hide (Ip2.out.below hb)
      clear Ip2
      have Ip2 := hide Jp2.out
      clear Jp2
      have Jq1 := hide (Iq1.out.below hb)
      clear Iq1
      have Iq1 := hide Jq1.out
      clear Jq1
      have Jq2 := hide (Iq2.out.below hb)
      clear Iq2
      have Iq2 := hide Jq2.out
      clear Jq2
      have JB := hide (then_ HB.out hb)
      clear HB
      have HB := hide JB.out
      clear JB
      have Is1 : Hid (IsF (fun _ => True) x22 (nd 3 [(formula l)]) (.pointer (some ⟨b22, 0, none⟩))) := hn
      clear hb hn
      go_wp2_with fail
      refine (node1_any 9 (by unfold I64; omega) _ _ x22 Is1.out).mono ?_
      rintro e x23 ⟨b23, rfl, hn, hb⟩
      have Jf := hide (If.out.below hb)
      clear If
      have If := hide Jf.out
      clear Jf
      have Jg := hide (Ig.out.below hb)
      clear Ig
      have Ig := hide Jg.out
      clear Jg
      have Ju := hide (Iu.out.below hb)
      clear Iu
      have Iu := hide Ju.out
      clear Ju
      have Jr := hide (Ir.out.below hb)
      clear Ir
      have Ir := hide Jr.out
      clear Jr
      have Je := hide (Ie.out.below hb)
      clear Ie
      have Ie := hide Je.out
      clear Je
      have Ja := hide (Ia.out.below hb)
      clear Ia
      have Ia := hide Ja.out
      clear Ja
      have Jn1 := hide (In1.out.below hb)
      clear In1
      have In1 := hide Jn1.out
      clear Jn1
      have Jn2 := hide (In2.out.below hb)
      clear In2
      have In2 := hide Jn2.out
      clear Jn2
      have Jbig := hide (Ibig.out.below hb)
      clear Ibig
      have Ibig := hide Jbig.out
      clear Jbig
      have Jm1 := hide (Im1.out.below hb)
      clear Im1
      have Im1 := hide Jm1.out
      clear Jm1
      have Jm2 := hide (Im2.out.below hb)
      clear Im2
      have Im2 := hide Jm2.out
      clear Jm2
      have Jm3 := hide (Im3.out.below hb)
      clear Im3
      have Im3 := hide Jm3.out
      clear Jm3
      have Jp1 := hide (Ip1.out.below hb)
      clear Ip1
      have Ip1 := hide Jp1.out
      clear Jp1
      have Jp2 := hide (Ip2.out.below hb)
      clear Ip2
      have Ip2 := hide Jp2.out
      clear Jp2
      have Jq1 := hide (Iq1.out.below hb)
      clear Iq1
      have Iq1 := hide Jq1.out
      clear Jq1
      have Jq2 := hide (Iq2.out.below hb)
      clear Iq2
      have Iq2 := hide Jq2.out
      clear Jq2
      have Js1 := hide (Is1.out.below hb)
      clear Is1
      have Is1 := hide Js1.out
      clear Js1
      have JB := hide (then_ HB.out hb)
      clear HB
      have HB := hide JB.out
      clear JB
      have Is2 : Hid (IsF (fun _ => True) x23 (nd 9 [(nd 3 [(formula l)])]) (.pointer (some ⟨b23, 0, none⟩))) := hn
      clear hb hn
      go_wp2_with fail
      refine (node1_any 3 (by unfold I64; omega) _ _ x23 Is2.out).mono ?_
      rintro e x24 ⟨b24, rfl, hn, hb⟩
      have Jf := hide (If.out.below hb)
      clear If
      have If := hide Jf.out
      clear Jf
      have Jg := hide (Ig.out.below hb)
      clear Ig
      have Ig := hide Jg.out
      clear Jg
      have Ju := hide (Iu.out.below hb)
      clear Iu
      have Iu := hide Ju.out
      clear Ju
      have Jr := hide (Ir.out.below hb)
      clear Ir
      have Ir := hide Jr.out
      clear Jr
      have Je := hide (Ie.out.below hb)
      clear Ie
      have Ie := hide Je.out
      clear Je
      have Ja := hide (Ia.out.below hb)
      clear Ia
      have Ia := hide Ja.out
      clear Ja
      have Jn1 := hide (In1.out.below hb)
      clear In1
      have In1 := hide Jn1.out
      clear Jn1
      have Jn2 := hide (In2.out.below hb)
      clear In2
      have In2 := hide Jn2.out
      clear Jn2
      have Jbig := hide (Ibig.out.below hb)
      clear Ibig
      have Ibig := hide Jbig.out
      clear Jbig
      have Jm1 := hide (Im1.out.below hb)
      clear Im1
      have Im1 := hide Jm1.out
      clear Jm1
      have Jm2 := hide (Im2.out.below hb)
      clear Im2
      have Im2 := hide Jm2.out
      clear Jm2
      have Jm3 := hide (Im3.out.below hb)
      clear Im3
      have Im3 := hide Jm3.out
      clear Jm3
      have Jp1 := hide (Ip1.out.below hb)
      clear Ip1
      have Ip1 := hide Jp1.out
      clear Jp1
      have Jp2 := hide (Ip2.out.below hb)
      clear Ip2
      have Ip2 := hide Jp2.out
      clear Jp2
      have Jq1 := hide (Iq1.out.below hb)
      clear Iq1
      have Iq1 := hide Jq1.out
      clear Jq1
      have Jq2 := hide (Iq2.out.below hb)
      clear Iq2
      have Iq2 := hide Jq2.out
      clear Jq2
      have Js1 := hide (Is1.out.below hb)
      clear Is1
      have Is1 := hide Js1.out
      clear Js1
      have Js2 := hide (Is2.out.below hb)
      clear Is2
      have Is2 := hide Js2.out
      clear Js2
      have JB := hide (then_ HB.out hb)
      clear HB
      have HB := hide JB.out
      clear JB
      have Is3 : Hid (IsF (fun _ => True) x24 (nd 3 [(nd 9 [(nd 3 [(formula l)])])]) (.pointer (some ⟨b24, 0, none⟩))) := hn
      clear hb hn
      go_wp2_with fail
      refine (same_any A R (nd 10 [(formula l)]) (nd 3 [(nd 9 [(nd 3 [(formula l)])])]) _ _ _ _ _ x24 (HA.out.below HB.out) (HR.out.below HB.out) hla hlr Ia.out Is3.out (HP.out.below HB.out) (kept HB.out HC0.out) (kept HB.out HC1.out) HCK.out HPT.out.always HPT.out.always3 (fun t ht => grow_dual _ t)).mono ?_
      rintro e x25 ⟨rfl, hb⟩
      have Jf := hide (If.out.below hb)
      clear If
      have If := hide Jf.out
      clear Jf
      have Jg := hide (Ig.out.below hb)
      clear Ig
      have Ig := hide Jg.out
      clear Jg
      have Ju := hide (Iu.out.below hb)
      clear Iu
      have Iu := hide Ju.out
      clear Ju
      have Jr := hide (Ir.out.below hb)
      clear Ir
      have Ir := hide Jr.out
      clear Jr
      have Je := hide (Ie.out.below hb)
      clear Ie
      have Ie := hide Je.out
      clear Je
      have Ja := hide (Ia.out.below hb)
      clear Ia
      have Ia := hide Ja.out
      clear Ja
      have Jn1 := hide (In1.out.below hb)
      clear In1
      have In1 := hide Jn1.out
      clear Jn1
      have Jn2 := hide (In2.out.below hb)
      clear In2
      have In2 := hide Jn2.out
      clear Jn2
      have Jbig := hide (Ibig.out.below hb)
      clear Ibig
      have Ibig := hide Jbig.out
      clear Jbig
      have Jm1 := hide (Im1.out.below hb)
      clear Im1
      have Im1 := hide Jm1.out
      clear Jm1
      have Jm2 := hide (Im2.out.below hb)
      clear Im2
      have Im2 := hide Jm2.out
      clear Jm2
      have Jm3 := hide (Im3.out.below hb)
      clear Im3
      have Im3 := hide Jm3.out
      clear Jm3
      have Jp1 := hide (Ip1.out.below hb)
      clear Ip1
      have Ip1 := hide Jp1.out
      clear Jp1
      have Jp2 := hide (Ip2.out.below hb)
      clear Ip2
      have Ip2 := hide Jp2.out
      clear Jp2
      have Jq1 := hide (Iq1.out.below hb)
      clear Iq1
      have Iq1 := hide Jq1.out
      clear Jq1
      have Jq2 := hide (Iq2.out.below hb)
      clear Iq2
      have Iq2 := hide Jq2.out
      clear Jq2
      have Js1 := hide (Is1.out.below hb)
      clear Is1
      have Is1 := hide Js1.out
      clear Js1
      have Js2 := hide (Is2.out.below hb)
      clear Is2
      have Is2 := hide Js2.out
      clear Js2
      have Js3 := hide (Is3.out.below hb)
      clear Is3
      have Is3 := hide Js3.out
      clear Js3
      have JB := hide (then_ HB.out hb)
      clear HB
      have HB := hide JB.out
      clear JB
      clear hb
      have HBZ := hide (then_ HBW.out HB.out)
      go_wp2_with fail
      go_ret
      exact ⟨rfl, HBZ.out⟩
end Ls
end Go.Proofs.YtdkfbnokbjliiaaDoor
