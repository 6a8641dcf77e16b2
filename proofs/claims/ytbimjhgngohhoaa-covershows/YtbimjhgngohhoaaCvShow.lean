/-
  The walks of what CoverShows leans on: the closure that tells what the expression says of values, and pick.
-/
import Derived.Test.YtbimjhgngohhoaaCvPairs
import Derived.Test.YtbimjhgngohhoaaKeAmong
import Derived.Test.YtbimjhgngohhoaaNdMath
namespace Go.Proofs.Ytbimjhgngohhoaa
namespace Cv
open Go.RowKit
theorem ordered_nodup (ns : List (List UInt8)) : (ordered ns).Nodup := (ordered_sorted ns).imp fun h e => by
  subst e
  exact absurd h (List.lt_irrefl _)
theorem pick_any (x : Int) (I : Nat) (w : World) (h1 : 1 ≤ I) (h2 : I ≤ 100000) :
    Calls Try.prog 11 #[.int .i64 x, .int .i64 (I : Int)] w fun e w' => e = .returned (.int .i64 (x % 18446744073709551616 % (I : Int))) ∧ w' = w := by
  go_enter Try.func11, Try.ntmps11
  go_wp2_with fail
  refine bodyPost_ret (results_tmp rfl _ _ _) rfl ⟨?_, rfl⟩
  have e1 : IntKind.u64.wrap x = x % 18446744073709551616 := IntKind.wrap_u64 x
  have h3 : 0 ≤ x % 18446744073709551616 := Int.emod_nonneg _ (by decide)
  have h4 : 0 ≤ x % 18446744073709551616 % (I : Int) := Int.emod_nonneg _ (by omega)
  have h5 : x % 18446744073709551616 % (I : Int) < (I : Int) := Int.emod_lt_of_pos _ (by omega)
  have e2 : wrap64 (x % 18446744073709551616 % (I : Int)) = x % 18446744073709551616 % (I : Int) := by unfold wrap64; omega
  rw [e1, Int.tmod_eq_emod_of_nonneg h3, e2]
  rfl
theorem infoS : (Try.prog.info? 9).map (fun i => (i.zero, i.size, i.bytes)) = some (some (.string ⟨#[]⟩), 1, 16) := by kernel_rfl
theorem own_slice {W : World} {q : Nat} {e : TypeId} {s : Nat} {v : Value} {n : Nat} {xs : List Value} (h : W.ownsRow q e s v n xs) : ∃ a c, v = .slice a n c := by
  rcases h.2 with ⟨hv, h0⟩ | ⟨g, cap, cur, hv, _⟩
  · exact ⟨_, _, by rw [hv, h0]⟩
  · exact ⟨_, _, hv⟩
def strV (l : List UInt8) : Value := .string ⟨l.toArray⟩
theorem strs_own {w : World} {B : Nat} {v : Value} {ss : List (List UInt8)} (h : w.ownsRow B 9 1 v ss.length (ss.map strV)) (hl : ss.length ≤ 1000000) : Strs w v (ss.map fun l => (⟨l.toArray⟩ : ByteArray)) := by
  have hown := h
  rcases h.2 with ⟨hv, h0⟩ | ⟨g, cap, cur, hv, hbg, hg, hnc, hcm, hcs, htake⟩
  · exact .inl ⟨by rw [List.length_eq_zero_iff.1 h0]; rfl, none, 0, by rw [hv]⟩
  · refine .inr ⟨g, 0, cap, by rw [hv, List.length_map], by rw [List.length_map]; exact hnc, by rw [List.length_map]; exact hl, fun k s hs => ?_⟩
    rw [List.getElem?_map] at hs
    cases hk : ss[k]? with
    | none => rw [hk] at hs; simp at hs
    | some l =>
      rw [hk] at hs
      simp only [Option.map_some, Option.some.injEq] at hs
      have := hown.cells (g := g) (by rw [hv]; rfl) k (strV l) (by rw [List.getElem?_map, hk]; rfl)
      rw [Nat.zero_add, ← hs]
      cases k <;> simpa [Addr.add, strV] using this
theorem drewB (w : World) : Below w.heap.size w w.drew := ⟨rfl, rfl, rfl, Nat.le_refl _, fun _ _ => rfl⟩
set_option maxHeartbeats 4000000 in
set_option maxRecDepth 100000 in
theorem shows1_any (x : Ex) (ev : Value) (N : List (List UInt8)) (hn8 : N.length ≤ 8) (hnd : N.Nodup) (sv : Value) (bn be v : Nat) (w : World) (hx : IsEx (fun _ => True) w x ev) (hs : Strs w sv (N.map fun l => (⟨l.toArray⟩ : ByteArray)))
    (cn : w.cell? ⟨bn, 0, none⟩ = some sv) (ce : w.cell? ⟨be, 0, none⟩ = some ev) :
    Calls Try.prog 8 #[.int .u64 (v : Int), .pointer (some ⟨bn, 0, none⟩), .pointer (some ⟨be, 0, none⟩)] w fun e w' => e = .returned (.bool (sayV x N v)) ∧ Below w.heap.size w w' := by
  obtain ⟨i0, hi0, hz0, hz1, hz2⟩ := info_parts infoS
  have HS := hide hs
  have HX := hide hx
  have HSAY : Hid (x.eval (amongB ((sel N v N.length).map fun l => (⟨l.toArray⟩ : ByteArray))) (amongB ((sel N v N.length).map fun l => (⟨l.toArray⟩ : ByteArray))) = sayV x N v) := by
    show _ = _
    rw [among_sel N hnd v]
    rfl
  obtain ⟨t, y, rfl⟩ := IsEx.iface x ev hx
  obtain ⟨a, c, rfl, _, _⟩ := strs_slice hs
  rw [List.length_map] at cn HS
  obtain ⟨n, hn⟩ : ∃ n, n = N.length := ⟨_, rfl⟩
  have HN := hide hn
  have HCN := hide cn
  have HCE := hide ce
  rw [← hn] at cn HS hn8 HSAY HCN
  clear hs hx hn hnd
  generalize sayV x N v = R at *
  go_enter Try.func8, Try.ntmps8
  go_wp2_with fail
  go_loopw [5, 6] (fun pv i wr => ∃ k : Nat, ∃ a c, k ≤ n ∧ i = .int .i64 (k : Int) ∧ pv = .slice a (sel N v k).length c ∧ Hid (wr.ownsRow w.heap.size 9 1 (.slice a (sel N v k).length c) (sel N v k).length ((sel N v k).map strV)) ∧ Hid (Below w.heap.size w wr)) (fun _ i _ => n - (intOf i).toNat)
  case atStart => exact ⟨0, none, 0, Nat.zero_le _, rfl, rfl, World.ownsRow_nil _ _ _ _, Below.refl _ _⟩
  case round =>
    obtain ⟨k, pa, pc, hk, rfl, rfl, HO, HB⟩ := hrel
    have hpl := sel_le N v k
    have cn1 := (HB.out.cell (World.block_lt_of_cell? _ _ HCN.out)).trans HCN.out
    have ce1 := (HB.out.cell (World.block_lt_of_cell? _ _ HCE.out)).trans HCE.out
    clear cn ce
    by_cases hlt : k < n
    · have hkl : k < N.length := by rw [← HN.out]; exact hlt
      have hcl : ∃ g o, a = some ⟨g, o, none⟩ ∧ wr.cell? ⟨g, o + k, none⟩ = some (.string ⟨N[k].toArray⟩) := by
        rcases HS.out.below HB.out with ⟨h0, _⟩ | ⟨g, o, cap, hv, hcap, _, hc⟩
        · simp only [List.map_eq_nil_iff] at h0
          rw [h0] at hkl; simp at hkl
        · have := hc k (⟨N[k].toArray⟩ : ByteArray) (by rw [List.getElem?_map, List.getElem?_eq_getElem hkl]; rfl)
          simp only [Value.slice.injEq] at hv
          exact ⟨g, o, hv.1, this⟩
      obtain ⟨gn, on, rfl, c0⟩ := hcl
      have hcap : n ≤ c := by
        rcases HS.out with ⟨h0, _⟩ | ⟨g, o, cap, hv, hcap, _, hc⟩
        · simp only [List.map_eq_nil_iff] at h0
          rw [h0] at hkl; simp at hkl
        · simp only [Value.slice.injEq, List.length_map] at hv hcap
          omega
      have hbit := bit_is .u64 (.inr rfl) v k
      have HSU := hide (sel_succ N v k hkl)
      generalize N[k] = nm at *
      generalize sel N v k = P at *
      generalize hP2 : sel N v (k + 1) = P2 at *
      have HQ : Hid (∀ (W : World) a c, W.ownsRow w.heap.size 9 1 (.slice a P2.length c) P2.length (P2.map strV) → Hid (W.ownsRow w.heap.size 9 1 (.slice a (sel N v (k + 1)).length c) (sel N v (k + 1)).length ((sel N v (k + 1)).map strV))) := fun W a c h => by rw [hP2]; exact h
      have HQ2 := hide hP2
      clear hP2
      cases hb : v.testBit k with
      | false =>
        rw [hb] at hbit HSU
        obtain rfl : P2 = P := by have := HSU.out; simpa using this
        clear hb
        go_wp2_with fail
        go_roundw
        case rel => exact ⟨k + 1, pa, pc, by omega, by go_num, by rw [HQ2.out], HQ.out _ _ _ HO.out, HB.out⟩
        case measure => simp [intOf]; omega
      | true =>
        rw [hb] at hbit HSU
        clear hb
        have HP2 : Hid (P2 = P ++ [nm]) := by show _ = _; have := HSU.out; simpa using this
        have HOWN : Hid (∀ o, (wr.alloc o).ownsRow w.heap.size 9 1 (.slice pa P.length pc) P.length (P.map strV)) := fun o => HO.out.alloc o
        have HONE : Hid (∀ z ∈ [strV nm], z.oneCell' = true) := by
          intro z hz
          simp only [List.mem_cons, List.not_mem_nil, or_false] at hz
          subst hz; rfl
        have HFIN : Hid (∀ (o : Obj) (g cap : Nat) (wC : World), wC.ownsRow w.heap.size 9 1 (.slice (some ⟨g, 0, none⟩) (P.length + 1) cap) (P.length + 1) (P.map strV ++ [strV nm]) → (wr.alloc o).grownBy wC (Value.slice pa P.length pc).ownBlock →
            wC.ownsRow w.heap.size 9 1 (.slice (some ⟨g, 0, none⟩) P2.length cap) P2.length (P2.map strV) ∧ Below w.heap.size w wC) := fun o g cap wC h1 h2 =>
          ⟨by rw [HP2.out, List.map_append, List.length_append]; simpa using h1, (HB.out.alloc HB.out.size o).grown h2 (by have := HB.out.size; simp; omega) (fun k e => (HO.out.lt k e).1)⟩
        have HL2 : Hid (P.length + 1 = P2.length) := by show _ = _; rw [HP2.out]; simp
        have hzr := HB.out.size
        have c0' : ∀ ob, (wr.alloc ob).cell? ⟨gn, on + k, none⟩ = some (.string ⟨nm.toArray⟩) := fun ob => by rw [World.cell?_alloc_old _ _ _ (Nat.ne_of_lt (World.block_lt_of_cell? _ _ c0))]; exact c0
        clear HSU HP2
        unfold strV at HONE HFIN
        generalize P.length = L at *
        go_wp2_with (at_builtin; refine wpList_append_lies _ rfl (.tmp 18) (.tmp 23) 33 rfl w.heap.size 9 i0 _ 1 16 Try.underlying33 hi0 hz0 hz1 hz2 rfl (by decide) (.slice pa L pc) L (P.map strV) rfl (HOWN.out _) ⟨wr.heap.size, 0, none⟩ 1 1 [.string ⟨nm.toArray⟩] rfl rfl (World.news_of_block (heap_alloc_new wr _)) (HONE.out) (by decide) (by unfold maxLen; omega) (by omega) (by simp; omega) (wr.heap.size + 1) (by simp) ?_; intro g2 cap2 wC hown hgrow hat hltg; obtain ⟨hoC, hbC⟩ := HFIN.out _ g2 cap2 wC hown hgrow; have HOC := hide hoC; have HBC := hide hbC; clear hoC hbC hown hgrow hat)
        go_roundw
        case rel => exact ⟨k + 1, some ⟨g2, 0, none⟩, cap2, by omega, by go_num, by rw [HQ2.out, ← HL2.out], HQ.out _ _ _ HOC.out, HBC.out⟩
        case measure => simp [intOf]; omega
    · have hkn : k = n := by omega
      subst hkn
      have HSS := hide (strs_own HO.out (by omega))
      have HD := hide (drewB wr)
      have HXE : Hid (∀ W f1 f2 (p : List UInt8 → Bool), Below wr.heap.size wr W → Tells f1 p W → Tells f2 p W → Calls Try.prog 9 #[.iface t y, f1, f2] W fun e w' => e = .returned (.bool (x.eval p p)) ∧ Below W.heap.size W w') := fun W f1 f2 p hW h1 h2 =>
        Eval_any (fun _ => True) x _ f1 f2 p p W (IsEx.stay (Stay.below (HB.out.trans (hW.mono HB.out.size))) (fun g hg => hg) x _ HX.out) h1 h2
      have HKE : Hid (∀ W, Below wr.heap.size wr W → W.cell? ⟨be, 0, none⟩ = some (.iface t y)) := fun W hW => (hW.cell (World.block_lt_of_cell? _ _ ce1)).trans ce1
      have HAM := hide (fun W (hW : Below wr.heap.size wr W) => among_any _ _ W (HSS.out.below hW))
      generalize sel N v k = P at *
      generalize P.length = L at *
      clear hpl hk hlt
      go_upto_region 7 with fail
      go_region_held3 (fun W => W.cell? ⟨be, 0, none⟩ = some (.iface t y)) ((refine HKE.out _ ?_; first | exact HD.out | exact HB2.out | exact HB3.out | exact HB4.out | exact Below.refl _ _)) ((first
        | (go_at_call 10; (with_reducible refine (HAM.out _ HD.out).mono ?_); rintro e w2 ⟨f2, rfl, ht2, hb2⟩; have HB2 : Hid (Below wr.heap.size wr w2) := HD.out.trans hb2; have HT2 := hide ht2; obtain ⟨K2, c2, hf2, _, _⟩ := ht2; subst hf2; clear hb2)
        | (go_at_call 10; (with_reducible refine (HAM.out _ HB2.out).mono ?_); rintro e w3 ⟨f3, rfl, ht3, hb3⟩; have HB3 : Hid (Below wr.heap.size wr w3) := HB2.out.trans (hb3.mono HB2.out.size); have HT3 := hide ht3; have HT2b := hide (HT2.out.below hb3); obtain ⟨K3, c3, hf3, _, _⟩ := ht3; subst hf3; clear hb3)
        | (go_at_call 9; (with_reducible refine (HXE.out _ _ _ _ HB3.out HT2b.out HT3.out).mono ?_); rintro e w4 ⟨rfl, hb4⟩; have HB4 : Hid (Below wr.heap.size wr w4) := HB3.out.trans (hb4.mono HB3.out.size); clear hb4)))
      all_goals
        rw [HSAY.out]
        go_wp2_with fail
        go_ret
        exact ⟨rfl, HB.out.trans (HB4.out.mono HB.out.size)⟩
end Cv
end Go.Proofs.Ytbimjhgngohhoaa
