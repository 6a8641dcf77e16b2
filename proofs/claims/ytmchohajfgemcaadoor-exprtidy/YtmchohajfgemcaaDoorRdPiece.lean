/-
  The walks of the reader's deeper, not, inParentheses and piece, and of Parse.
-/
import Derived.Test.YtmchohajfgemcaaDoorRdWhole
namespace Go.Proofs.YtmchohajfgemcaaDoor
open Go.RowKit
theorem Stay.setCell {ok : Nat → Prop} {w : World} (p : Addr) (u : Value) (h : ∀ g, ok g → g ≠ p.block) : Stay ok w (w.setCell p u) := fun g i x hg hc => by
  rw [World.cell?_setCell_other w _ _ _ (fun e => h g hg (by rw [e]))]; exact hc
/-- what was read, one deeper, is what was read -/
theorem Read.up {b : Nat} {s : ByteArray} {d : Nat} {w w1 w' : World} {r : Ex.Res Ex} {e : Ending} (hk : Keep b w w1) (hb : b < w.heap.size) (h : Read b s (d + 1) w1 r e w') : Read b s d w r e (w'.setCell ⟨b, 2, none⟩ (.int .i64 (d : Int))) := by
  obtain ⟨h1, h2⟩ := h
  refine ⟨(hk.trans h1).setCell rfl _, ?_⟩
  match r, h2 with
  | .inl (err, p), ⟨v, i, he, herr, hrd⟩ => exact ⟨v, i, he, herr.stay (Stay.setCell _ _ fun g hg => hg), hrd.set2 d⟩
  | .inr (x, m), ⟨v, he, hx, hrd⟩ =>
    refine ⟨v, he, IsEx.stay (Stay.setCell _ _ fun g hg e => ?_) (fun g hg => Nat.le_trans hk.size hg) x v hx, hrd.set2 d⟩
    have := hk.size
    simp only at e
    omega
theorem Read.cells {b : Nat} {s : ByteArray} {d : Nat} {w w' : World} {r : Ex.Res Ex} {e : Ending} (h : Read b s d w r e w') : ∃ v0 v1 i, e = .returned (.tuple #[v0, v1]) ∧ Rd b s i d w' := by
  obtain ⟨_, h2⟩ := h
  match r, h2 with
  | .inl (err, p), ⟨v, i, he, herr, hrd⟩ => exact ⟨_, _, i, he, hrd⟩
  | .inr (x, m), ⟨v, he, hx, hrd⟩ => exact ⟨_, _, m, he, hrd⟩
set_option maxHeartbeats 1000000 in
theorem deeper_any (K : Nat) (hent : Entered K) (b : Nat) (s : ByteArray) (i d : Nat) (R : Nat → Ex.Res Ex) (hR : Reads K s (d + 1) R) (w : World) (h : Rd b s i d w) (hi : i < s.size) (hs : s.size ≤ 2000) (hd : d ≤ 20) :
    Calls Tryd.prog 73 #[.pointer (some ⟨b, 0, none⟩), .func (.func K) #[.pointer (some ⟨b, 0, none⟩)] #[]] w (Read b s d w (R (i + 1))) := by
  have hent' : ∀ (args : Array Value) (w : World), (callFunc K args).run Tryd.prog w = .ok (.enter K args) w := hent
  have hr1 := (h.set1 (i + 1)).set2 (d + 1)
  have HC := hide (hR b (i + 1) _ hr1 (by omega))
  have HK : Hid (Keep b w ((w.setCell ⟨b, 1, none⟩ (.int .i64 ((i + 1 : Nat) : Int))).setCell ⟨b, 2, none⟩ (.int .i64 ((d + 1 : Nat) : Int)))) := ((Keep.refl b w).setCell (p := ⟨b, 1, none⟩) rfl _).setCell (p := ⟨b, 2, none⟩) rfl _
  have HB := hide h.lt
  have ei : ((i + 1 : Nat) : Int) = (i : Int) + 1 := by omega
  have ed : ((d + 1 : Nat) : Int) = (d : Int) + 1 := by omega
  rw [ei, ed] at HC HK
  obtain ⟨c0, c1, c2, f1, f2⟩ := h
  clear hr1 hR hent ei ed
  go_enter Tryd.func73, Tryd.ntmps73
  go_wp2_with fail
  refine HC.out.mono ?_
  intro e w1 hq
  have HQ := hide (Read.up HK.out HB.out hq)
  obtain ⟨v0, v1, i', he, hrd⟩ := hq.cells
  rw [he] at HQ
  rw [he]
  clear hq he c0 c1 c2 f1 f2 HC
  obtain ⟨c0, c1, c2, f1, f2⟩ := hrd
  go_wp2_with fail
  go_ret2
  have e2 : (d : Int) + 1 - 1 = (d : Int) := by omega
  first | exact HQ.out | (rw [e2]; exact HQ.out) | (simp only [e2]; exact HQ.out)
set_option maxHeartbeats 1000000 in
theorem not_any (b : Nat) (s : ByteArray) (i d : Nat) (R : Nat → Ex.Res Ex) (hR : Reads 47 s (d + 1) R) (w : World) (h : Rd b s i d w) (hi : i < s.size) (hs : s.size ≤ 2000) (hd : d ≤ 20) :
    Calls Tryd.prog 57 #[.pointer (some ⟨b, 0, none⟩)] w (Read b s d w (Ex.notP (R (i + 1)))) := by
  have hmf : ∀ (fn : Fn) (first cap : Array Value) (w : World), (Instr.makeFunc fn first cap).run Tryd.prog w = .ok (.func fn first cap) w := fun _ _ _ _ => rfl
  have HC := hide (deeper_any 47 entered_piece b s i d R hR w h hi hs hd)
  generalize R (i + 1) = r at *
  clear hR h
  go_enter Tryd.func57, Tryd.ntmps57
  go_wp2_with fail
  refine HC.out.mono ?_
  intro e w1 hq
  clear HC
  match r, hq with
  | .inl (err, p), hq =>
    obtain ⟨hk, v, i', rfl, herr, hrd⟩ := hq
    have HE := hide herr
    have HD := hide hrd
    have HK := hide hk
    obtain ⟨a, ha, hv, hc0, hc1⟩ := herr
    clear hrd hk ha hc0 hc1
    rw [hv] at HE
    rw [hv]
    clear hv
    go_wp2_with fail
    go_ret2
    exact ⟨HK.out, _, i', rfl, HE.out, HD.out⟩
  | .inr (x, m), hq =>
    obtain ⟨hk, u, rfl, hx, hrd⟩ := hq
    have HX : Hid (IsEx (fun g => w.heap.size ≤ g) w1 ⟨5, [], [x]⟩ (.iface 92 (.agg #[u]))) := by
      show IsEx _ _ _ _
      simp only [IsEx]
      exact ⟨trivial, rfl, u, rfl, fun P hP => by simp at hP; rw [← hP]; exact hx⟩
    have HD := hide hrd
    have HK := hide hk
    obtain ⟨tu, yu, hu⟩ := IsEx.iface x u hx
    clear hrd hk hx
    subst hu
    go_wp2_with fail
    go_ret2
    exact ⟨HK.out, _, rfl, HX.out, HD.out⟩
set_option maxHeartbeats 1000000 in
theorem par_any (b : Nat) (s : ByteArray) (i d : Nat) (R : Nat → Ex.Res Ex) (hR : Reads 19 s (d + 1) R) (hadv : Ex.Adv s.data.toList R) (w : World) (h : Rd b s i d w) (hi : i < s.size) (hs : s.size ≤ 2000) (hd : d ≤ 20) :
    Calls Tryd.prog 58 #[.pointer (some ⟨b, 0, none⟩)] w (Read b s d w (Ex.parP s.data.toList (R (i + 1)))) := by
  have hmf : ∀ (fn : Fn) (first cap : Array Value) (w : World), (Instr.makeFunc fn first cap).run Tryd.prog w = .ok (.func fn first cap) w := fun _ _ _ _ => rfl
  have HC := hide (deeper_any 19 entered_whole b s i d R hR w h hi hs hd)
  have HL : Hid (s.data.toList.length = s.size) := by show _ = _; simp
  have HADV : Hid (∀ x m, R (i + 1) = .inr (x, m) → m ≤ s.size) := fun x m hx => by have := (hadv (i + 1) x m (by rw [HL.out]; omega) hx).2; rw [HL.out] at this; exact this
  have HB := hide h.lt
  generalize R (i + 1) = r at *
  clear hR h hadv
  go_enter Tryd.func58, Tryd.ntmps58
  go_wp2_with fail
  refine HC.out.mono ?_
  intro e w1 hq
  clear HC
  match r, hq, HADV with
  | .inl (err, p), hq, _ =>
    obtain ⟨hk, v, i', rfl, herr, hrd⟩ := hq
    have HE := hide herr
    have HD := hide hrd
    have HK := hide hk
    obtain ⟨a, ha, hv, hc0, hc1⟩ := herr
    clear hrd hk ha hc0 hc1
    rw [hv] at HE
    rw [hv]
    clear hv
    go_wp2_with fail
    go_ret2
    exact ⟨HK.out, _, i', rfl, HE.out, HD.out⟩
  | .inr (x, m), hq, HADV =>
    obtain ⟨hk, u, rfl, hx, hrd⟩ := hq
    have hm := HADV.out x m rfl
    have HX := hide hx
    have HK := hide hk
    have hge := Ex.skip_ge s.data.toList m
    have hle := Ex.skip_le s.data.toList m (by rw [HL.out]; omega)
    rw [HL.out] at hle
    have HS := hide (sign_any b s m d w1 hrd hm hs)
    have HP : Hid (Ex.parP s.data.toList (.inr (x, m)) = if Ex.sg s.data.toList (Ex.skip s.data.toList m) = 41 then .inr (x, Ex.skip s.data.toList m + 1) else .inl (3, Ex.skip s.data.toList m)) := rfl
    have HLT : Hid (Ex.sg s.data.toList (Ex.skip s.data.toList m) = 41 → Ex.skip s.data.toList m < s.size) := fun hc => by have := Ex.sg_lt s.data.toList _ (by rw [hc]; decide); rw [HL.out] at this; exact this
    obtain ⟨tu, yu, hu⟩ := IsEx.iface x u hx
    clear hrd hk hx HADV
    subst hu
    generalize Ex.skip s.data.toList m = q at *
    generalize Ex.sg s.data.toList q = c at *
    go_wp2_with fail
    refine HS.out.mono ?_
    rintro e w2 ⟨rfl, hr2, hk2⟩
    have HK2 := hide hk2
    have HR2 := hide hr2
    obtain ⟨c0, c1, c2, f1, f2⟩ := hr2
    clear hk2 HS
    by_cases hc : c = 41
    · have e1 : ((c : Int) != 41) = false := by rw [hc]; rfl
      have hq := HLT.out hc
      have HF : Hid (Ex.parP s.data.toList (.inr (x, m)) = .inr (x, q + 1)) := by show _ = _; rw [HP.out, if_pos hc]
      clear hc HP HLT
      go_wp2_with fail
      go_ret2
      rw [HF.out]
      have HX2 := IsEx.stay (Stay.keep HK2.out fun g hg e => by have := HB.out; omega) (fun g hg => hg) x _ HX.out
      refine ⟨(HK.out.trans HK2.out).setCell rfl _, _, rfl, IsEx.stay (Stay.setCell _ _ fun g hg e => ?_) (fun g hg => hg) x _ HX2, HR2.out.set1 (q + 1)⟩
      have := HB.out
      simp only at e
      omega
    · have e1 : ((c : Int) != 41) = true := by simp; omega
      have HF : Hid (Ex.parP s.data.toList (.inr (x, m)) = .inl (3, q)) := by show _ = _; rw [HP.out, if_neg hc]
      clear hc HP HLT
      go_wp2_with fail
      refine (wrong_any b s q d 3 w2 HR2.out).mono ?_
      rintro e w3 ⟨rfl, rfl⟩
      go_wp2_with fail
      go_ret2
      rw [HF.out]
      refine ⟨(HK.out.trans HK2.out).alloc _, _, q, rfl, ⟨w2.heap.size, by have := HR2.out.lt; omega, rfl, ?_, ?_⟩, HR2.out.below ((Below.refl _ _).alloc (Nat.le_refl _) _)⟩
      · simp [World.cell?_alloc_at]
      · simp [World.cell?_alloc_at]
end Go.Proofs.YtmchohajfgemcaaDoor
