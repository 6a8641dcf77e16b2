/-
  The walks of the reader's part and whole. The walks of the reader's deeper, not, inParentheses and piece, and of Parse. The walks of the reader's piece, by how deep it may still go, and of Parse.
-/
import Derived.Test.YtkpfahbodlfpiaaGreatDoorRdListAll
namespace Go.Proofs.YtkpfahbodlfpiaaGreatDoor
open Go.RowKit
namespace LS
variable {b : Nat} {s : ByteArray} {d : Nat} {w : World} {v : Value} {xs : List Ex} {us : List Value} {i : Nat} {wr : World}
theorem form (h : LS b s d w v xs us i wr) (hx : xs ≠ []) : ∃ g cap, v = .slice (some ⟨g, 0, none⟩) xs.length cap ∧ w.heap.size ≤ g ∧ xs.length ≤ cap ∧ xs.length ≤ 9223372036854775807 ∧ ∀ (j : Nat) (u : Value), us[j]? = some u → wr.cell? ⟨g, j, none⟩ = some u := by
  have hl := h.len
  have hown := h.own
  rcases hown.2 with ⟨_, h0⟩ | ⟨g, cap, cur, hv, hbg, hg, hnc, hcm, hcs, htake⟩
  · exact absurd (List.length_eq_zero_iff.1 (by omega)) hx
  · refine ⟨g, cap, by rw [hv, hl], hbg, by omega, by unfold maxLen at hcm; omega, ?_⟩
    intro j u hu
    have := hown.cells (g := g) (by rw [hv]; rfl) j u hu
    cases j <;> simpa [Addr.add] using this
theorem get (h : LS b s d w v xs us i wr) {j : Nat} {x : Ex} (hx : xs[j]? = some x) : ∃ u, us[j]? = some u ∧ IsEx (fun g => w.heap.size ≤ g) wr x u := by
  have hj : j < xs.length := by
    by_cases hj : j < xs.length
    · exact hj
    · rw [List.getElem?_eq_none (by omega)] at hx; cases hx
  have hj2 : j < us.length := by rw [h.len]; exact hj
  have hu : us[j]? = some us[j] := List.getElem?_eq_getElem hj2
  exact ⟨_, hu, IsEx.stay (fun g i u _ hc => hc) (fun g hg => hg.1) x _ (h.each j x _ hx hu)⟩
theorem one {x : Ex} (h : LS b s d w v [x] us i wr) : ∃ g cap u, v = .slice (some ⟨g, 0, none⟩) 1 cap ∧ 1 ≤ cap ∧ wr.cell? ⟨g, 0, none⟩ = some u ∧ IsEx (fun g => w.heap.size ≤ g) wr x u := by
  obtain ⟨g, cap, hv, _, h1, _, hc⟩ := h.form (by simp)
  obtain ⟨u, hu, hx⟩ := h.get (j := 0) (x := x) rfl
  exact ⟨g, cap, u, hv, h1, hc 0 u hu, hx⟩
theorem many (h : LS b s d w v xs us i wr) (h2 : 2 ≤ xs.length) : ∃ g cap, v = .slice (some ⟨g, 0, none⟩) xs.length cap ∧ IsEx (fun g => w.heap.size ≤ g) wr ⟨6, [], xs⟩ (.iface 224 v) ∧ IsEx (fun g => w.heap.size ≤ g) wr ⟨7, [], xs⟩ (.iface 226 v) := by
  obtain ⟨g, cap, hv, hg, h1, h3, hc⟩ := h.form (by intro e; rw [e] at h2; simp at h2)
  have hrow : Row wr g (xs.map fun x => IsEx (fun g => w.heap.size ≤ g) wr x) := by
    intro j P hP
    rw [List.getElem?_map] at hP
    cases hl : xs[j]? with
    | none => rw [hl] at hP; simp at hP
    | some y =>
      rw [hl] at hP
      simp only [Option.map_some, Option.some.injEq] at hP
      obtain ⟨u, hu, hx⟩ := h.get hl
      exact ⟨u, hc j u hu, by rw [← hP]; exact hx⟩
  refine ⟨g, cap, hv, ?_, ?_⟩
  · simp only [IsEx]; exact ⟨trivial, h2, h3, g, cap, by rw [hv], h1, hg, hrow⟩
  · simp only [IsEx]; exact ⟨trivial, h2, h3, g, cap, by rw [hv], h1, hg, hrow⟩
end LS
theorem made_one (k : Nat) (x : Ex) (m : Nat) : Ex.made k (.inr ([x], m)) = .inr (x, m) := rfl
theorem made_many (k : Nat) (xs : List Ex) (m : Nat) (h : 2 ≤ xs.length) : Ex.made k (.inr (xs, m)) = .inr (⟨k, [], xs⟩, m) := by
  match xs, h with
  | _ :: _ :: _, _ => rfl
theorem made_err (k : Nat) (e : Nat × Nat) : Ex.made k (.inl e) = .inl e := rfl
theorem entered_piece : Entered 215 := fun _ _ => by kernel_rfl
theorem entered_part : Entered 203 := fun _ _ => by kernel_rfl
theorem entered_whole : Entered 175 := fun _ _ => by kernel_rfl
set_option maxHeartbeats 1000000 in
theorem part_any (s : ByteArray) (d : Nat) (R : Nat → Ex.Res Ex) (hadv : Ex.Adv s.data.toList R) (hR : Reads 215 s d R) (hs : s.size ≤ 2000) : Reads 203 s d (Ex.partP s.data.toList R) := by
  intro b i w h hi
  have hmf : ∀ (fn : Fn) (first cap : Array Value) (w : World), (Instr.makeFunc fn first cap).run Tryz.prog w = .ok (.func fn first cap) w := fun _ _ _ _ => rfl
  have HC := hide (list_any 215 entered_piece b s i d (s.data.toList.length + 1) (by simp) 38 38 rfl (by decide) R hadv hR w h hi hs)
  have HA := hide (Ex.listP_adv s.data.toList 38 (by decide) R hadv (s.data.toList.length + 1) i)
  have HI : Hid (i ≤ s.data.toList.length) := by show _ ≤ _; simpa using hi
  obtain ⟨T, hT⟩ : ∃ T, T = Ex.listP s.data.toList 38 R (s.data.toList.length + 1) i := ⟨_, rfl⟩
  rw [← hT] at HC HA
  have e : Ex.partP s.data.toList R i = Ex.made 6 T := by rw [hT]; rfl
  rw [e]
  clear hT e hR hadv h
  go_enter Tryz.func203, Tryz.ntmps203
  go_wp2_with fail
  refine HC.out.mono ?_
  intro e w1 hq
  clear HC
  match T, hq, HA with
  | .inl (err, p), hq, _ =>
    obtain ⟨v, i', rfl, herr, hrd, hk⟩ := hq
    have HE := hide herr
    have HD := hide hrd
    have HK := hide hk
    obtain ⟨a, ha, hv, hc0, hc1⟩ := herr
    clear hrd hk ha hc0 hc1
    rw [hv] at HE
    rw [hv]
    clear hv
    go_wp2_with fail
    go_ret2
    exact ⟨HK.out, _, i', rfl, HE.out, HD.out⟩
  | .inr ([], m), hq, HA => exact absurd rfl (HA.out [] m HI.out rfl).2.2
  | .inr ([x], m), hq, _ =>
    obtain ⟨v, us, rfl, hls⟩ := hq
    have HLS := hide hls
    obtain ⟨g, cap, u, hv, hcap, hcell, hx⟩ := hls.one
    have HX := hide hx
    clear hls hx
    rw [hv]
    clear hv
    go_wp2_with fail
    go_ret2
    exact ⟨HLS.out.keep, _, rfl, HX.out, HLS.out.rd⟩
  | .inr (x :: y :: zs, m), hq, _ =>
    obtain ⟨v, us, rfl, hls⟩ := hq
    have HLS := hide hls
    obtain ⟨g, cap, hv, hx, _⟩ := hls.many (by simp)
    have HX := hide hx
    clear hls hx
    rw [hv] at HX
    rw [hv]
    clear hv
    have e1 : (((x :: y :: zs).length : Int) == 1) = false := beq_eq_false_iff_ne.2 (by simp; omega)
    generalize (x :: y :: zs).length = n at *
    go_wp2_with fail
    go_ret2
    exact ⟨HLS.out.keep, _, rfl, HX.out, HLS.out.rd⟩
set_option maxHeartbeats 1000000 in
theorem whole_any (s : ByteArray) (d : Nat) (R : Nat → Ex.Res Ex) (hadv : Ex.Adv s.data.toList R) (hR : Reads 203 s d R) (hs : s.size ≤ 2000) : Reads 175 s d (fun i => Ex.made 7 (Ex.listP s.data.toList 124 R (s.data.toList.length + 1) i)) := by
  intro b i w h hi
  have hmf : ∀ (fn : Fn) (first cap : Array Value) (w : World), (Instr.makeFunc fn first cap).run Tryz.prog w = .ok (.func fn first cap) w := fun _ _ _ _ => rfl
  have HC := hide (list_any 203 entered_part b s i d (s.data.toList.length + 1) (by simp) 124 124 rfl (by decide) R hadv hR w h hi hs)
  have HA := hide (Ex.listP_adv s.data.toList 124 (by decide) R hadv (s.data.toList.length + 1) i)
  have HI : Hid (i ≤ s.data.toList.length) := by show _ ≤ _; simpa using hi
  obtain ⟨T, hT⟩ : ∃ T, T = Ex.listP s.data.toList 124 R (s.data.toList.length + 1) i := ⟨_, rfl⟩
  rw [← hT] at HC HA
  show Calls _ _ _ _ (Read b s d w (Ex.made 7 (Ex.listP s.data.toList 124 R (s.data.toList.length + 1) i)))
  rw [← hT]
  clear hT hR hadv h
  go_enter Tryz.func175, Tryz.ntmps175
  go_wp2_with fail
  refine HC.out.mono ?_
  intro e w1 hq
  clear HC
  match T, hq, HA with
  | .inl (err, p), hq, _ =>
    obtain ⟨v, i', rfl, herr, hrd, hk⟩ := hq
    have HE := hide herr
    have HD := hide hrd
    have HK := hide hk
    obtain ⟨a, ha, hv, hc0, hc1⟩ := herr
    clear hrd hk ha hc0 hc1
    rw [hv] at HE
    rw [hv]
    clear hv
    go_wp2_with fail
    go_ret2
    exact ⟨HK.out, _, i', rfl, HE.out, HD.out⟩
  | .inr ([], m), hq, HA => exact absurd rfl (HA.out [] m HI.out rfl).2.2
  | .inr ([x], m), hq, _ =>
    obtain ⟨v, us, rfl, hls⟩ := hq
    have HLS := hide hls
    obtain ⟨g, cap, u, hv, hcap, hcell, hx⟩ := hls.one
    have HX := hide hx
    clear hls hx
    rw [hv]
    clear hv
    go_wp2_with fail
    go_ret2
    exact ⟨HLS.out.keep, _, rfl, HX.out, HLS.out.rd⟩
  | .inr (x :: y :: zs, m), hq, _ =>
    obtain ⟨v, us, rfl, hls⟩ := hq
    have HLS := hide hls
    obtain ⟨g, cap, hv, _, hx⟩ := hls.many (by simp)
    have HX := hide hx
    clear hls hx
    rw [hv] at HX
    rw [hv]
    clear hv
    have e1 : (((x :: y :: zs).length : Int) == 1) = false := beq_eq_false_iff_ne.2 (by simp; omega)
    generalize (x :: y :: zs).length = n at *
    go_wp2_with fail
    go_ret2
    exact ⟨HLS.out.keep, _, rfl, HX.out, HLS.out.rd⟩
theorem Stay.setCell {ok : Nat → Prop} {w : World} (p : Addr) (u : Value) (h : ∀ g, ok g → g ≠ p.block) : Stay ok w (w.setCell p u) := fun g i x hg hc => by
  rw [World.cell?_setCell_other w _ _ _ (fun e => h g hg (by rw [e]))]; exact hc
/-- what was read, one deeper, is what was read -/
theorem Read.up {b : Nat} {s : ByteArray} {d : Nat} {w w1 w' : World} {r : Ex.Res Ex} {e : Ending} (hk : Keep b w w1) (hb : b < w.heap.size) (h : Read b s (d + 1) w1 r e w') : Read b s d w r e (w'.setCell ⟨b, 2, none⟩ (.int .i64 (d : Int))) := by
  obtain ⟨h1, h2⟩ := h
  refine ⟨(hk.trans h1).setCell rfl _, ?_⟩
  match r, h2 with
  | .inl (err, p), ⟨v, i, he, herr, hrd⟩ => exact ⟨v, i, he, herr.stay (Stay.setCell _ _ fun g hg => hg), hrd.set2 d⟩
  | .inr (x, m), ⟨v, he, hx, hrd⟩ =>
    refine ⟨v, he, IsEx.stay (Stay.setCell _ _ fun g hg e => ?_) (fun g hg => Nat.le_trans hk.size hg) x v hx, hrd.set2 d⟩
    have := hk.size
    simp only at e
    omega
theorem Read.cells {b : Nat} {s : ByteArray} {d : Nat} {w w' : World} {r : Ex.Res Ex} {e : Ending} (h : Read b s d w r e w') : ∃ v0 v1 i, e = .returned (.tuple #[v0, v1]) ∧ Rd b s i d w' := by
  obtain ⟨_, h2⟩ := h
  match r, h2 with
  | .inl (err, p), ⟨v, i, he, herr, hrd⟩ => exact ⟨_, _, i, he, hrd⟩
  | .inr (x, m), ⟨v, he, hx, hrd⟩ => exact ⟨_, _, m, he, hrd⟩
set_option maxHeartbeats 1000000 in
theorem deeper_any (K : Nat) (hent : Entered K) (b : Nat) (s : ByteArray) (i d : Nat) (R : Nat → Ex.Res Ex) (hR : Reads K s (d + 1) R) (w : World) (h : Rd b s i d w) (hi : i < s.size) (hs : s.size ≤ 2000) (hd : d ≤ 20) :
    Calls Tryz.prog 238 #[.pointer (some ⟨b, 0, none⟩), .func (.func K) #[.pointer (some ⟨b, 0, none⟩)] #[]] w (Read b s d w (R (i + 1))) := by
  have hent' : ∀ (args : Array Value) (w : World), (callFunc K args).run Tryz.prog w = .ok (.enter K args) w := hent
  have hr1 := (h.set1 (i + 1)).set2 (d + 1)
  have HC := hide (hR b (i + 1) _ hr1 (by omega))
  have HK : Hid (Keep b w ((w.setCell ⟨b, 1, none⟩ (.int .i64 ((i + 1 : Nat) : Int))).setCell ⟨b, 2, none⟩ (.int .i64 ((d + 1 : Nat) : Int)))) := ((Keep.refl b w).setCell (p := ⟨b, 1, none⟩) rfl _).setCell (p := ⟨b, 2, none⟩) rfl _
  have HB := hide h.lt
  have ei : ((i + 1 : Nat) : Int) = (i : Int) + 1 := by omega
  have ed : ((d + 1 : Nat) : Int) = (d : Int) + 1 := by omega
  rw [ei, ed] at HC HK
  obtain ⟨c0, c1, c2, f1, f2⟩ := h
  clear hr1 hR hent ei ed
  go_enter Tryz.func238, Tryz.ntmps238
  go_wp2_with fail
  refine HC.out.mono ?_
  intro e w1 hq
  have HQ := hide (Read.up HK.out HB.out hq)
  obtain ⟨v0, v1, i', he, hrd⟩ := hq.cells
  rw [he] at HQ
  rw [he]
  clear hq he c0 c1 c2 f1 f2 HC
  obtain ⟨c0, c1, c2, f1, f2⟩ := hrd
  go_wp2_with fail
  go_ret2
  have e2 : (d : Int) + 1 - 1 = (d : Int) := by omega
  first | exact HQ.out | (rw [e2]; exact HQ.out) | (simp only [e2]; exact HQ.out)
set_option maxHeartbeats 1000000 in
theorem not_any (b : Nat) (s : ByteArray) (i d : Nat) (R : Nat → Ex.Res Ex) (hR : Reads 215 s (d + 1) R) (w : World) (h : Rd b s i d w) (hi : i < s.size) (hs : s.size ≤ 2000) (hd : d ≤ 20) :
    Calls Tryz.prog 226 #[.pointer (some ⟨b, 0, none⟩)] w (Read b s d w (Ex.notP (R (i + 1)))) := by
  have hmf : ∀ (fn : Fn) (first cap : Array Value) (w : World), (Instr.makeFunc fn first cap).run Tryz.prog w = .ok (.func fn first cap) w := fun _ _ _ _ => rfl
  have HC := hide (deeper_any 215 entered_piece b s i d R hR w h hi hs hd)
  generalize R (i + 1) = r at *
  clear hR h
  go_enter Tryz.func226, Tryz.ntmps226
  go_wp2_with fail
  refine HC.out.mono ?_
  intro e w1 hq
  clear HC
  match r, hq with
  | .inl (err, p), hq =>
    obtain ⟨hk, v, i', rfl, herr, hrd⟩ := hq
    have HE := hide herr
    have HD := hide hrd
    have HK := hide hk
    obtain ⟨a, ha, hv, hc0, hc1⟩ := herr
    clear hrd hk ha hc0 hc1
    rw [hv] at HE
    rw [hv]
    clear hv
    go_wp2_with fail
    go_ret2
    exact ⟨HK.out, _, i', rfl, HE.out, HD.out⟩
  | .inr (x, m), hq =>
    obtain ⟨hk, u, rfl, hx, hrd⟩ := hq
    have HX : Hid (IsEx (fun g => w.heap.size ≤ g) w1 ⟨5, [], [x]⟩ (.iface 222 (.agg #[u]))) := by
      show IsEx _ _ _ _
      simp only [IsEx]
      exact ⟨trivial, rfl, u, rfl, fun P hP => by simp at hP; rw [← hP]; exact hx⟩
    have HD := hide hrd
    have HK := hide hk
    obtain ⟨tu, yu, hu⟩ := IsEx.iface x u hx
    clear hrd hk hx
    subst hu
    go_wp2_with fail
    go_ret2
    exact ⟨HK.out, _, rfl, HX.out, HD.out⟩
set_option maxHeartbeats 1000000 in
theorem par_any (b : Nat) (s : ByteArray) (i d : Nat) (R : Nat → Ex.Res Ex) (hR : Reads 175 s (d + 1) R) (hadv : Ex.Adv s.data.toList R) (w : World) (h : Rd b s i d w) (hi : i < s.size) (hs : s.size ≤ 2000) (hd : d ≤ 20) :
    Calls Tryz.prog 227 #[.pointer (some ⟨b, 0, none⟩)] w (Read b s d w (Ex.parP s.data.toList (R (i + 1)))) := by
  have hmf : ∀ (fn : Fn) (first cap : Array Value) (w : World), (Instr.makeFunc fn first cap).run Tryz.prog w = .ok (.func fn first cap) w := fun _ _ _ _ => rfl
  have HC := hide (deeper_any 175 entered_whole b s i d R hR w h hi hs hd)
  have HL : Hid (s.data.toList.length = s.size) := by show _ = _; simp
  have HADV : Hid (∀ x m, R (i + 1) = .inr (x, m) → m ≤ s.size) := fun x m hx => by have := (hadv (i + 1) x m (by rw [HL.out]; omega) hx).2; rw [HL.out] at this; exact this
  have HB := hide h.lt
  generalize R (i + 1) = r at *
  clear hR h hadv
  go_enter Tryz.func227, Tryz.ntmps227
  go_wp2_with fail
  refine HC.out.mono ?_
  intro e w1 hq
  clear HC
  match r, hq, HADV with
  | .inl (err, p), hq, _ =>
    obtain ⟨hk, v, i', rfl, herr, hrd⟩ := hq
    have HE := hide herr
    have HD := hide hrd
    have HK := hide hk
    obtain ⟨a, ha, hv, hc0, hc1⟩ := herr
    clear hrd hk ha hc0 hc1
    rw [hv] at HE
    rw [hv]
    clear hv
    go_wp2_with fail
    go_ret2
    exact ⟨HK.out, _, i', rfl, HE.out, HD.out⟩
  | .inr (x, m), hq, HADV =>
    obtain ⟨hk, u, rfl, hx, hrd⟩ := hq
    have hm := HADV.out x m rfl
    have HX := hide hx
    have HK := hide hk
    have hge := Ex.skip_ge s.data.toList m
    have hle := Ex.skip_le s.data.toList m (by rw [HL.out]; omega)
    rw [HL.out] at hle
    have HS := hide (sign_any b s m d w1 hrd hm hs)
    have HP : Hid (Ex.parP s.data.toList (.inr (x, m)) = if Ex.sg s.data.toList (Ex.skip s.data.toList m) = 41 then .inr (x, Ex.skip s.data.toList m + 1) else .inl (3, Ex.skip s.data.toList m)) := rfl
    have HLT : Hid (Ex.sg s.data.toList (Ex.skip s.data.toList m) = 41 → Ex.skip s.data.toList m < s.size) := fun hc => by have := Ex.sg_lt s.data.toList _ (by rw [hc]; decide); rw [HL.out] at this; exact this
    obtain ⟨tu, yu, hu⟩ := IsEx.iface x u hx
    clear hrd hk hx HADV
    subst hu
    generalize Ex.skip s.data.toList m = q at *
    generalize Ex.sg s.data.toList q = c at *
    go_wp2_with fail
    refine HS.out.mono ?_
    rintro e w2 ⟨rfl, hr2, hk2⟩
    have HK2 := hide hk2
    have HR2 := hide hr2
    obtain ⟨c0, c1, c2, f1, f2⟩ := hr2
    clear hk2 HS
    by_cases hc : c = 41
    · have e1 : ((c : Int) != 41) = false := by rw [hc]; rfl
      have hq := HLT.out hc
      have HF : Hid (Ex.parP s.data.toList (.inr (x, m)) = .inr (x, q + 1)) := by show _ = _; rw [HP.out, if_pos hc]
      clear hc HP HLT
      go_wp2_with fail
      go_ret2
      rw [HF.out]
      have HX2 := IsEx.stay (Stay.keep HK2.out fun g hg e => by have := HB.out; omega) (fun g hg => hg) x _ HX.out
      refine ⟨(HK.out.trans HK2.out).setCell rfl _, _, rfl, IsEx.stay (Stay.setCell _ _ fun g hg e => ?_) (fun g hg => hg) x _ HX2, HR2.out.set1 (q + 1)⟩
      have := HB.out
      simp only at e
      omega
    · have e1 : ((c : Int) != 41) = true := by simp; omega
      have HF : Hid (Ex.parP s.data.toList (.inr (x, m)) = .inl (3, q)) := by show _ = _; rw [HP.out, if_neg hc]
      clear hc HP HLT
      go_wp2_with fail
      refine (wrong_any b s q d 3 w2 HR2.out).mono ?_
      rintro e w3 ⟨rfl, rfl⟩
      go_wp2_with fail
      go_ret2
      rw [HF.out]
      refine ⟨(HK.out.trans HK2.out).alloc _, _, q, rfl, ⟨w2.heap.size, by have := HR2.out.lt; omega, rfl, ?_, ?_⟩, HR2.out.below ((Below.refl _ _).alloc (Nat.le_refl _) _)⟩
      · simp [World.cell?_alloc_at]
      · simp [World.cell?_alloc_at]
/-- an error at the reader's place -/
theorem Read.bad {b : Nat} {s : ByteArray} {d q : Nat} {w w2 : World} (err : Nat) (hk : Keep b w w2) (hr : Rd b s q d w2) :
    Read b s d w (.inl (err, q)) (.returned (.tuple #[.nilIface, .iface 126 (.pointer (some ⟨w2.heap.size, 0, none⟩))])) (w2.alloc (.cells #[.int .i64 (err : Int), .int .i64 (q : Int)] 127)) := by
  refine ⟨hk.alloc _, _, q, rfl, ⟨w2.heap.size, by have := hr.lt; omega, rfl, ?_, ?_⟩, hr.below ((Below.refl _ _).alloc (Nat.le_refl _) _)⟩
  · simp [World.cell?_alloc_at]
  · simp [World.cell?_alloc_at]
/-- what is read from a world that has kept all is read from the first -/
theorem Read.from {b : Nat} {s : ByteArray} {d : Nat} {w w1 w' : World} {r : Ex.Res Ex} {e : Ending} (hk : Keep b w w1) (h : Read b s d w1 r e w') : Read b s d w r e w' := by
  obtain ⟨h1, h2⟩ := h
  refine ⟨hk.trans h1, ?_⟩
  match r, h2 with
  | .inl (err, p), h2 => exact h2
  | .inr (x, m), ⟨v, he, hx, hrd⟩ => exact ⟨v, he, IsEx.stay (fun g i u _ hc => hc) (fun g hg => Nat.le_trans hk.size hg) x v hx, hrd⟩
theorem skip_skip (l : List UInt8) (i : Nat) (h : i ≤ l.length) : Ex.skip l (Ex.skip l i) = Ex.skip l i := by
  by_cases h1 : Ex.skip l i < l.length
  · have h2 : Ex.sg l (Ex.skip l i) ≠ 32 := fun e => by have := (Ex.sg_skip l i h).1 e; omega
    refine Ex.skip_stop l _ h1 (fun e => h2 ?_)
    simp only [Ex.sg, if_pos h1, e]; rfl
  · exact Ex.skip_end l _ (by omega)
theorem nameP_skip (l : List UInt8) (k i : Nat) (h : i ≤ l.length) : Ex.nameP l k (Ex.skip l i) = Ex.nameP l k i := by
  unfold Ex.nameP
  rw [skip_skip l i h]
/-- a piece, by its first sign -/
def pieceAt (l : List UInt8) (D j c : Nat) : Ex.Res Ex :=
  if c = 33 then Ex.notP (Ex.pieceP l D (j + 1))
  else if c = 40 then Ex.parP l (Ex.wholeP l (Ex.pieceP l D) (j + 1))
  else if c = 48 then .inr (⟨0, [], []⟩, j + 1)
  else if c = 49 then .inr (⟨1, [], []⟩, j + 1)
  else if c = 94 then Ex.nameP l 3 (j + 1)
  else if c = 126 then Ex.nameP l 4 (j + 1)
  else Ex.nameP l 2 j
set_option maxHeartbeats 2000000 in
theorem piece_any (s : ByteArray) (hs : s.size ≤ 2000) : ∀ (D d : Nat), d + D = 20 → Reads 215 s d (Ex.pieceP s.data.toList D) := by
  intro D
  induction D with
  | zero =>
    intro d hd b i w h hi
    have HS := hide (sign_any b s i d w h hi hs)
    have hd' : d = 20 := by omega
    subst hd'
    have HP : Hid (Ex.pieceP s.data.toList 0 i = .inl (4, Ex.skip s.data.toList i)) := rfl
    generalize Ex.pieceP s.data.toList 0 i = r at *
    generalize Ex.skip s.data.toList i = q at *
    generalize Ex.sg s.data.toList q = c at *
    clear h hd
    go_enter Tryz.func215, Tryz.ntmps215
    go_wp2_with fail
    refine HS.out.mono ?_
    rintro e w2 ⟨rfl, hr2, hk2⟩
    have HK2 := hide hk2
    have HR2 := hide hr2
    obtain ⟨c0, c1, c2, f1, f2⟩ := hr2
    clear hk2 HS
    go_wp2_with fail
    refine (wrong_any b s q 20 4 w2 HR2.out).mono ?_
    rintro e w3 ⟨rfl, rfl⟩
    go_wp2_with fail
    go_ret2
    rw [HP.out]
    exact Read.bad 4 HK2.out HR2.out
  | succ D ih =>
    intro d hd b i w h hi
    have hP := ih (d + 1) (by omega)
    have hA := Ex.pieceP_adv s.data.toList D
    have hPart := part_any s (d + 1) _ hA hP hs
    have hPA := Ex.partP_adv s.data.toList _ hA
    have hW := whole_any s (d + 1) _ hPA hPart hs
    have hWA := Ex.wholeP_adv s.data.toList _ hA
    have HL : Hid (s.data.toList.length = s.size) := by show _ = _; simp
    have HS := hide (sign_any b s i d w h hi hs)
    have hge := Ex.skip_ge s.data.toList i
    have hle := Ex.skip_le s.data.toList i (by rw [HL.out]; exact hi)
    rw [HL.out] at hle
    have HLT : Hid (Ex.sg s.data.toList (Ex.skip s.data.toList i) ≠ 32 → Ex.skip s.data.toList i < s.size) := fun hc => by have := Ex.sg_lt s.data.toList _ hc; rw [HL.out] at this; exact this
    have HP : Hid (Ex.pieceP s.data.toList (D + 1) i = pieceAt s.data.toList D (Ex.skip s.data.toList i) (Ex.sg s.data.toList (Ex.skip s.data.toList i))) := rfl
    have HNOT := hide (fun (w : World) (q : Nat) (hr : Rd b s q d w) (hq : q < s.size) => not_any b s q d _ hP w hr hq hs (by omega))
    have HPAR := hide (fun (w : World) (q : Nat) (hr : Rd b s q d w) (hq : q < s.size) => par_any b s q d _ hW hWA w hr hq hs (by omega))
    clear ih hP hA hPart hPA hW hWA h
    generalize Ex.pieceP s.data.toList (D + 1) i = r at *
    generalize Ex.skip s.data.toList i = q at *
    generalize Ex.sg s.data.toList q = c at *
    have hd19 : ¬ (19 : Int) < (d : Int) := by omega
    go_enter Tryz.func215, Tryz.ntmps215
    go_wp2_with fail
    refine HS.out.mono ?_
    rintro e w2 ⟨rfl, hr2, hk2⟩
    have HK2 := hide hk2
    have HR2 := hide hr2
    obtain ⟨c0, c1, c2, f1, f2⟩ := hr2
    clear hk2 HS
    by_cases q1 : c = 33
    · have hq := HLT.out (by omega)
      have HF : Hid (r = Ex.notP (Ex.pieceP s.data.toList D (q + 1))) := by show _ = _; rw [HP.out, pieceAt, if_pos q1]
      have e1 : ((c : Int) == 33) = true := beq_iff_eq.2 (by omega)
      clear q1 HP
      go_wp2_with fail
      refine (HNOT.out w2 q HR2.out hq).mono ?_
      intro e w3 hq3
      have HQ := hide (Read.from HK2.out hq3)
      obtain ⟨v0, v1, i', he, hrd⟩ := hq3.cells
      rw [he] at HQ
      rw [he]
      clear hq3 he hrd
      go_wp2_with fail
      go_ret2
      rw [HF.out]
      exact HQ.out
    have e1 : ((c : Int) == 33) = false := beq_eq_false_iff_ne.2 (by omega)
    by_cases q2 : c = 40
    · have hq := HLT.out (by omega)
      have HF : Hid (r = Ex.parP s.data.toList (Ex.wholeP s.data.toList (Ex.pieceP s.data.toList D) (q + 1))) := by show _ = _; rw [HP.out, pieceAt, if_neg q1, if_pos q2]
      have e2 : ((c : Int) == 40) = true := beq_iff_eq.2 (by omega)
      clear q1 q2 HP
      go_wp2_with fail
      refine (HPAR.out w2 q HR2.out hq).mono ?_
      intro e w3 hq3
      have HQ := hide (Read.from HK2.out hq3)
      obtain ⟨v0, v1, i', he, hrd⟩ := hq3.cells
      rw [he] at HQ
      rw [he]
      clear hq3 he hrd
      go_wp2_with fail
      go_ret2
      rw [HF.out]
      exact HQ.out
    have e2 : ((c : Int) == 40) = false := beq_eq_false_iff_ne.2 (by omega)
    by_cases q3 : c = 48
    · have hq := HLT.out (by omega)
      have HF : Hid (r = .inr (⟨0, [], []⟩, q + 1)) := by show _ = _; rw [HP.out, pieceAt, if_neg q1, if_neg q2, if_pos q3]
      have e3 : ((c : Int) == 48) = true := beq_iff_eq.2 (by omega)
      have e4 : ((c : Int) == 49) = false := beq_eq_false_iff_ne.2 (by omega)
      clear q1 q2 q3 HP
      go_wp2_with fail
      go_ret2
      rw [HF.out]
      exact ⟨HK2.out.setCell rfl _, _, rfl, by simp [IsEx], HR2.out.set1 (q + 1)⟩
    have e3 : ((c : Int) == 48) = false := beq_eq_false_iff_ne.2 (by omega)
    by_cases q4 : c = 49
    · have hq := HLT.out (by omega)
      have HF : Hid (r = .inr (⟨1, [], []⟩, q + 1)) := by show _ = _; rw [HP.out, pieceAt, if_neg q1, if_neg q2, if_neg q3, if_pos q4]
      have e4 : ((c : Int) == 49) = true := beq_iff_eq.2 (by omega)
      clear q1 q2 q3 q4 HP
      go_wp2_with fail
      go_ret2
      rw [HF.out]
      exact ⟨HK2.out.setCell rfl _, _, rfl, by simp [IsEx], HR2.out.set1 (q + 1)⟩
    have e4 : ((c : Int) == 49) = false := beq_eq_false_iff_ne.2 (by omega)
    by_cases q5 : c = 94
    · have hq := HLT.out (by omega)
      have HF : Hid (r = Ex.nameP s.data.toList 3 (q + 1)) := by show _ = _; rw [HP.out, pieceAt, if_neg q1, if_neg q2, if_neg q3, if_neg q4, if_pos q5]
      have e5 : ((c : Int) == 94) = true := beq_iff_eq.2 (by omega)
      clear q1 q2 q3 q4 q5 HP
      go_wp2_with fail
      refine (named_any _ 3 makes3 b s (q + 1) d _ (HR2.out.set1 (q + 1)) (by omega) hs).mono ?_
      intro e w3 hq3
      have HQ := hide (Read.from (HK2.out.setCell rfl _) hq3)
      obtain ⟨v0, v1, i', he, hrd⟩ := hq3.cells
      rw [he] at HQ
      rw [he]
      clear hq3 he hrd
      go_wp2_with fail
      go_ret2
      rw [HF.out]
      exact HQ.out
    have e5 : ((c : Int) == 94) = false := beq_eq_false_iff_ne.2 (by omega)
    by_cases q6 : c = 126
    · have hq := HLT.out (by omega)
      have HF : Hid (r = Ex.nameP s.data.toList 4 (q + 1)) := by show _ = _; rw [HP.out, pieceAt, if_neg q1, if_neg q2, if_neg q3, if_neg q4, if_neg q5, if_pos q6]
      have e6 : ((c : Int) == 126) = true := beq_iff_eq.2 (by omega)
      clear q1 q2 q3 q4 q5 q6 HP
      go_wp2_with fail
      refine (named_any _ 4 makes4 b s (q + 1) d _ (HR2.out.set1 (q + 1)) (by omega) hs).mono ?_
      intro e w3 hq3
      have HQ := hide (Read.from (HK2.out.setCell rfl _) hq3)
      obtain ⟨v0, v1, i', he, hrd⟩ := hq3.cells
      rw [he] at HQ
      rw [he]
      clear hq3 he hrd
      go_wp2_with fail
      go_ret2
      rw [HF.out]
      exact HQ.out
    have e6 : ((c : Int) == 126) = false := beq_eq_false_iff_ne.2 (by omega)
    have HF : Hid (r = Ex.nameP s.data.toList 2 q) := by show _ = _; rw [HP.out, pieceAt, if_neg q1, if_neg q2, if_neg q3, if_neg q4, if_neg q5, if_neg q6]
    clear q1 q2 q3 q4 q5 q6 HP
    go_wp2_with fail
    refine (named_any _ 2 makes2 b s q d w2 HR2.out hle hs).mono ?_
    intro e w3 hq3
    have HQ := hide (Read.from HK2.out hq3)
    obtain ⟨v0, v1, i', he, hrd⟩ := hq3.cells
    rw [he] at HQ
    rw [he]
    clear hq3 he hrd
    go_wp2_with fail
    go_ret2
    rw [HF.out]
    exact HQ.out
end Go.Proofs.YtkpfahbodlfpiaaGreatDoor
