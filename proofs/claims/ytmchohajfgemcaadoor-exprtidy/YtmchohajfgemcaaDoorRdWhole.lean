/-
  The walks of the reader's part and whole.
-/
import Derived.Test.YtmchohajfgemcaaDoorRdList
namespace Go.Proofs.YtmchohajfgemcaaDoor
open Go.RowKit
namespace LS
variable {b : Nat} {s : ByteArray} {d : Nat} {w : World} {v : Value} {xs : List Ex} {us : List Value} {i : Nat} {wr : World}
theorem form (h : LS b s d w v xs us i wr) (hx : xs ≠ []) : ∃ g cap, v = .slice (some ⟨g, 0, none⟩) xs.length cap ∧ w.heap.size ≤ g ∧ xs.length ≤ cap ∧ xs.length ≤ 9223372036854775807 ∧ ∀ (j : Nat) (u : Value), us[j]? = some u → wr.cell? ⟨g, j, none⟩ = some u := by
  have hl := h.len
  have hown := h.own
  rcases hown.2 with ⟨_, h0⟩ | ⟨g, cap, cur, hv, hbg, hg, hnc, hcm, hcs, htake⟩
  · exact absurd (List.length_eq_zero_iff.1 (by omega)) hx
  · refine ⟨g, cap, by rw [hv, hl], hbg, by omega, by unfold maxLen at hcm; omega, ?_⟩
    intro j u hu
    have := hown.cells (g := g) (by rw [hv]; rfl) j u hu
    cases j <;> simpa [Addr.add] using this
theorem get (h : LS b s d w v xs us i wr) {j : Nat} {x : Ex} (hx : xs[j]? = some x) : ∃ u, us[j]? = some u ∧ IsEx (fun g => w.heap.size ≤ g) wr x u := by
  have hj : j < xs.length := by
    by_cases hj : j < xs.length
    · exact hj
    · rw [List.getElem?_eq_none (by omega)] at hx; cases hx
  have hj2 : j < us.length := by rw [h.len]; exact hj
  have hu : us[j]? = some us[j] := List.getElem?_eq_getElem hj2
  exact ⟨_, hu, IsEx.stay (fun g i u _ hc => hc) (fun g hg => hg.1) x _ (h.each j x _ hx hu)⟩
theorem one {x : Ex} (h : LS b s d w v [x] us i wr) : ∃ g cap u, v = .slice (some ⟨g, 0, none⟩) 1 cap ∧ 1 ≤ cap ∧ wr.cell? ⟨g, 0, none⟩ = some u ∧ IsEx (fun g => w.heap.size ≤ g) wr x u := by
  obtain ⟨g, cap, hv, _, h1, _, hc⟩ := h.form (by simp)
  obtain ⟨u, hu, hx⟩ := h.get (j := 0) (x := x) rfl
  exact ⟨g, cap, u, hv, h1, hc 0 u hu, hx⟩
theorem many (h : LS b s d w v xs us i wr) (h2 : 2 ≤ xs.length) : ∃ g cap, v = .slice (some ⟨g, 0, none⟩) xs.length cap ∧ IsEx (fun g => w.heap.size ≤ g) wr ⟨6, [], xs⟩ (.iface 94 v) ∧ IsEx (fun g => w.heap.size ≤ g) wr ⟨7, [], xs⟩ (.iface 76 v) := by
  obtain ⟨g, cap, hv, hg, h1, h3, hc⟩ := h.form (by intro e; rw [e] at h2; simp at h2)
  have hrow : Row wr g (xs.map fun x => IsEx (fun g => w.heap.size ≤ g) wr x) := by
    intro j P hP
    rw [List.getElem?_map] at hP
    cases hl : xs[j]? with
    | none => rw [hl] at hP; simp at hP
    | some y =>
      rw [hl] at hP
      simp only [Option.map_some, Option.some.injEq] at hP
      obtain ⟨u, hu, hx⟩ := h.get hl
      exact ⟨u, hc j u hu, by rw [← hP]; exact hx⟩
  refine ⟨g, cap, hv, ?_, ?_⟩
  · simp only [IsEx]; exact ⟨trivial, h2, h3, g, cap, by rw [hv], h1, hg, hrow⟩
  · simp only [IsEx]; exact ⟨trivial, h2, h3, g, cap, by rw [hv], h1, hg, hrow⟩
end LS
theorem made_one (k : Nat) (x : Ex) (m : Nat) : Ex.made k (.inr ([x], m)) = .inr (x, m) := rfl
theorem made_many (k : Nat) (xs : List Ex) (m : Nat) (h : 2 ≤ xs.length) : Ex.made k (.inr (xs, m)) = .inr (⟨k, [], xs⟩, m) := by
  match xs, h with
  | _ :: _ :: _, _ => rfl
theorem made_err (k : Nat) (e : Nat × Nat) : Ex.made k (.inl e) = .inl e := rfl
theorem entered_piece : Entered 47 := fun _ _ => by kernel_rfl
theorem entered_part : Entered 36 := fun _ _ => by kernel_rfl
theorem entered_whole : Entered 19 := fun _ _ => by kernel_rfl
set_option maxHeartbeats 1000000 in
theorem part_any (s : ByteArray) (d : Nat) (R : Nat → Ex.Res Ex) (hadv : Ex.Adv s.data.toList R) (hR : Reads 47 s d R) (hs : s.size ≤ 2000) : Reads 36 s d (Ex.partP s.data.toList R) := by
  intro b i w h hi
  have hmf : ∀ (fn : Fn) (first cap : Array Value) (w : World), (Instr.makeFunc fn first cap).run Tryd.prog w = .ok (.func fn first cap) w := fun _ _ _ _ => rfl
  have HC := hide (list_any 47 entered_piece b s i d (s.data.toList.length + 1) (by simp) 38 38 rfl (by decide) R hadv hR w h hi hs)
  have HA := hide (Ex.listP_adv s.data.toList 38 (by decide) R hadv (s.data.toList.length + 1) i)
  have HI : Hid (i ≤ s.data.toList.length) := by show _ ≤ _; simpa using hi
  obtain ⟨T, hT⟩ : ∃ T, T = Ex.listP s.data.toList 38 R (s.data.toList.length + 1) i := ⟨_, rfl⟩
  rw [← hT] at HC HA
  have e : Ex.partP s.data.toList R i = Ex.made 6 T := by rw [hT]; rfl
  rw [e]
  clear hT e hR hadv h
  go_enter Tryd.func36, Tryd.ntmps36
  go_wp2_with fail
  refine HC.out.mono ?_
  intro e w1 hq
  clear HC
  match T, hq, HA with
  | .inl (err, p), hq, _ =>
    obtain ⟨v, i', rfl, herr, hrd, hk⟩ := hq
    have HE := hide herr
    have HD := hide hrd
    have HK := hide hk
    obtain ⟨a, ha, hv, hc0, hc1⟩ := herr
    clear hrd hk ha hc0 hc1
    rw [hv] at HE
    rw [hv]
    clear hv
    go_wp2_with fail
    go_ret2
    exact ⟨HK.out, _, i', rfl, HE.out, HD.out⟩
  | .inr ([], m), hq, HA => exact absurd rfl (HA.out [] m HI.out rfl).2.2
  | .inr ([x], m), hq, _ =>
    obtain ⟨v, us, rfl, hls⟩ := hq
    have HLS := hide hls
    obtain ⟨g, cap, u, hv, hcap, hcell, hx⟩ := hls.one
    have HX := hide hx
    clear hls hx
    rw [hv]
    clear hv
    go_wp2_with fail
    go_ret2
    exact ⟨HLS.out.keep, _, rfl, HX.out, HLS.out.rd⟩
  | .inr (x :: y :: zs, m), hq, _ =>
    obtain ⟨v, us, rfl, hls⟩ := hq
    have HLS := hide hls
    obtain ⟨g, cap, hv, hx, _⟩ := hls.many (by simp)
    have HX := hide hx
    clear hls hx
    rw [hv] at HX
    rw [hv]
    clear hv
    have e1 : (((x :: y :: zs).length : Int) == 1) = false := beq_eq_false_iff_ne.2 (by simp; omega)
    generalize (x :: y :: zs).length = n at *
    go_wp2_with fail
    go_ret2
    exact ⟨HLS.out.keep, _, rfl, HX.out, HLS.out.rd⟩
set_option maxHeartbeats 1000000 in
theorem whole_any (s : ByteArray) (d : Nat) (R : Nat → Ex.Res Ex) (hadv : Ex.Adv s.data.toList R) (hR : Reads 36 s d R) (hs : s.size ≤ 2000) : Reads 19 s d (fun i => Ex.made 7 (Ex.listP s.data.toList 124 R (s.data.toList.length + 1) i)) := by
  intro b i w h hi
  have hmf : ∀ (fn : Fn) (first cap : Array Value) (w : World), (Instr.makeFunc fn first cap).run Tryd.prog w = .ok (.func fn first cap) w := fun _ _ _ _ => rfl
  have HC := hide (list_any 36 entered_part b s i d (s.data.toList.length + 1) (by simp) 124 124 rfl (by decide) R hadv hR w h hi hs)
  have HA := hide (Ex.listP_adv s.data.toList 124 (by decide) R hadv (s.data.toList.length + 1) i)
  have HI : Hid (i ≤ s.data.toList.length) := by show _ ≤ _; simpa using hi
  obtain ⟨T, hT⟩ : ∃ T, T = Ex.listP s.data.toList 124 R (s.data.toList.length + 1) i := ⟨_, rfl⟩
  rw [← hT] at HC HA
  show Calls _ _ _ _ (Read b s d w (Ex.made 7 (Ex.listP s.data.toList 124 R (s.data.toList.length + 1) i)))
  rw [← hT]
  clear hT hR hadv h
  go_enter Tryd.func19, Tryd.ntmps19
  go_wp2_with fail
  refine HC.out.mono ?_
  intro e w1 hq
  clear HC
  match T, hq, HA with
  | .inl (err, p), hq, _ =>
    obtain ⟨v, i', rfl, herr, hrd, hk⟩ := hq
    have HE := hide herr
    have HD := hide hrd
    have HK := hide hk
    obtain ⟨a, ha, hv, hc0, hc1⟩ := herr
    clear hrd hk ha hc0 hc1
    rw [hv] at HE
    rw [hv]
    clear hv
    go_wp2_with fail
    go_ret2
    exact ⟨HK.out, _, i', rfl, HE.out, HD.out⟩
  | .inr ([], m), hq, HA => exact absurd rfl (HA.out [] m HI.out rfl).2.2
  | .inr ([x], m), hq, _ =>
    obtain ⟨v, us, rfl, hls⟩ := hq
    have HLS := hide hls
    obtain ⟨g, cap, u, hv, hcap, hcell, hx⟩ := hls.one
    have HX := hide hx
    clear hls hx
    rw [hv]
    clear hv
    go_wp2_with fail
    go_ret2
    exact ⟨HLS.out.keep, _, rfl, HX.out, HLS.out.rd⟩
  | .inr (x :: y :: zs, m), hq, _ =>
    obtain ⟨v, us, rfl, hls⟩ := hq
    have HLS := hide hls
    obtain ⟨g, cap, hv, _, hx⟩ := hls.many (by simp)
    have HX := hide hx
    clear hls hx
    rw [hv] at HX
    rw [hv]
    clear hv
    have e1 : (((x :: y :: zs).length : Int) == 1) = false := beq_eq_false_iff_ne.2 (by simp; omega)
    generalize (x :: y :: zs).length = n at *
    go_wp2_with fail
    go_ret2
    exact ⟨HLS.out.keep, _, rfl, HX.out, HLS.out.rd⟩
end Go.Proofs.YtmchohajfgemcaaDoor
