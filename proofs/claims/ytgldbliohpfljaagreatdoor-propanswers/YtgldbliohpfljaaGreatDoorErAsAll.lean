/-
  The walks of the reader's part and whole. The walks of the reader's deeper, not, inParentheses and piece, and of Parse. The walks of the reader's piece, by how deep it may still go, and of Parse. The walk of Parse: what package expr reads of a text is what the plain function 'parse' says. What package ladder has read so far, in memory: a block with three slices, whose rows are its own. errors.As at a target of type Errno: an Errno is found at once; an error at a place holds one. (After the guide's worked example of errors.As.)
-/
import Derived.Test.YtgldbliohpfljaaGreatDoorRdListAll
import Derived.Test.YtgldbliohpfljaaGreatDoorLdCheckAll
import Derived.Test.YtgldbliohpfljaaGreatDoorLdReads
import Derived.Test.YtgldbliohpfljaaGreatDoorLdRepAll
import Derived.WalkKit
import Derived.LaidEql
import Derived.Stop.Asserts
import Derived.RowKitTokens
namespace Go.Proofs.YtgldbliohpfljaaGreatDoor
section
open Go.RowKit
namespace LS
variable {b : Nat} {s : ByteArray} {d : Nat} {w : World} {v : Value} {xs : List Ex} {us : List Value} {i : Nat} {wr : World}
theorem form (h : LS b s d w v xs us i wr) (hx : xs ≠ []) : ∃ g cap, v = .slice (some ⟨g, 0, none⟩) xs.length cap ∧ w.heap.size ≤ g ∧ xs.length ≤ cap ∧ xs.length ≤ 9223372036854775807 ∧ ∀ (j : Nat) (u : Value), us[j]? = some u → wr.cell? ⟨g, j, none⟩ = some u := by
  have hl := h.len
  have hown := h.own
  rcases hown.2 with ⟨_, h0⟩ | ⟨g, cap, cur, hv, hbg, hg, hnc, hcm, hcs, htake⟩
  · exact absurd (List.length_eq_zero_iff.1 (by omega)) hx
  · refine ⟨g, cap, by rw [hv, hl], hbg, by omega, by unfold maxLen at hcm; omega, ?_⟩
    intro j u hu
    have := hown.cells (g := g) (by rw [hv]; rfl) j u hu
    cases j <;> simpa [Addr.add] using this
theorem get (h : LS b s d w v xs us i wr) {j : Nat} {x : Ex} (hx : xs[j]? = some x) : ∃ u, us[j]? = some u ∧ IsEx (fun g => w.heap.size ≤ g) wr x u := by
  have hj : j < xs.length := by
    by_cases hj : j < xs.length
    · exact hj
    · rw [List.getElem?_eq_none (by omega)] at hx; cases hx
  have hj2 : j < us.length := by rw [h.len]; exact hj
  have hu : us[j]? = some us[j] := List.getElem?_eq_getElem hj2
  exact ⟨_, hu, IsEx.stay (fun g i u _ hc => hc) (fun g hg => hg.1) x _ (h.each j x _ hx hu)⟩
theorem one {x : Ex} (h : LS b s d w v [x] us i wr) : ∃ g cap u, v = .slice (some ⟨g, 0, none⟩) 1 cap ∧ 1 ≤ cap ∧ wr.cell? ⟨g, 0, none⟩ = some u ∧ IsEx (fun g => w.heap.size ≤ g) wr x u := by
  obtain ⟨g, cap, hv, _, h1, _, hc⟩ := h.form (by simp)
  obtain ⟨u, hu, hx⟩ := h.get (j := 0) (x := x) rfl
  exact ⟨g, cap, u, hv, h1, hc 0 u hu, hx⟩
theorem many (h : LS b s d w v xs us i wr) (h2 : 2 ≤ xs.length) : ∃ g cap, v = .slice (some ⟨g, 0, none⟩) xs.length cap ∧ IsEx (fun g => w.heap.size ≤ g) wr ⟨6, [], xs⟩ (.iface 254 v) ∧ IsEx (fun g => w.heap.size ≤ g) wr ⟨7, [], xs⟩ (.iface 244 v) := by
  obtain ⟨g, cap, hv, hg, h1, h3, hc⟩ := h.form (by intro e; rw [e] at h2; simp at h2)
  have hrow : Row wr g (xs.map fun x => IsEx (fun g => w.heap.size ≤ g) wr x) := by
    intro j P hP
    rw [List.getElem?_map] at hP
    cases hl : xs[j]? with
    | none => rw [hl] at hP; simp at hP
    | some y =>
      rw [hl] at hP
      simp only [Option.map_some, Option.some.injEq] at hP
      obtain ⟨u, hu, hx⟩ := h.get hl
      exact ⟨u, hc j u hu, by rw [← hP]; exact hx⟩
  refine ⟨g, cap, hv, ?_, ?_⟩
  · simp only [IsEx]; exact ⟨trivial, h2, h3, g, cap, by rw [hv], h1, hg, hrow⟩
  · simp only [IsEx]; exact ⟨trivial, h2, h3, g, cap, by rw [hv], h1, hg, hrow⟩
end LS
theorem made_one (k : Nat) (x : Ex) (m : Nat) : Ex.made k (.inr ([x], m)) = .inr (x, m) := rfl
theorem made_many (k : Nat) (xs : List Ex) (m : Nat) (h : 2 ≤ xs.length) : Ex.made k (.inr (xs, m)) = .inr (⟨k, [], xs⟩, m) := by
  match xs, h with
  | _ :: _ :: _, _ => rfl
theorem made_err (k : Nat) (e : Nat × Nat) : Ex.made k (.inl e) = .inl e := rfl
theorem entered_piece : Entered 167 := fun _ _ => by kernel_rfl
theorem entered_part : Entered 134 := fun _ _ => by kernel_rfl
theorem entered_whole : Entered 83 := fun _ _ => by kernel_rfl
set_option maxHeartbeats 1000000 in
theorem part_any (s : ByteArray) (d : Nat) (R : Nat → Ex.Res Ex) (hadv : Ex.Adv s.data.toList R) (hR : Reads 167 s d R) (hs : s.size ≤ 2000) : Reads 134 s d (Ex.partP s.data.toList R) := by
  intro b i w h hi
  have hmf : ∀ (fn : Fn) (first cap : Array Value) (w : World), (Instr.makeFunc fn first cap).run Tryz.prog w = .ok (.func fn first cap) w := fun _ _ _ _ => rfl
  have HC := hide (list_any 167 entered_piece b s i d (s.data.toList.length + 1) (by simp) 38 38 rfl (by decide) R hadv hR w h hi hs)
  have HA := hide (Ex.listP_adv s.data.toList 38 (by decide) R hadv (s.data.toList.length + 1) i)
  have HI : Hid (i ≤ s.data.toList.length) := by show _ ≤ _; simpa using hi
  obtain ⟨T, hT⟩ : ∃ T, T = Ex.listP s.data.toList 38 R (s.data.toList.length + 1) i := ⟨_, rfl⟩
  rw [← hT] at HC HA
  have e : Ex.partP s.data.toList R i = Ex.made 6 T := by rw [hT]; rfl
  rw [e]
  clear hT e hR hadv h
  go_enter Tryz.func134, Tryz.ntmps134
  go_wp2_with fail
  refine HC.out.mono ?_
  intro e w1 hq
  clear HC
  match T, hq, HA with
  | .inl (err, p), hq, _ =>
    obtain ⟨v, i', rfl, herr, hrd, hk⟩ := hq
    have HE := hide herr
    have HD := hide hrd
    have HK := hide hk
    obtain ⟨a, ha, hv, hc0, hc1⟩ := herr
    clear hrd hk ha hc0 hc1
    rw [hv] at HE
    rw [hv]
    clear hv
    go_wp2_with fail
    go_ret2
    exact ⟨HK.out, _, i', rfl, HE.out, HD.out⟩
  | .inr ([], m), hq, HA => exact absurd rfl (HA.out [] m HI.out rfl).2.2
  | .inr ([x], m), hq, _ =>
    obtain ⟨v, us, rfl, hls⟩ := hq
    have HLS := hide hls
    obtain ⟨g, cap, u, hv, hcap, hcell, hx⟩ := hls.one
    have HX := hide hx
    clear hls hx
    rw [hv]
    clear hv
    go_wp2_with fail
    go_ret2
    exact ⟨HLS.out.keep, _, rfl, HX.out, HLS.out.rd⟩
  | .inr (x :: y :: zs, m), hq, _ =>
    obtain ⟨v, us, rfl, hls⟩ := hq
    have HLS := hide hls
    obtain ⟨g, cap, hv, hx, _⟩ := hls.many (by simp)
    have HX := hide hx
    clear hls hx
    rw [hv] at HX
    rw [hv]
    clear hv
    have e1 : (((x :: y :: zs).length : Int) == 1) = false := beq_eq_false_iff_ne.2 (by simp; omega)
    generalize (x :: y :: zs).length = n at *
    go_wp2_with fail
    go_ret2
    exact ⟨HLS.out.keep, _, rfl, HX.out, HLS.out.rd⟩
set_option maxHeartbeats 1000000 in
theorem whole_any (s : ByteArray) (d : Nat) (R : Nat → Ex.Res Ex) (hadv : Ex.Adv s.data.toList R) (hR : Reads 134 s d R) (hs : s.size ≤ 2000) : Reads 83 s d (fun i => Ex.made 7 (Ex.listP s.data.toList 124 R (s.data.toList.length + 1) i)) := by
  intro b i w h hi
  have hmf : ∀ (fn : Fn) (first cap : Array Value) (w : World), (Instr.makeFunc fn first cap).run Tryz.prog w = .ok (.func fn first cap) w := fun _ _ _ _ => rfl
  have HC := hide (list_any 134 entered_part b s i d (s.data.toList.length + 1) (by simp) 124 124 rfl (by decide) R hadv hR w h hi hs)
  have HA := hide (Ex.listP_adv s.data.toList 124 (by decide) R hadv (s.data.toList.length + 1) i)
  have HI : Hid (i ≤ s.data.toList.length) := by show _ ≤ _; simpa using hi
  obtain ⟨T, hT⟩ : ∃ T, T = Ex.listP s.data.toList 124 R (s.data.toList.length + 1) i := ⟨_, rfl⟩
  rw [← hT] at HC HA
  show Calls _ _ _ _ (Read b s d w (Ex.made 7 (Ex.listP s.data.toList 124 R (s.data.toList.length + 1) i)))
  rw [← hT]
  clear hT hR hadv h
  go_enter Tryz.func83, Tryz.ntmps83
  go_wp2_with fail
  refine HC.out.mono ?_
  intro e w1 hq
  clear HC
  match T, hq, HA with
  | .inl (err, p), hq, _ =>
    obtain ⟨v, i', rfl, herr, hrd, hk⟩ := hq
    have HE := hide herr
    have HD := hide hrd
    have HK := hide hk
    obtain ⟨a, ha, hv, hc0, hc1⟩ := herr
    clear hrd hk ha hc0 hc1
    rw [hv] at HE
    rw [hv]
    clear hv
    go_wp2_with fail
    go_ret2
    exact ⟨HK.out, _, i', rfl, HE.out, HD.out⟩
  | .inr ([], m), hq, HA => exact absurd rfl (HA.out [] m HI.out rfl).2.2
  | .inr ([x], m), hq, _ =>
    obtain ⟨v, us, rfl, hls⟩ := hq
    have HLS := hide hls
    obtain ⟨g, cap, u, hv, hcap, hcell, hx⟩ := hls.one
    have HX := hide hx
    clear hls hx
    rw [hv]
    clear hv
    go_wp2_with fail
    go_ret2
    exact ⟨HLS.out.keep, _, rfl, HX.out, HLS.out.rd⟩
  | .inr (x :: y :: zs, m), hq, _ =>
    obtain ⟨v, us, rfl, hls⟩ := hq
    have HLS := hide hls
    obtain ⟨g, cap, hv, _, hx⟩ := hls.many (by simp)
    have HX := hide hx
    clear hls hx
    rw [hv] at HX
    rw [hv]
    clear hv
    have e1 : (((x :: y :: zs).length : Int) == 1) = false := beq_eq_false_iff_ne.2 (by simp; omega)
    generalize (x :: y :: zs).length = n at *
    go_wp2_with fail
    go_ret2
    exact ⟨HLS.out.keep, _, rfl, HX.out, HLS.out.rd⟩
theorem Stay.setCell {ok : Nat → Prop} {w : World} (p : Addr) (u : Value) (h : ∀ g, ok g → g ≠ p.block) : Stay ok w (w.setCell p u) := fun g i x hg hc => by
  rw [World.cell?_setCell_other w _ _ _ (fun e => h g hg (by rw [e]))]; exact hc
/-- what was read, one deeper, is what was read -/
theorem Read.up {b : Nat} {s : ByteArray} {d : Nat} {w w1 w' : World} {r : Ex.Res Ex} {e : Ending} (hk : Keep b w w1) (hb : b < w.heap.size) (h : Read b s (d + 1) w1 r e w') : Read b s d w r e (w'.setCell ⟨b, 2, none⟩ (.int .i64 (d : Int))) := by
  obtain ⟨h1, h2⟩ := h
  refine ⟨(hk.trans h1).setCell rfl _, ?_⟩
  match r, h2 with
  | .inl (err, p), ⟨v, i, he, herr, hrd⟩ => exact ⟨v, i, he, herr.stay (Stay.setCell _ _ fun g hg => hg), hrd.set2 d⟩
  | .inr (x, m), ⟨v, he, hx, hrd⟩ =>
    refine ⟨v, he, IsEx.stay (Stay.setCell _ _ fun g hg e => ?_) (fun g hg => Nat.le_trans hk.size hg) x v hx, hrd.set2 d⟩
    have := hk.size
    simp only at e
    omega
theorem Read.cells {b : Nat} {s : ByteArray} {d : Nat} {w w' : World} {r : Ex.Res Ex} {e : Ending} (h : Read b s d w r e w') : ∃ v0 v1 i, e = .returned (.tuple #[v0, v1]) ∧ Rd b s i d w' := by
  obtain ⟨_, h2⟩ := h
  match r, h2 with
  | .inl (err, p), ⟨v, i, he, herr, hrd⟩ => exact ⟨_, _, i, he, hrd⟩
  | .inr (x, m), ⟨v, he, hx, hrd⟩ => exact ⟨_, _, m, he, hrd⟩
set_option maxHeartbeats 1000000 in
theorem deeper_any (K : Nat) (hent : Entered K) (b : Nat) (s : ByteArray) (i d : Nat) (R : Nat → Ex.Res Ex) (hR : Reads K s (d + 1) R) (w : World) (h : Rd b s i d w) (hi : i < s.size) (hs : s.size ≤ 2000) (hd : d ≤ 20) :
    Calls Tryz.prog 239 #[.pointer (some ⟨b, 0, none⟩), .func (.func K) #[.pointer (some ⟨b, 0, none⟩)] #[]] w (Read b s d w (R (i + 1))) := by
  have hent' : ∀ (args : Array Value) (w : World), (callFunc K args).run Tryz.prog w = .ok (.enter K args) w := hent
  have hr1 := (h.set1 (i + 1)).set2 (d + 1)
  have HC := hide (hR b (i + 1) _ hr1 (by omega))
  have HK : Hid (Keep b w ((w.setCell ⟨b, 1, none⟩ (.int .i64 ((i + 1 : Nat) : Int))).setCell ⟨b, 2, none⟩ (.int .i64 ((d + 1 : Nat) : Int)))) := ((Keep.refl b w).setCell (p := ⟨b, 1, none⟩) rfl _).setCell (p := ⟨b, 2, none⟩) rfl _
  have HB := hide h.lt
  have ei : ((i + 1 : Nat) : Int) = (i : Int) + 1 := by omega
  have ed : ((d + 1 : Nat) : Int) = (d : Int) + 1 := by omega
  rw [ei, ed] at HC HK
  obtain ⟨c0, c1, c2, f1, f2⟩ := h
  clear hr1 hR hent ei ed
  go_enter Tryz.func239, Tryz.ntmps239
  go_wp2_with fail
  refine HC.out.mono ?_
  intro e w1 hq
  have HQ := hide (Read.up HK.out HB.out hq)
  obtain ⟨v0, v1, i', he, hrd⟩ := hq.cells
  rw [he] at HQ
  rw [he]
  clear hq he c0 c1 c2 f1 f2 HC
  obtain ⟨c0, c1, c2, f1, f2⟩ := hrd
  go_wp2_with fail
  go_ret2
  have e2 : (d : Int) + 1 - 1 = (d : Int) := by omega
  first | exact HQ.out | (rw [e2]; exact HQ.out) | (simp only [e2]; exact HQ.out)
set_option maxHeartbeats 1000000 in
theorem not_any (b : Nat) (s : ByteArray) (i d : Nat) (R : Nat → Ex.Res Ex) (hR : Reads 167 s (d + 1) R) (w : World) (h : Rd b s i d w) (hi : i < s.size) (hs : s.size ≤ 2000) (hd : d ≤ 20) :
    Calls Tryz.prog 204 #[.pointer (some ⟨b, 0, none⟩)] w (Read b s d w (Ex.notP (R (i + 1)))) := by
  have hmf : ∀ (fn : Fn) (first cap : Array Value) (w : World), (Instr.makeFunc fn first cap).run Tryz.prog w = .ok (.func fn first cap) w := fun _ _ _ _ => rfl
  have HC := hide (deeper_any 167 entered_piece b s i d R hR w h hi hs hd)
  generalize R (i + 1) = r at *
  clear hR h
  go_enter Tryz.func204, Tryz.ntmps204
  go_wp2_with fail
  refine HC.out.mono ?_
  intro e w1 hq
  clear HC
  match r, hq with
  | .inl (err, p), hq =>
    obtain ⟨hk, v, i', rfl, herr, hrd⟩ := hq
    have HE := hide herr
    have HD := hide hrd
    have HK := hide hk
    obtain ⟨a, ha, hv, hc0, hc1⟩ := herr
    clear hrd hk ha hc0 hc1
    rw [hv] at HE
    rw [hv]
    clear hv
    go_wp2_with fail
    go_ret2
    exact ⟨HK.out, _, i', rfl, HE.out, HD.out⟩
  | .inr (x, m), hq =>
    obtain ⟨hk, u, rfl, hx, hrd⟩ := hq
    have HX : Hid (IsEx (fun g => w.heap.size ≤ g) w1 ⟨5, [], [x]⟩ (.iface 253 (.agg #[u]))) := by
      show IsEx _ _ _ _
      simp only [IsEx]
      exact ⟨trivial, rfl, u, rfl, fun P hP => by simp at hP; rw [← hP]; exact hx⟩
    have HD := hide hrd
    have HK := hide hk
    obtain ⟨tu, yu, hu⟩ := IsEx.iface x u hx
    clear hrd hk hx
    subst hu
    go_wp2_with fail
    go_ret2
    exact ⟨HK.out, _, rfl, HX.out, HD.out⟩
set_option maxHeartbeats 1000000 in
theorem par_any (b : Nat) (s : ByteArray) (i d : Nat) (R : Nat → Ex.Res Ex) (hR : Reads 83 s (d + 1) R) (hadv : Ex.Adv s.data.toList R) (w : World) (h : Rd b s i d w) (hi : i < s.size) (hs : s.size ≤ 2000) (hd : d ≤ 20) :
    Calls Tryz.prog 205 #[.pointer (some ⟨b, 0, none⟩)] w (Read b s d w (Ex.parP s.data.toList (R (i + 1)))) := by
  have hmf : ∀ (fn : Fn) (first cap : Array Value) (w : World), (Instr.makeFunc fn first cap).run Tryz.prog w = .ok (.func fn first cap) w := fun _ _ _ _ => rfl
  have HC := hide (deeper_any 83 entered_whole b s i d R hR w h hi hs hd)
  have HL : Hid (s.data.toList.length = s.size) := by show _ = _; simp
  have HADV : Hid (∀ x m, R (i + 1) = .inr (x, m) → m ≤ s.size) := fun x m hx => by have := (hadv (i + 1) x m (by rw [HL.out]; omega) hx).2; rw [HL.out] at this; exact this
  have HB := hide h.lt
  generalize R (i + 1) = r at *
  clear hR h hadv
  go_enter Tryz.func205, Tryz.ntmps205
  go_wp2_with fail
  refine HC.out.mono ?_
  intro e w1 hq
  clear HC
  match r, hq, HADV with
  | .inl (err, p), hq, _ =>
    obtain ⟨hk, v, i', rfl, herr, hrd⟩ := hq
    have HE := hide herr
    have HD := hide hrd
    have HK := hide hk
    obtain ⟨a, ha, hv, hc0, hc1⟩ := herr
    clear hrd hk ha hc0 hc1
    rw [hv] at HE
    rw [hv]
    clear hv
    go_wp2_with fail
    go_ret2
    exact ⟨HK.out, _, i', rfl, HE.out, HD.out⟩
  | .inr (x, m), hq, HADV =>
    obtain ⟨hk, u, rfl, hx, hrd⟩ := hq
    have hm := HADV.out x m rfl
    have HX := hide hx
    have HK := hide hk
    have hge := Ex.skip_ge s.data.toList m
    have hle := Ex.skip_le s.data.toList m (by rw [HL.out]; omega)
    rw [HL.out] at hle
    have HS := hide (sign_any b s m d w1 hrd hm hs)
    have HP : Hid (Ex.parP s.data.toList (.inr (x, m)) = if Ex.sg s.data.toList (Ex.skip s.data.toList m) = 41 then .inr (x, Ex.skip s.data.toList m + 1) else .inl (3, Ex.skip s.data.toList m)) := rfl
    have HLT : Hid (Ex.sg s.data.toList (Ex.skip s.data.toList m) = 41 → Ex.skip s.data.toList m < s.size) := fun hc => by have := Ex.sg_lt s.data.toList _ (by rw [hc]; decide); rw [HL.out] at this; exact this
    obtain ⟨tu, yu, hu⟩ := IsEx.iface x u hx
    clear hrd hk hx HADV
    subst hu
    generalize Ex.skip s.data.toList m = q at *
    generalize Ex.sg s.data.toList q = c at *
    go_wp2_with fail
    refine HS.out.mono ?_
    rintro e w2 ⟨rfl, hr2, hk2⟩
    have HK2 := hide hk2
    have HR2 := hide hr2
    obtain ⟨c0, c1, c2, f1, f2⟩ := hr2
    clear hk2 HS
    by_cases hc : c = 41
    · have e1 : ((c : Int) != 41) = false := by rw [hc]; rfl
      have hq := HLT.out hc
      have HF : Hid (Ex.parP s.data.toList (.inr (x, m)) = .inr (x, q + 1)) := by show _ = _; rw [HP.out, if_pos hc]
      clear hc HP HLT
      go_wp2_with fail
      go_ret2
      rw [HF.out]
      have HX2 := IsEx.stay (Stay.keep HK2.out fun g hg e => by have := HB.out; omega) (fun g hg => hg) x _ HX.out
      refine ⟨(HK.out.trans HK2.out).setCell rfl _, _, rfl, IsEx.stay (Stay.setCell _ _ fun g hg e => ?_) (fun g hg => hg) x _ HX2, HR2.out.set1 (q + 1)⟩
      have := HB.out
      simp only at e
      omega
    · have e1 : ((c : Int) != 41) = true := by simp; omega
      have HF : Hid (Ex.parP s.data.toList (.inr (x, m)) = .inl (3, q)) := by show _ = _; rw [HP.out, if_neg hc]
      clear hc HP HLT
      go_wp2_with fail
      refine (wrong_any b s q d 3 w2 HR2.out).mono ?_
      rintro e w3 ⟨rfl, rfl⟩
      go_wp2_with fail
      go_ret2
      rw [HF.out]
      refine ⟨(HK.out.trans HK2.out).alloc _, _, q, rfl, ⟨w2.heap.size, by have := HR2.out.lt; omega, rfl, ?_, ?_⟩, HR2.out.below ((Below.refl _ _).alloc (Nat.le_refl _) _)⟩
      · simp [World.cell?_alloc_at]
      · simp [World.cell?_alloc_at]
/-- an error at the reader's place -/
theorem Read.bad {b : Nat} {s : ByteArray} {d q : Nat} {w w2 : World} (err : Nat) (hk : Keep b w w2) (hr : Rd b s q d w2) :
    Read b s d w (.inl (err, q)) (.returned (.tuple #[.nilIface, .iface 227 (.pointer (some ⟨w2.heap.size, 0, none⟩))])) (w2.alloc (.cells #[.int .i64 (err : Int), .int .i64 (q : Int)] 228)) := by
  refine ⟨hk.alloc _, _, q, rfl, ⟨w2.heap.size, by have := hr.lt; omega, rfl, ?_, ?_⟩, hr.below ((Below.refl _ _).alloc (Nat.le_refl _) _)⟩
  · simp [World.cell?_alloc_at]
  · simp [World.cell?_alloc_at]
/-- what is read from a world that has kept all is read from the first -/
theorem Read.from {b : Nat} {s : ByteArray} {d : Nat} {w w1 w' : World} {r : Ex.Res Ex} {e : Ending} (hk : Keep b w w1) (h : Read b s d w1 r e w') : Read b s d w r e w' := by
  obtain ⟨h1, h2⟩ := h
  refine ⟨hk.trans h1, ?_⟩
  match r, h2 with
  | .inl (err, p), h2 => exact h2
  | .inr (x, m), ⟨v, he, hx, hrd⟩ => exact ⟨v, he, IsEx.stay (fun g i u _ hc => hc) (fun g hg => Nat.le_trans hk.size hg) x v hx, hrd⟩
theorem skip_skip (l : List UInt8) (i : Nat) (h : i ≤ l.length) : Ex.skip l (Ex.skip l i) = Ex.skip l i := by
  by_cases h1 : Ex.skip l i < l.length
  · have h2 : Ex.sg l (Ex.skip l i) ≠ 32 := fun e => by have := (Ex.sg_skip l i h).1 e; omega
    refine Ex.skip_stop l _ h1 (fun e => h2 ?_)
    simp only [Ex.sg, if_pos h1, e]; rfl
  · exact Ex.skip_end l _ (by omega)
theorem nameP_skip (l : List UInt8) (k i : Nat) (h : i ≤ l.length) : Ex.nameP l k (Ex.skip l i) = Ex.nameP l k i := by
  unfold Ex.nameP
  rw [skip_skip l i h]
/-- a piece, by its first sign -/
def pieceAt (l : List UInt8) (D j c : Nat) : Ex.Res Ex :=
  if c = 33 then Ex.notP (Ex.pieceP l D (j + 1))
  else if c = 40 then Ex.parP l (Ex.wholeP l (Ex.pieceP l D) (j + 1))
  else if c = 48 then .inr (⟨0, [], []⟩, j + 1)
  else if c = 49 then .inr (⟨1, [], []⟩, j + 1)
  else if c = 94 then Ex.nameP l 3 (j + 1)
  else if c = 126 then Ex.nameP l 4 (j + 1)
  else Ex.nameP l 2 j
set_option maxHeartbeats 2000000 in
theorem piece_any (s : ByteArray) (hs : s.size ≤ 2000) : ∀ (D d : Nat), d + D = 20 → Reads 167 s d (Ex.pieceP s.data.toList D) := by
  intro D
  induction D with
  | zero =>
    intro d hd b i w h hi
    have HS := hide (sign_any b s i d w h hi hs)
    have hd' : d = 20 := by omega
    subst hd'
    have HP : Hid (Ex.pieceP s.data.toList 0 i = .inl (4, Ex.skip s.data.toList i)) := rfl
    generalize Ex.pieceP s.data.toList 0 i = r at *
    generalize Ex.skip s.data.toList i = q at *
    generalize Ex.sg s.data.toList q = c at *
    clear h hd
    go_enter Tryz.func167, Tryz.ntmps167
    go_wp2_with fail
    refine HS.out.mono ?_
    rintro e w2 ⟨rfl, hr2, hk2⟩
    have HK2 := hide hk2
    have HR2 := hide hr2
    obtain ⟨c0, c1, c2, f1, f2⟩ := hr2
    clear hk2 HS
    go_wp2_with fail
    refine (wrong_any b s q 20 4 w2 HR2.out).mono ?_
    rintro e w3 ⟨rfl, rfl⟩
    go_wp2_with fail
    go_ret2
    rw [HP.out]
    exact Read.bad 4 HK2.out HR2.out
  | succ D ih =>
    intro d hd b i w h hi
    have hP := ih (d + 1) (by omega)
    have hA := Ex.pieceP_adv s.data.toList D
    have hPart := part_any s (d + 1) _ hA hP hs
    have hPA := Ex.partP_adv s.data.toList _ hA
    have hW := whole_any s (d + 1) _ hPA hPart hs
    have hWA := Ex.wholeP_adv s.data.toList _ hA
    have HL : Hid (s.data.toList.length = s.size) := by show _ = _; simp
    have HS := hide (sign_any b s i d w h hi hs)
    have hge := Ex.skip_ge s.data.toList i
    have hle := Ex.skip_le s.data.toList i (by rw [HL.out]; exact hi)
    rw [HL.out] at hle
    have HLT : Hid (Ex.sg s.data.toList (Ex.skip s.data.toList i) ≠ 32 → Ex.skip s.data.toList i < s.size) := fun hc => by have := Ex.sg_lt s.data.toList _ hc; rw [HL.out] at this; exact this
    have HP : Hid (Ex.pieceP s.data.toList (D + 1) i = pieceAt s.data.toList D (Ex.skip s.data.toList i) (Ex.sg s.data.toList (Ex.skip s.data.toList i))) := rfl
    have HNOT := hide (fun (w : World) (q : Nat) (hr : Rd b s q d w) (hq : q < s.size) => not_any b s q d _ hP w hr hq hs (by omega))
    have HPAR := hide (fun (w : World) (q : Nat) (hr : Rd b s q d w) (hq : q < s.size) => par_any b s q d _ hW hWA w hr hq hs (by omega))
    clear ih hP hA hPart hPA hW hWA h
    generalize Ex.pieceP s.data.toList (D + 1) i = r at *
    generalize Ex.skip s.data.toList i = q at *
    generalize Ex.sg s.data.toList q = c at *
    have hd19 : ¬ (19 : Int) < (d : Int) := by omega
    go_enter Tryz.func167, Tryz.ntmps167
    go_wp2_with fail
    refine HS.out.mono ?_
    rintro e w2 ⟨rfl, hr2, hk2⟩
    have HK2 := hide hk2
    have HR2 := hide hr2
    obtain ⟨c0, c1, c2, f1, f2⟩ := hr2
    clear hk2 HS
    by_cases q1 : c = 33
    · have hq := HLT.out (by omega)
      have HF : Hid (r = Ex.notP (Ex.pieceP s.data.toList D (q + 1))) := by show _ = _; rw [HP.out, pieceAt, if_pos q1]
      have e1 : ((c : Int) == 33) = true := beq_iff_eq.2 (by omega)
      clear q1 HP
      go_wp2_with fail
      refine (HNOT.out w2 q HR2.out hq).mono ?_
      intro e w3 hq3
      have HQ := hide (Read.from HK2.out hq3)
      obtain ⟨v0, v1, i', he, hrd⟩ := hq3.cells
      rw [he] at HQ
      rw [he]
      clear hq3 he hrd
      go_wp2_with fail
      go_ret2
      rw [HF.out]
      exact HQ.out
    have e1 : ((c : Int) == 33) = false := beq_eq_false_iff_ne.2 (by omega)
    by_cases q2 : c = 40
    · have hq := HLT.out (by omega)
      have HF : Hid (r = Ex.parP s.data.toList (Ex.wholeP s.data.toList (Ex.pieceP s.data.toList D) (q + 1))) := by show _ = _; rw [HP.out, pieceAt, if_neg q1, if_pos q2]
      have e2 : ((c : Int) == 40) = true := beq_iff_eq.2 (by omega)
      clear q1 q2 HP
      go_wp2_with fail
      refine (HPAR.out w2 q HR2.out hq).mono ?_
      intro e w3 hq3
      have HQ := hide (Read.from HK2.out hq3)
      obtain ⟨v0, v1, i', he, hrd⟩ := hq3.cells
      rw [he] at HQ
      rw [he]
      clear hq3 he hrd
      go_wp2_with fail
      go_ret2
      rw [HF.out]
      exact HQ.out
    have e2 : ((c : Int) == 40) = false := beq_eq_false_iff_ne.2 (by omega)
    by_cases q3 : c = 48
    · have hq := HLT.out (by omega)
      have HF : Hid (r = .inr (⟨0, [], []⟩, q + 1)) := by show _ = _; rw [HP.out, pieceAt, if_neg q1, if_neg q2, if_pos q3]
      have e3 : ((c : Int) == 48) = true := beq_iff_eq.2 (by omega)
      have e4 : ((c : Int) == 49) = false := beq_eq_false_iff_ne.2 (by omega)
      clear q1 q2 q3 HP
      go_wp2_with fail
      go_ret2
      rw [HF.out]
      exact ⟨HK2.out.setCell rfl _, _, rfl, by simp [IsEx], HR2.out.set1 (q + 1)⟩
    have e3 : ((c : Int) == 48) = false := beq_eq_false_iff_ne.2 (by omega)
    by_cases q4 : c = 49
    · have hq := HLT.out (by omega)
      have HF : Hid (r = .inr (⟨1, [], []⟩, q + 1)) := by show _ = _; rw [HP.out, pieceAt, if_neg q1, if_neg q2, if_neg q3, if_pos q4]
      have e4 : ((c : Int) == 49) = true := beq_iff_eq.2 (by omega)
      clear q1 q2 q3 q4 HP
      go_wp2_with fail
      go_ret2
      rw [HF.out]
      exact ⟨HK2.out.setCell rfl _, _, rfl, by simp [IsEx], HR2.out.set1 (q + 1)⟩
    have e4 : ((c : Int) == 49) = false := beq_eq_false_iff_ne.2 (by omega)
    by_cases q5 : c = 94
    · have hq := HLT.out (by omega)
      have HF : Hid (r = Ex.nameP s.data.toList 3 (q + 1)) := by show _ = _; rw [HP.out, pieceAt, if_neg q1, if_neg q2, if_neg q3, if_neg q4, if_pos q5]
      have e5 : ((c : Int) == 94) = true := beq_iff_eq.2 (by omega)
      clear q1 q2 q3 q4 q5 HP
      go_wp2_with fail
      refine (named_any _ 3 makes3 b s (q + 1) d _ (HR2.out.set1 (q + 1)) (by omega) hs).mono ?_
      intro e w3 hq3
      have HQ := hide (Read.from (HK2.out.setCell rfl _) hq3)
      obtain ⟨v0, v1, i', he, hrd⟩ := hq3.cells
      rw [he] at HQ
      rw [he]
      clear hq3 he hrd
      go_wp2_with fail
      go_ret2
      rw [HF.out]
      exact HQ.out
    have e5 : ((c : Int) == 94) = false := beq_eq_false_iff_ne.2 (by omega)
    by_cases q6 : c = 126
    · have hq := HLT.out (by omega)
      have HF : Hid (r = Ex.nameP s.data.toList 4 (q + 1)) := by show _ = _; rw [HP.out, pieceAt, if_neg q1, if_neg q2, if_neg q3, if_neg q4, if_neg q5, if_pos q6]
      have e6 : ((c : Int) == 126) = true := beq_iff_eq.2 (by omega)
      clear q1 q2 q3 q4 q5 q6 HP
      go_wp2_with fail
      refine (named_any _ 4 makes4 b s (q + 1) d _ (HR2.out.set1 (q + 1)) (by omega) hs).mono ?_
      intro e w3 hq3
      have HQ := hide (Read.from (HK2.out.setCell rfl _) hq3)
      obtain ⟨v0, v1, i', he, hrd⟩ := hq3.cells
      rw [he] at HQ
      rw [he]
      clear hq3 he hrd
      go_wp2_with fail
      go_ret2
      rw [HF.out]
      exact HQ.out
    have e6 : ((c : Int) == 126) = false := beq_eq_false_iff_ne.2 (by omega)
    have HF : Hid (r = Ex.nameP s.data.toList 2 q) := by show _ = _; rw [HP.out, pieceAt, if_neg q1, if_neg q2, if_neg q3, if_neg q4, if_neg q5, if_neg q6]
    clear q1 q2 q3 q4 q5 q6 HP
    go_wp2_with fail
    refine (named_any _ 2 makes2 b s q d w2 HR2.out hle hs).mono ?_
    intro e w3 hq3
    have HQ := hide (Read.from HK2.out hq3)
    obtain ⟨v0, v1, i', he, hrd⟩ := hq3.cells
    rw [he] at HQ
    rw [he]
    clear hq3 he hrd
    go_wp2_with fail
    go_ret2
    rw [HF.out]
    exact HQ.out
end
section
open Go.RowKit
/-- What Parse comes to in memory: an error, or an expression; nothing that was there has turned. -/
def Parsed (w : World) (r : (Nat × Option Nat) ⊕ Ex) (e : Ending) (w' : World) : Prop :=
  Below w.heap.size w w' ∧
  match r with
  | .inl (err, none) => e = .returned (.tuple #[.nilIface, .iface 40 (.int .i64 (err : Int))])
  | .inl (err, some p) => ∃ v, e = .returned (.tuple #[.nilIface, v]) ∧ IsErr w.heap.size w' v err p
  | .inr x => ∃ v, e = .returned (.tuple #[v, .nilIface]) ∧ IsEx (fun g => w.heap.size ≤ g) w' x v
theorem parse_long (l : List UInt8) (h : 2000 < l.length) : Ex.parse l = .inl (4, none) := by unfold Ex.parse; rw [if_pos h]
theorem parse_err (l : List UInt8) (h : ¬ 2000 < l.length) (err p : Nat) (he : Ex.wholeP l (Ex.pieceP l 20) 0 = .inl (err, p)) : Ex.parse l = .inl (err, some p) := by unfold Ex.parse; rw [if_neg h, he]
theorem parse_more (l : List UInt8) (h : ¬ 2000 < l.length) (x : Ex) (m : Nat) (he : Ex.wholeP l (Ex.pieceP l 20) 0 = .inr (x, m)) (hm : Ex.skip l m < l.length) : Ex.parse l = .inl (3, some (Ex.skip l m)) := by
  unfold Ex.parse; rw [if_neg h, he]; simp only [if_pos hm]
theorem parse_fine (l : List UInt8) (h : ¬ 2000 < l.length) (x : Ex) (m : Nat) (he : Ex.wholeP l (Ex.pieceP l 20) 0 = .inr (x, m)) (hm : ¬ Ex.skip l m < l.length) : Ex.parse l = .inr x := by
  unfold Ex.parse; rw [if_neg h, he]; simp only [if_neg hm]
set_option maxHeartbeats 1000000 in
theorem Parse_any (s : ByteArray) (w : World) (hs : s.size ≤ maxLen) :
    Calls Tryz.prog 33 #[.string s] w (Parsed w (Ex.parse s.data.toList)) := by
  unfold maxLen at hs
  have HL : Hid (s.data.toList.length = s.size) := by show _ = _; simp
  by_cases h2 : 2000 < s.size
  · have h2' : (2000 : Int) < (s.size : Int) := by omega
    have HF : Hid (Ex.parse s.data.toList = .inl (4, none)) := parse_long _ (by rw [HL.out]; exact h2)
    clear h2
    go_enter Tryz.func33, Tryz.ntmps33
    go_wp2_with fail
    go_ret2
    rw [HF.out]
    exact ⟨Below.refl _ _, rfl⟩
  · have h2' : ¬ (2000 : Int) < (s.size : Int) := by omega
    have hs2 : s.size ≤ 2000 := by omega
    have HN : Hid (¬ 2000 < s.data.toList.length) := by rw [HL.out]; exact h2
    have hA := Ex.pieceP_adv s.data.toList 20
    have hPart := part_any s 0 _ hA (piece_any s hs2 20 0 rfl) hs2
    have hW := whole_any s 0 _ (Ex.partP_adv s.data.toList _ hA) hPart hs2
    have hWA := Ex.wholeP_adv s.data.toList _ hA
    have hrd : Rd w.heap.size s 0 0 (w.alloc (.cells #[.string s, .int .i64 0, .int .i64 0] 177)) := by
      constructor <;> simp [go_sem]
    have HC := hide (hW w.heap.size 0 _ hrd (Nat.zero_le _))
    have HWA : Hid (∀ x m, Ex.wholeP s.data.toList (Ex.pieceP s.data.toList 20) 0 = .inr (x, m) → m ≤ s.size) := fun x m hx => by have := (hWA 0 x m (Nat.zero_le _) hx).2; rw [HL.out] at this; exact this
    have HB : Hid (∀ w', Keep w.heap.size (w.alloc (.cells #[.string s, .int .i64 0, .int .i64 0] 177)) w' → Below w.heap.size w w') := fun w' hk => ((Below.refl _ w).alloc (Nat.le_refl _) _).trans (hk.below (by simp) (Nat.le_refl _))
    obtain ⟨T, hT⟩ : ∃ T, T = Ex.wholeP s.data.toList (Ex.pieceP s.data.toList 20) 0 := ⟨_, rfl⟩
    have HT := hide hT
    change Hid (Calls _ _ _ _ (Read _ _ _ _ (Ex.wholeP s.data.toList (Ex.pieceP s.data.toList 20) 0))) at HC
    rw [← hT] at HC HWA
    clear hT hA hPart hW hWA hrd h2
    go_enter Tryz.func33, Tryz.ntmps33
    go_wp2_with fail
    refine HC.out.mono ?_
    intro e w1 hq
    clear HC
    match T, hq, HT, HWA with
    | .inl (err, p), hq, HT, _ =>
      obtain ⟨hk, v, i', rfl, herr, hrd⟩ := hq
      have HF := hide (parse_err _ HN.out err p HT.out.symm)
      have HE := hide herr
      have HK := hide hk
      obtain ⟨a, ha, hv, hc0, hc1⟩ := herr
      clear hrd hk ha hc0 hc1
      rw [hv] at HE
      rw [hv]
      clear hv
      go_wp2_with fail
      go_ret2
      rw [HF.out]
      exact ⟨HB.out _ HK.out, _, rfl, HE.out⟩
    | .inr (x, m), hq, HT, HWA =>
      obtain ⟨hk, u, rfl, hx, hrd⟩ := hq
      have hm := HWA.out x m rfl
      have HX := hide hx
      have HK := hide hk
      have HS := hide (sign_any _ s m 0 w1 hrd hm hs2)
      have HMORE := hide (parse_more _ HN.out x m HT.out.symm)
      have HFINE := hide (parse_fine _ HN.out x m HT.out.symm)
      have HIFF := hide (Ex.sg_skip s.data.toList m (by rw [HL.out]; exact hm))
      have hle := Ex.skip_le s.data.toList m (by rw [HL.out]; exact hm)
      rw [HL.out] at HMORE HFINE HIFF hle
      obtain ⟨tu, yu, hu⟩ := IsEx.iface x u hx
      clear hrd hk hx HWA
      subst hu
      generalize Ex.skip s.data.toList m = q at *
      generalize Ex.sg s.data.toList q = c at *
      go_wp2_with fail
      refine HS.out.mono ?_
      rintro e w2 ⟨rfl, hr2, hk2⟩
      have HK2 := hide hk2
      have HR2 := hide hr2
      clear hk2 HS hr2
      by_cases hc : c = 32
      · have e1 : ((c : Int) != 32) = false := by rw [hc]; rfl
        have hq := HIFF.out.1 hc
        have HF := hide (HFINE.out (by omega))
        clear hc hq HMORE HFINE HIFF
        go_wp2_with fail
        go_ret2
        rw [HF.out]
        refine ⟨HB.out _ (HK.out.trans HK2.out), _, rfl, IsEx.stay (Stay.keep HK2.out fun g hg e => ?_) (fun g hg => ?_) x _ HX.out⟩
        · simp at hg; omega
        · simp at hg; omega
      · have e1 : ((c : Int) != 32) = true := by simp; omega
        have hq : q < s.size := by
          by_cases hq : q < s.size
          · exact hq
          · exact absurd (HIFF.out.2 (by omega)) hc
        have HF := hide (HMORE.out hq)
        clear hc HMORE HFINE HIFF
        go_wp2_with fail
        refine (wrong_any _ s q 0 3 w2 HR2.out).mono ?_
        rintro e w3 ⟨rfl, rfl⟩
        go_wp2_with fail
        go_ret2
        rw [HF.out]
        refine ⟨(HB.out _ (HK.out.trans HK2.out)).alloc ?_ _, _, rfl, ⟨w2.heap.size, by have := HR2.out.lt; omega, rfl, ?_, ?_⟩⟩
        · have := (HK.out.trans HK2.out).size; simp at this; omega
        · simp [World.cell?_alloc_at]
        · simp [World.cell?_alloc_at]
end
section
open Go.RowKit
/-- which blocks an expression's rows may lie in -/
def okX (q : Nat) (nv rv sv : Value) (g : Nat) : Prop := q ≤ g ∧ some g ≠ nv.ownBlock ∧ some g ≠ rv.ownBlock ∧ some g ≠ sv.ownBlock
/-- in block b lies what was read: its rows lie from block q on; all below b stands as in w0 -/
structure RdX (b q : Nat) (w0 : World) (r : Ld.Rdg) (nv rv sv : Value) (vs : List Value) (W : World) : Prop where
  blk : W.heap[b]? = some (.cells #[nv, rv, sv] 220 (0, 0))
  on : W.ownsRow q 201 3 nv r.names.length (r.names.flatMap nmCells)
  org : W.ownsRow q 230 3 rv r.rungs.length ((r.rungs.zip vs).flatMap rgCells)
  os : W.ownsRow q 3 1 sv r.starts.length (r.starts.map intV)
  len : vs.length = r.rungs.length
  ex : ∀ (i : Nat) (g : Ld.Rng) (v : Value), r.rungs[i]? = some g → vs[i]? = some v → ∃ x l, g.cond = some x ∧ Ex.parse l = .inr x ∧ IsEx (okX q nv rv sv) W x v
  bn : ∀ n, n ∈ r.names → n.name.length ≤ 20000 ∧ I64 n.kind ∧ I64 n.count
  br : ∀ g, g ∈ r.rungs → g.name.length ≤ 20000 ∧ I64 g.kind
  lo : Below b w0 W
def Rdm (b q : Nat) (w0 : World) (r : Ld.Rdg) (W : World) : Prop := ∃ nv rv sv vs, RdX b q w0 r nv rv sv vs W
theorem RdX.lt {b q : Nat} {w0 : World} {r : Ld.Rdg} {nv rv sv : Value} {vs : List Value} {W : World} (h : RdX b q w0 r nv rv sv vs W) : b < W.heap.size := (Array.getElem?_eq_some_iff.1 h.blk).1
/-- it stands where blocks turn that are not its own -/
theorem RdX.grown {b q : Nat} {w0 : World} {r : Ld.Rdg} {nv rv sv : Value} {vs : List Value} {W W' : World} {row : Option Nat} (h : RdX b q w0 r nv rv sv vs W) (hg : W.grownBy W' row) (hr : ∀ k, row = some k → b < k ∧ k < q) : RdX b q w0 r nv rv sv vs W' := by
  have hk : ∀ (v : Value), (∀ g, v.ownBlock = some g → q ≤ g) → v.ownBlock = none ∨ v.ownBlock ≠ row := by
    intro v hv
    cases ho : v.ownBlock with
    | none => exact .inl rfl
    | some g => right; intro e; have := (hr g e.symm).2; have := hv g ho; omega
  have hlt := h.lt
  refine ⟨(hg.block _ hlt (fun e => by have := (hr b e.symm).1; omega)).trans h.blk, h.on.kept hg (hk nv fun g e => (h.on.lt g e).1), h.org.kept hg (hk rv fun g e => (h.org.lt g e).1), h.os.kept hg (hk sv fun g e => (h.os.lt g e).1), h.len, ?_, h.bn, h.br, h.lo.grown hg (by omega) (fun k e => by have := (hr k e).1; omega)⟩
  intro i g v h1 h2
  obtain ⟨x, l, e1, e2, e3⟩ := h.ex i g v h1 h2
  exact ⟨x, l, e1, e2, IsEx.stay (Stay.grown hg (fun g hg2 e => by have := (hr g e.symm).2; have := hg2.1; omega)) (fun _ h => h) x v e3⟩
theorem RdX.below {b q : Nat} {w0 : World} {r : Ld.Rdg} {nv rv sv : Value} {vs : List Value} {W W' : World} (h : RdX b q w0 r nv rv sv vs W) (hb : Below W.heap.size W W') : RdX b q w0 r nv rv sv vs W' := h.grown (row := none) (grown_below hb) (fun k e => by cases e)
/-- what stands of a world's blocks between b and q -/
def Kq (b q : Nat) (W W' : World) : Prop := W.heap.size ≤ W'.heap.size ∧ ∀ k, b < k → k < q → W'.heap[k]? = W.heap[k]?
theorem Kq.trans {b q : Nat} {A B C : World} (h : Kq b q A B) (k : Kq b q B C) : Kq b q A C := ⟨Nat.le_trans h.1 k.1, fun i h1 h2 => (k.2 i h1 h2).trans (h.2 i h1 h2)⟩
theorem Kq.below {b q : Nat} {W W' : World} (h : Below W.heap.size W W') (hq : q ≤ W.heap.size) : Kq b q W W' := ⟨h.size, fun k _ h2 => h.block k (by omega)⟩
/-- a row grew, and the slice was stored: all else stands -/
theorem grown_store {b q i : Nat} {w0 W W' : World} {v v' : Value} {c : Array Value} {t : TypeId} (hblk : W.heap[b]? = some (.cells c t (0, 0))) (hlo : Below b w0 W) (hg : W.grownBy W' v.ownBlock) (hv : ∀ g, v.ownBlock = some g → q ≤ g) (hbq : b < q) (hq : q ≤ W.heap.size) :
    (W'.setCell ⟨b, i, none⟩ v').heap[b]? = some (.cells (c.setIfInBounds i v') t (0, 0)) ∧ Kq b q W (W'.setCell ⟨b, i, none⟩ v') ∧ Below b w0 (W'.setCell ⟨b, i, none⟩ v') ∧ W'.grownBy (W'.setCell ⟨b, i, none⟩ v') (some b) := by
  have hlt : b < W.heap.size := (Array.getElem?_eq_some_iff.1 hblk).1
  have hne : ∀ k, k < q → some k ≠ v.ownBlock := fun k hk e => by have := hv k e.symm; omega
  have hb' : W'.heap[b]? = some (.cells c t (0, 0)) := (hg.block b hlt (hne b hbq)).trans hblk
  have hgs : W'.grownBy (W'.setCell ⟨b, i, none⟩ v') (some b) := ⟨rfl, rfl, rfl, by simp [World.setCell], fun k _ hk => Below.heap_setCell _ _ _ _ (fun e => hk (by simp [e]))⟩
  refine ⟨?_, ⟨?_, ?_⟩, ?_, hgs⟩
  · simp [World.setCell, Array.getElem?_modify, hb']
  · have := hg.size; simp [World.setCell]; omega
  · intro k h1 h2
    rw [Below.heap_setCell _ _ _ _ (fun e => by simp at e; omega), hg.block k (by omega) (hne k h2)]
  · exact (hlo.grown hg (by omega) (fun k e => by have := hv k e; omega)).setCell (by simp) _
/-- a row of another kind stands, though one grows and its slice is stored -/
theorem own_other {b q i : Nat} {W W' : World} {e e' : TypeId} {s s' : Nat} {v u v' : Value} {n n' : Nat} {xs xs' : List Value} (hv : W.ownsRow q e s v n xs) (hu : W.ownsRow q e' s' u n' xs') (hne : e' ≠ e) (hg : W.grownBy W' v.ownBlock) (hgs : W'.grownBy (W'.setCell ⟨b, i, none⟩ v') (some b)) (hbq : b < q) :
    (W'.setCell ⟨b, i, none⟩ v').ownsRow q e' s' u n' xs' := by
  have h1 : W'.ownsRow q e' s' u n' xs' := hu.kept hg (own_apart hu hv hne)
  refine h1.kept hgs ?_
  cases ho : u.ownBlock with
  | none => exact .inl rfl
  | some g => right; intro e2; have := (hu.lt g ho).1; cases e2; omega
/-- an expression stands likewise, also where the row's slice is another one by now -/
theorem ex_other {b i : Nat} {W W' : World} {ok ok' : Nat → Prop} {x : Ex} {u v v' : Value} (h : IsEx ok W x u) (hg : W.grownBy W' v.ownBlock) (hgs : W'.grownBy (W'.setCell ⟨b, i, none⟩ v') (some b)) (hok : ∀ g, ok g → g < W.heap.size → b < g ∧ some g ≠ v.ownBlock ∧ ok' g) : IsEx ok' (W'.setCell ⟨b, i, none⟩ v') x u := by
  refine IsEx.stay (ok := fun g => ok g ∧ g < W.heap.size) (w := W) ?_ (fun g hgg => (hok g hgg.1 hgg.2).2.2) x u (IsEx.lt x u h)
  intro g i u hgg hc
  have h1 := hg.cell hc (fun e => (hok g hgg.1 hgg.2).2.1 e)
  exact hgs.cell h1 (fun e => by have := (hok g hgg.1 hgg.2).1; simp at e; omega)
/-- where a row's slice lies behind an append: where it lay, or in a new block -/
theorem okX_new {g' : Nat} {W : World} {nv rv sv : Value} (k : Nat) (hk : some k ≠ nv.ownBlock ∧ some k ≠ rv.ownBlock ∧ some k ≠ sv.ownBlock) (u : Value) (hu : u = nv ∨ u = rv ∨ u = sv) (hat : u.ownBlock = some g' ∨ g' = W.heap.size) (hlt : k < W.heap.size) (n c : Nat) : some k ≠ (Value.slice (some ⟨g', 0, none⟩) n c).ownBlock := by
  intro e
  simp only [Value.ownBlock, Option.some.injEq] at e
  subst e
  rcases hat with h | h
  · rcases hu with rfl | rfl | rfl
    · exact hk.1 h.symm
    · exact hk.2.1 h.symm
    · exact hk.2.2 h.symm
  · omega
theorem RdX.putStart {b q : Nat} {w0 : World} {r : Ld.Rdg} {nv rv sv : Value} {vs : List Value} {W W' : World} (h : RdX b q w0 r nv rv sv vs W) (hbq : b < q) (hq : q ≤ W.heap.size) (st g cap : Nat) (hown : W'.ownsRow q 3 1 (.slice (some ⟨g, 0, none⟩) (r.starts.length + 1) cap) (r.starts.length + 1) (r.starts.map intV ++ [intV st])) (hg : W.grownBy W' sv.ownBlock) (hat : sv.ownBlock = some g ∨ g = W.heap.size) :
    RdX b q w0 ⟨r.names, r.rungs, r.starts ++ [st]⟩ nv rv (.slice (some ⟨g, 0, none⟩) (r.starts.length + 1) cap) vs (W'.setCell ⟨b, 2, none⟩ (.slice (some ⟨g, 0, none⟩) (r.starts.length + 1) cap)) ∧ Kq b q W (W'.setCell ⟨b, 2, none⟩ (.slice (some ⟨g, 0, none⟩) (r.starts.length + 1) cap)) := by
  obtain ⟨k1, k2, k3, k4⟩ := grown_store (i := 2) (v' := .slice (some ⟨g, 0, none⟩) (r.starts.length + 1) cap) h.blk h.lo hg (fun g e => (h.os.lt g e).1) hbq hq
  refine ⟨⟨by simpa using k1, own_other h.os h.on (by decide) hg k4 hbq, own_other h.os h.org (by decide) hg k4 hbq, ?_, h.len, ?_, h.bn, h.br, k3⟩, k2⟩
  · have e1 : (r.starts ++ [st]).length = r.starts.length + 1 := by simp
    have e2 : (r.starts ++ [st]).map intV = r.starts.map intV ++ [intV st] := by simp
    rw [e1, e2]
    exact hown.kept k4 (.inr (by intro e; have := (hown.lt g rfl).1; simp only [Value.ownBlock, Option.some.injEq] at e; omega))
  · intro i gr v h1 h2
    obtain ⟨x, l, e1, e2, e3⟩ := h.ex i gr v h1 h2
    refine ⟨x, l, e1, e2, ex_other e3 hg k4 (fun k hk hlt => ⟨by have := hk.1; omega, hk.2.2.2, hk.1, hk.2.1, hk.2.2.1, okX_new k hk.2 sv (.inr (.inr rfl)) hat hlt _ _⟩)⟩
theorem RdX.putName {b q : Nat} {w0 : World} {r : Ld.Rdg} {nv rv sv : Value} {vs : List Value} {W W' : World} (h : RdX b q w0 r nv rv sv vs W) (hbq : b < q) (hq : q ≤ W.heap.size) (n : Ld.Nme) (hn : n.name.length ≤ 20000 ∧ I64 n.kind ∧ I64 n.count) (g cap : Nat) (hown : W'.ownsRow q 201 3 (.slice (some ⟨g, 0, none⟩) (r.names.length + 1) cap) (r.names.length + 1) (r.names.flatMap nmCells ++ nmCells n)) (hg : W.grownBy W' nv.ownBlock) (hat : nv.ownBlock = some g ∨ g = W.heap.size) :
    RdX b q w0 ⟨r.names ++ [n], r.rungs, r.starts⟩ (.slice (some ⟨g, 0, none⟩) (r.names.length + 1) cap) rv sv vs (W'.setCell ⟨b, 0, none⟩ (.slice (some ⟨g, 0, none⟩) (r.names.length + 1) cap)) ∧ Kq b q W (W'.setCell ⟨b, 0, none⟩ (.slice (some ⟨g, 0, none⟩) (r.names.length + 1) cap)) := by
  obtain ⟨k1, k2, k3, k4⟩ := grown_store (i := 0) (v' := .slice (some ⟨g, 0, none⟩) (r.names.length + 1) cap) h.blk h.lo hg (fun g e => (h.on.lt g e).1) hbq hq
  refine ⟨⟨by simpa using k1, ?_, own_other h.on h.org (by decide) hg k4 hbq, own_other h.on h.os (by decide) hg k4 hbq, h.len, ?_, ?_, h.br, k3⟩, k2⟩
  · have e1 : (r.names ++ [n]).length = r.names.length + 1 := by simp
    have e2 : (r.names ++ [n]).flatMap nmCells = r.names.flatMap nmCells ++ nmCells n := by simp
    rw [e1, e2]
    exact hown.kept k4 (.inr (by intro e; have := (hown.lt g rfl).1; simp only [Value.ownBlock, Option.some.injEq] at e; omega))
  · intro i gr v h1 h2
    obtain ⟨x, l, e1, e2, e3⟩ := h.ex i gr v h1 h2
    refine ⟨x, l, e1, e2, ex_other e3 hg k4 (fun k hk hlt => ⟨by have := hk.1; omega, hk.2.1, hk.1, okX_new k hk.2 nv (.inl rfl) hat hlt _ _, hk.2.2.1, hk.2.2.2⟩)⟩
  · intro m hm
    rw [List.mem_append] at hm
    rcases hm with hm | hm
    · exact h.bn m hm
    · simp at hm; subst hm; exact hn
theorem RdX.putRung {b q : Nat} {w0 : World} {r : Ld.Rdg} {nv rv sv : Value} {vs : List Value} {W W' : World} (h : RdX b q w0 r nv rv sv vs W) (hbq : b < q) (hq : q ≤ W.heap.size) (k : Int) (nm : List UInt8) (x : Ex) (v : Value) (l : List UInt8) (hk : nm.length ≤ 20000 ∧ I64 k) (hp : Ex.parse l = .inr x) (hx : IsEx (okX q nv rv sv) W x v) (g cap : Nat) (hown : W'.ownsRow q 230 3 (.slice (some ⟨g, 0, none⟩) (r.rungs.length + 1) cap) (r.rungs.length + 1) ((r.rungs.zip vs).flatMap rgCells ++ [.int .i64 k, .string ⟨nm.toArray⟩, v])) (hg : W.grownBy W' rv.ownBlock) (hat : rv.ownBlock = some g ∨ g = W.heap.size) :
    RdX b q w0 ⟨r.names, r.rungs ++ [⟨k, nm, some x⟩], r.starts⟩ nv (.slice (some ⟨g, 0, none⟩) (r.rungs.length + 1) cap) sv (vs ++ [v]) (W'.setCell ⟨b, 1, none⟩ (.slice (some ⟨g, 0, none⟩) (r.rungs.length + 1) cap)) ∧ Kq b q W (W'.setCell ⟨b, 1, none⟩ (.slice (some ⟨g, 0, none⟩) (r.rungs.length + 1) cap)) := by
  obtain ⟨k1, k2, k3, k4⟩ := grown_store (i := 1) (v' := .slice (some ⟨g, 0, none⟩) (r.rungs.length + 1) cap) h.blk h.lo hg (fun g e => (h.org.lt g e).1) hbq hq
  have hex : ∀ (y : Ex) (u : Value), IsEx (okX q nv rv sv) W y u → IsEx (okX q nv (.slice (some ⟨g, 0, none⟩) (r.rungs.length + 1) cap) sv) (W'.setCell ⟨b, 1, none⟩ (.slice (some ⟨g, 0, none⟩) (r.rungs.length + 1) cap)) y u := fun y u e3 =>
    ex_other e3 hg k4 (fun k hk hlt => ⟨by have := hk.1; omega, hk.2.2.1, hk.1, hk.2.1, okX_new k hk.2 rv (.inr (.inl rfl)) hat hlt _ _, hk.2.2.2⟩)
  refine ⟨⟨by simpa using k1, own_other h.org h.on (by decide) hg k4 hbq, ?_, own_other h.org h.os (by decide) hg k4 hbq, by simp [h.len], ?_, h.bn, ?_, k3⟩, k2⟩
  · have e1 : (r.rungs ++ [(⟨k, nm, some x⟩ : Ld.Rng)]).length = r.rungs.length + 1 := by simp
    have e2 : ((r.rungs ++ [(⟨k, nm, some x⟩ : Ld.Rng)]).zip (vs ++ [v])).flatMap rgCells = (r.rungs.zip vs).flatMap rgCells ++ [.int .i64 k, .string ⟨nm.toArray⟩, v] := by
      rw [List.zip_append h.len.symm]; simp [rgCells]
    rw [e1, e2]
    exact hown.kept k4 (.inr (by intro e; have := (hown.lt g rfl).1; simp only [Value.ownBlock, Option.some.injEq] at e; omega))
  · intro i gr u h1 h2
    by_cases hi : i < r.rungs.length
    · rw [List.getElem?_append_left hi] at h1
      rw [List.getElem?_append_left (by rw [h.len]; exact hi)] at h2
      obtain ⟨y, l', e1, e2, e3⟩ := h.ex i gr u h1 h2
      exact ⟨y, l', e1, e2, hex y u e3⟩
    · rw [List.getElem?_append_right (by omega)] at h1
      rw [List.getElem?_append_right (by rw [h.len]; omega), h.len] at h2
      have hi0 : i - r.rungs.length = 0 := by
        by_cases h : i - r.rungs.length = 0
        · exact h
        · rw [List.getElem?_eq_none (by simp; omega)] at h1; cases h1
      rw [hi0] at h1 h2
      simp only [List.getElem?_cons_zero, Option.some.injEq] at h1 h2
      subst h1
      subst h2
      exact ⟨x, l, rfl, hp, hex x v hx⟩
  · intro m hm
    rw [List.mem_append] at hm
    rcases hm with hm | hm
    · exact h.br m hm
    · simp at hm; subst hm; exact hk
end
section
namespace ErAs
open Go.RowKit Go.Extern.Stop Go.Stop Go.Extern
/-- the handle of a type -/
abbrev hd (t : Nat) : Value := .pointer (some ⟨14, t, none⟩)
/-- the Value of the pointer that is the target -/
abbrev tv (a : Addr) : Value := .agg #[hd 288, .pointer (some a), .int .u64 150]
theorem valueOfP (t : Addr) (w : World) : (ReflectliteValue.unpack (.iface 288 (.pointer (some t)))).run Tryz.prog w = .ok (tv ⟨w.heap.size, 0, none⟩) (w.alloc (.cells #[.pointer (some t)] 288)) := by kernel_rfl
theorem typeP (a : Addr) (w : World) : (ReflectliteValue.methodAny (ReflectliteValue.valueError "reflectlite.Value.Type" 0) (fun t _ _ _ => ReflectliteType.toType t) #[tv a]).run Tryz.prog w = .ok (.iface 362 (.agg #[hd 288])) w := by kernel_rfl
theorem methodKind (h : Value) (w : World) : (Go.method 532 362 (.agg #[h]) "Kind").run Tryz.prog w = .ok (298, h) w := by kernel_rfl
theorem kindP (w : World) : ((ReflectliteType.abiMethod fun t => (fun a : Nat => Value.int IntKind.u8 (a : Int)) <$> Rtype.kind t) #[hd 288]).run Tryz.prog w = .ok (.int .u8 22) w := by kernel_rfl
theorem kindE (w : World) : ((ReflectliteType.abiMethod fun t => (fun a : Nat => Value.int IntKind.u8 (a : Int)) <$> Rtype.kind t) #[hd 40]).run Tryz.prog w = .ok (.int .u8 2) w := by kernel_rfl
theorem rlm (z : Sem Value) (f : TypeId → Addr → Nat → Nat → Sem Value) (v : Value) :
    ReflectliteValue.method z f #[v] = (do match ← ReflectliteValue.parts v with | none => z | some (t, a, fl) => f t a fl (fl % 32)) := rfl
theorem partsP (a : Addr) (w : World) : (ReflectliteValue.parts (tv a)).run Tryz.prog w = .ok (some (288, a, 150)) w := by kernel_rfl
theorem isNilP (a p : Addr) (W : World) (ha : W.cell? a = some (.pointer (some p))) :
    (ReflectliteValue.method (ReflectliteValue.valueError "reflectlite.Value.IsNil" 0) ReflectliteValue.isNil #[tv a]).run Tryz.prog W = .ok (.bool false) W := by
  rw [rlm]
  simp only [Sem.run_bind, partsP, Result.andThen]
  simp [ReflectliteValue.isNil, loadVar, isAgg, underlying, Tryz.underlying288, ha, Result.andThen]
theorem methodElem (h : Value) (w : World) : (Go.method 532 362 (.agg #[h]) "Elem").run Tryz.prog w = .ok (324, .agg #[h]) w := by kernel_rfl
theorem methodImplements (h : Value) (w : World) : (Go.method 532 362 (.agg #[h]) "Implements").run Tryz.prog w = .ok (325, .agg #[h]) w := by kernel_rfl
theorem methodAssignableTo (h : Value) (w : World) : (Go.method 532 362 (.agg #[h]) "AssignableTo").run Tryz.prog w = .ok (322, .agg #[h]) w := by kernel_rfl
theorem elemP (w : World) : (ReflectliteType.method ReflectliteType.elem #[.agg #[hd 288]]).run Tryz.prog w = .ok (.iface 362 (.agg #[hd 40])) w := by kernel_rfl
theorem implementsE (w : World) : (ReflectliteType.relation "Implements" ReflectliteType.implements_ #[.agg #[hd 40], .iface 362 (.agg #[hd 33])]).run Tryz.prog w = .ok (.bool true) w := by kernel_rfl
theorem typeOfE (v : Value) (w : World) : (ReflectliteType.typeOf #[.iface 40 v]).run Tryz.prog w = .ok (.iface 362 (.agg #[hd 40])) w := by kernel_rfl
theorem typeOfA (v : Value) (w : World) : (ReflectliteType.typeOf #[.iface 227 v]).run Tryz.prog w = .ok (.iface 362 (.agg #[hd 227])) w := by kernel_rfl
theorem assignableE (w : World) : (ReflectliteType.relation "AssignableTo" ReflectliteType.assignableTo #[.agg #[hd 40], .iface 362 (.agg #[hd 40])]).run Tryz.prog w = .ok (.bool true) w := by kernel_rfl
theorem assignableA (w : World) : (ReflectliteType.relation "AssignableTo" ReflectliteType.assignableTo #[.agg #[hd 227], .iface 362 (.agg #[hd 40])]).run Tryz.prog w = .ok (.bool false) w := by kernel_rfl
theorem valueOfE (n : Int) (w : World) : (ReflectliteValue.unpack (.iface 40 (.int .i64 n))).run Tryz.prog w = .ok (.agg #[hd 40, .pointer (some ⟨w.heap.size, 0, none⟩), .int .u64 130]) (w.alloc (.cells #[.int .i64 n] 40)) := by kernel_rfl
theorem elemOfP (w : World) : (Rtype.elem? 288).run Tryz.prog w = .ok (some 40) w := by kernel_rfl
theorem mkE (p : Addr) (w : World) : (ReflectliteValue.mk 40 p ReflectliteValue.flagAddr).run Tryz.prog w = .ok (.agg #[hd 40, .pointer (some p), .int .u64 386]) w := by kernel_rfl
theorem elemV (a p : Addr) (W : World) (ha : W.cell? a = some (.pointer (some p))) :
    (ReflectliteValue.method (ReflectliteValue.valueError "reflectlite.Value.Elem" 0) ReflectliteValue.elem #[tv a]).run Tryz.prog W = .ok (.agg #[hd 40, .pointer (some p), .int .u64 386]) W := by
  rw [rlm]
  simp only [Sem.run_bind, partsP, Result.andThen]
  simp [ReflectliteValue.elem, loadVar, isAgg, underlying, Tryz.underlying288, ha, Result.andThen, elemOfP, mkE]
theorem partsE (a : Addr) (fl : Nat) (hfl : fl = 386 ∨ fl = 130) (w : World) : (ReflectliteValue.parts (.agg #[hd 40, .pointer (some a), .int .u64 fl])).run Tryz.prog w = .ok (some (40, a, fl)) w := by
  rcases hfl with rfl | rfl
  · kernel_rfl
  · kernel_rfl
theorem directE (w : World) : (Rtype.directlyAssignable 40 40).run Tryz.prog w = .ok true w := by kernel_rfl
/-- (Value).Set: the Errno at ta gets what lies at b -/
theorem setE (ta b : Addr) (n : Int) (old : Value) (W : World) (hb : W.cell? b = some (.int .i64 n)) (ht : W.cell? ta = some old) (hf : W.frozen? ta = false) :
    (ReflectliteValue.set #[.agg #[hd 40, .pointer (some ta), .int .u64 386], .agg #[hd 40, .pointer (some b), .int .u64 130]]).run Tryz.prog W = .ok (.tuple #[]) (W.setCell ta (.int .i64 n)) := by
  have e1 := partsE ta 386 (.inl rfl) W
  have e2 := partsE b 130 (.inr rfl) W
  refine (congrArg (fun z : Sem Value => z.run Tryz.prog W) (show ReflectliteValue.set #[.agg #[hd 40, .pointer (some ta), .int .u64 386], .agg #[hd 40, .pointer (some b), .int .u64 130]] = (ReflectliteValue.parts (.agg #[hd 40, .pointer (some ta), .int .u64 ((386 : Nat) : Int)]) >>= fun p => ReflectliteValue.parts (.agg #[hd 40, .pointer (some b), .int .u64 ((130 : Nat) : Int)]) >>= fun q => _) from rfl)).trans ?_
  simp only [Sem.run_bind, e1, e2, Result.andThen]
  simp [ReflectliteValue.flagAddr, loadVar, isAgg, underlying, Tryz.underlying40, hb, Result.andThen, directE, storeVar, Value.cells, storeCells, Addr.add]
  rw [run_store Tryz.prog W ta _ _ (by rfl)]
  simp [ht, hf]
end ErAs
end
end Go.Proofs.YtgldbliohpfljaaGreatDoor
