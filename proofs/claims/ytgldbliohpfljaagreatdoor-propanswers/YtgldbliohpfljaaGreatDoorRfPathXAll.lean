/-
  The document's Paths, in plain words: level by level, what is told of a state is the way by which it is come to first. The walks of the document's before and Paths. The walk of the document's Paths.
-/
import Derived.Test.YtgldbliohpfljaaGreatDoorRcLeastAll
import Derived.Test.YtgldbliohpfljaaGreatDoorRlStayAll
import Derived.Test.YtgldbliohpfljaaGreatDoorNaEdgesAll
import Derived.Deep.QuietTactic
import Derived.BigQuiet
namespace Go.Proofs.YtgldbliohpfljaaGreatDoor
section
namespace Rf
open Rc
/-- a way of d + 1 inputs to state t, of those looked at: ahead of state s, and of it by inputs ahead of i -/
def Cand (next : Nat → List Nat) (S d s i t : Nat) (c : List Nat) : Prop := ∃ s' i' : Nat, (s' < s ∨ (s' = s ∧ i' < i)) ∧ s' < S ∧ ((walk next S).at_ s').far = (d : Int) ∧ (next s')[i']? = some t ∧ c = pathOf (walk next S) d s' ++ [i']
theorem Cand.length {next : Nat → List Nat} {S d s i t : Nat} {c : List Nat} (h : Cand next S d s i t c) : c.length = d + 1 := by
  obtain ⟨_, _, _, _, _, _, rfl⟩ := h
  rw [List.length_append, pathOf_len]
  rfl
structure PInv (next : Nat → List Nat) (S : Nat) (out : List (Option (List Nat))) (d s i : Nat) : Prop where
  len : out.length = S
  near : ∀ t, t < S → ∀ n : Nat, ((walk next S).at_ t).far = (n : Int) → n ≤ d → out.getD t none = some (pathOf (walk next S) n t)
  none_ : ∀ t, t < S → ((walk next S).at_ t).far < 0 ∨ (d : Int) + 1 < ((walk next S).at_ t).far → out.getD t none = none
  part : ∀ t, t < S → ((walk next S).at_ t).far = (d : Int) + 1 → (out.getD t none = none ∧ ∀ c, ¬ Cand next S d s i t c) ∨ ∃ p, out.getD t none = some p ∧ Cand next S d s i t p ∧ ∀ c, Cand next S d s i t c → c = p ∨ bef p c = true
theorem getD_setO (l : List (Option (List Nat))) (n : Nat) (v : Option (List Nat)) (j : Nat) : (l.set n v).getD j none = if j = n ∧ n < l.length then v else l.getD j none := by
  rw [List.getD_eq_getElem?_getD, List.getD_eq_getElem?_getD, List.getElem?_set]
  by_cases h : n = j
  · subst h
    by_cases h2 : n < l.length
    · simp [h2]
    · simp [h2]
  · rw [if_neg h, if_neg (fun e => h e.1.symm)]
theorem PInv.start (next : Nat → List Nat) (S : Nat) (hS : 1 ≤ S) (hn : ∀ f s, f < S → s ∈ next f → s < S) : PInv next S ((List.replicate S none).set 0 (some [])) 0 0 0 := by
  have hw := walk_far next S hS hn
  have hg : ∀ j, ((List.replicate S (none : Option (List Nat))).set 0 (some [])).getD j none = if j = 0 then some [] else none := fun j => by
    rw [getD_setO]
    by_cases e : j = 0
    · rw [if_pos ⟨e, by simp; omega⟩, if_pos e]
    · rw [if_neg (fun h => e h.1), if_neg e, List.getD_eq_getElem?_getD, List.getElem?_replicate]
      split <;> rfl
  refine ⟨by simp, fun t ht n h0 hn0 => ?_, fun t ht h0 => ?_, fun t ht h0 => .inl ⟨?_, fun c hc => ?_⟩⟩
  · obtain rfl : n = 0 := by omega
    have := hw.one t ht (by simpa using h0)
    subst this
    rw [hg, if_pos rfl]
    rfl
  · rw [hg, if_neg (fun e => by subst e; rw [hw.zero] at h0; omega)]
  · rw [hg, if_neg (fun e => by subst e; rw [hw.zero] at h0; omega)]
  · obtain ⟨s', i', h, _⟩ := hc
    omega
/-- a way that is none of this level's next ones is passed by -/
theorem PInv.pass {next : Nat → List Nat} {S : Nat} {out : List (Option (List Nat))} {d s i t : Nat} (h : PInv next S out d s i) (hi : (next s)[i]? = some t) (hf : ¬ ((walk next S).at_ t).far = (d : Int) + 1) : PInv next S out d s (i + 1) := by
  refine ⟨h.len, h.near, h.none_, fun u hu hfu => ?_⟩
  have key : ∀ c, Cand next S d s (i + 1) u c → Cand next S d s i u c := fun c ⟨s', i', h1, h2, h3, h4, h5⟩ => by
    refine ⟨s', i', ?_, h2, h3, h4, h5⟩
    rcases h1 with h1 | ⟨rfl, h1⟩
    · exact .inl h1
    · by_cases e : i' = i
      · subst e
        rw [hi] at h4
        cases h4
        exact absurd hfu hf
      · exact .inr ⟨rfl, by omega⟩
  have mk : ∀ c, Cand next S d s i u c → Cand next S d s (i + 1) u c := fun c ⟨s', i', h1, h2, h3, h4, h5⟩ => ⟨s', i', by omega, h2, h3, h4, h5⟩
  rcases h.part u hu hfu with ⟨h1, h2⟩ | ⟨p, h1, h2, h3⟩
  · exact .inl ⟨h1, fun c hc => h2 c (key c hc)⟩
  · exact .inr ⟨p, h1, mk p h2, fun c hc => h3 c (key c hc)⟩
theorem cand_new {next : Nat → List Nat} {S d s i t u : Nat} {c : List Nat} (hi : (next s)[i]? = some t) (hc : Cand next S d s (i + 1) u c) : Cand next S d s i u c ∨ (u = t ∧ c = pathOf (walk next S) d s ++ [i]) := by
  obtain ⟨s', i', h1, h2, h3, h4, h5⟩ := hc
  rcases h1 with h1 | ⟨rfl, h1⟩
  · exact .inl ⟨s', i', .inl h1, h2, h3, h4, h5⟩
  · by_cases e : i' = i
    · subst e
      rw [hi] at h4
      cases h4
      exact .inr ⟨rfl, h5⟩
    · exact .inl ⟨s', i', .inr ⟨rfl, by omega⟩, h2, h3, h4, h5⟩
theorem cand_old {next : Nat → List Nat} {S d s i u : Nat} {c : List Nat} (hc : Cand next S d s i u c) : Cand next S d s (i + 1) u c := by
  obtain ⟨s', i', h1, h2, h3, h4, h5⟩ := hc
  exact ⟨s', i', by omega, h2, h3, h4, h5⟩
/-- a way that is the first one, or is ahead of the one that was told -/
theorem PInv.put {next : Nat → List Nat} {S : Nat} {out : List (Option (List Nat))} {d s i t : Nat} (h : PInv next S out d s i) (hs : s < S) (hd : ((walk next S).at_ s).far = (d : Int)) (ht : t < S) (hi : (next s)[i]? = some t) (hf : ((walk next S).at_ t).far = (d : Int) + 1)
    (hx : out.getD t none = none ∨ ∃ x, out.getD t none = some x ∧ bef (pathOf (walk next S) d s ++ [i]) x = true) : PInv next S (out.set t (some (pathOf (walk next S) d s ++ [i]))) d s (i + 1) := by
  have hg : ∀ j, (out.set t (some (pathOf (walk next S) d s ++ [i]))).getD j none = if j = t then some (pathOf (walk next S) d s ++ [i]) else out.getD j none := fun j => by
    rw [getD_setO]
    have := h.len
    by_cases e : j = t
    · rw [if_pos ⟨e, by omega⟩, if_pos e]
    · rw [if_neg (fun k => e k.1), if_neg e]
  refine ⟨by simp [h.len], fun u hu n hn hnd => ?_, fun u hu h0 => ?_, fun u hu hfu => ?_⟩
  · rw [hg, if_neg (fun e => by subst e; omega)]
    exact h.near u hu n hn hnd
  · rw [hg, if_neg (fun e => by subst e; omega)]
    exact h.none_ u hu h0
  · by_cases e : u = t
    · subst e
      refine .inr ⟨pathOf (walk next S) d s ++ [i], by rw [hg, if_pos rfl], ⟨s, i, .inr ⟨rfl, by omega⟩, hs, hd, hi, rfl⟩, fun c hc => ?_⟩
      rcases cand_new hi hc with hc | ⟨_, rfl⟩
      · rcases h.part u hu hfu with ⟨h1, h2⟩ | ⟨p, h1, h2, h3⟩
        · exact absurd hc (h2 c)
        · rcases hx with hx | ⟨x, hx, hb⟩
          · rw [hx] at h1; cases h1
          · rw [hx] at h1
            cases h1
            rcases h3 c hc with rfl | h4
            · exact .inr hb
            · exact .inr (bef_trans _ _ _ hb h4)
      · exact .inl rfl
    · rw [hg, if_neg e]
      rcases h.part u hu hfu with ⟨h1, h2⟩ | ⟨p, h1, h2, h3⟩
      · exact .inl ⟨h1, fun c hc => by
          rcases cand_new hi hc with hc | ⟨e2, _⟩
          · exact h2 c hc
          · exact e e2⟩
      · exact .inr ⟨p, h1, cand_old h2, fun c hc => by
          rcases cand_new hi hc with hc | ⟨e2, _⟩
          · exact h3 c hc
          · exact absurd e2 e⟩
/-- a way that is not ahead of the one that was told -/
theorem PInv.keep {next : Nat → List Nat} {S : Nat} {out : List (Option (List Nat))} {d s i t : Nat} {x : List Nat} (h : PInv next S out d s i) (hi : (next s)[i]? = some t) (hx : out.getD t none = some x) (hb : bef (pathOf (walk next S) d s ++ [i]) x = false) : PInv next S out d s (i + 1) := by
  refine ⟨h.len, h.near, h.none_, fun u hu hfu => ?_⟩
  by_cases e : u = t
  · subst e
    rcases h.part u hu hfu with ⟨h1, h2⟩ | ⟨p, h1, h2, h3⟩
    · rw [hx] at h1; cases h1
    · rw [hx] at h1
      cases h1
      refine .inr ⟨x, hx, cand_old h2, fun c hc => ?_⟩
      rcases cand_new hi hc with hc | ⟨_, rfl⟩
      · exact h3 c hc
      · rcases bef_tri (pathOf (walk next S) d s ++ [i]) x (by rw [h2.length, List.length_append, pathOf_len]; rfl) with h4 | h4 | h4
        · exact .inl h4
        · rw [hb] at h4; cases h4
        · exact .inr h4
  · rcases h.part u hu hfu with ⟨h1, h2⟩ | ⟨p, h1, h2, h3⟩
    · exact .inl ⟨h1, fun c hc => by
        rcases cand_new hi hc with hc | ⟨e2, _⟩
        · exact h2 c hc
        · exact e e2⟩
    · exact .inr ⟨p, h1, cand_old h2, fun c hc => by
        rcases cand_new hi hc with hc | ⟨e2, _⟩
        · exact h3 c hc
        · exact absurd e2 e⟩
/-- the next state -/
theorem PInv.next {next : Nat → List Nat} {S : Nat} {out : List (Option (List Nat))} {d s i : Nat} (h : PInv next S out d s i) (hi : ((walk next S).at_ s).far = (d : Int) → (next s).length ≤ i) : PInv next S out d (s + 1) 0 := by
  have key : ∀ u c, Cand next S d (s + 1) 0 u c → Cand next S d s i u c := fun u c ⟨s', i', h1, h2, h3, h4, h5⟩ => by
    refine ⟨s', i', ?_, h2, h3, h4, h5⟩
    by_cases e : s' = s
    · subst e
      have := (List.getElem?_eq_some_iff.1 h4).1
      exact .inr ⟨rfl, by have := hi h3; omega⟩
    · exact .inl (by omega)
  have mk : ∀ u c, Cand next S d s i u c → Cand next S d (s + 1) 0 u c := fun u c ⟨s', i', h1, h2, h3, h4, h5⟩ => ⟨s', i', .inl (by omega), h2, h3, h4, h5⟩
  refine ⟨h.len, h.near, h.none_, fun u hu hfu => ?_⟩
  rcases h.part u hu hfu with ⟨h1, h2⟩ | ⟨p, h1, h2, h3⟩
  · exact .inl ⟨h1, fun c hc => h2 c (key u c hc)⟩
  · exact .inr ⟨p, h1, mk u p h2, fun c hc => h3 c (key u c hc)⟩
/-- the next level -/
theorem PInv.deeper {next : Nat → List Nat} {S : Nat} {out : List (Option (List Nat))} {d : Nat} (hS : 1 ≤ S) (hn : ∀ f s, f < S → s ∈ next f → s < S) (h : PInv next S out d S 0) : PInv next S out (d + 1) 0 0 := by
  have hw := walk_far next S hS hn
  refine ⟨h.len, fun t ht n hf hnd => ?_, fun t ht h0 => h.none_ t ht (by omega), fun t ht hf => .inl ⟨h.none_ t ht (by omega), fun c ⟨s', i', h1, _⟩ => by omega⟩⟩
  by_cases e : n ≤ d
  · exact h.near t ht n hf e
  · obtain rfl : n = d + 1 := by omega
    have hf1 : ((walk next S).at_ t).far = (d : Int) + 1 := by rw [hf]; simp
    obtain ⟨p1, p2, p3⟩ := hw.par t ht (by omega)
    have hP : Cand next S d S 0 t (pathOf (walk next S) (d + 1) t) := ⟨_, _, .inl p1, p1, by omega, p3, rfl⟩
    rcases h.part t ht hf1 with ⟨_, h2⟩ | ⟨p, h1, h2, h3⟩
    · exact absurd hP (h2 _)
    · obtain ⟨s', i', _, s2, s3, s4, rfl⟩ := id h2
      have e1 := path_least next S hS hn d s' i' t s2 ht s3 hf1 s4
      rcases e1 with e1 | e1
      · rw [h1, e1]
      · rcases h3 _ hP with e2 | e2
        · rw [h1, e2]
        · rw [bef_asym _ _ e1] at e2
          cases e2
end Rf
end
section
namespace Rf
open Go.RowKit Go.Deep
theorem addr_add0 (g j : Nat) : (⟨g, 0, none⟩ : Addr).add j = ⟨g, j, none⟩ := by unfold Addr.add; split <;> simp_all
theorem asI_len (l : List Nat) : (asI l).length = l.length := by simp [asI]
theorem asI_at (l : List Nat) (k : Nat) (h : k < l.length) : (asI l)[k]? = some ((l[k] : Nat) : Int) := by simp [asI, h]
set_option maxHeartbeats 4000000 in
set_option maxRecDepth 100000 in
theorem before_any (p q : List Nat) (u v : Value) (w : World) (hu : Ints w u (asI p)) (hv : Ints w v (asI q)) (hl : p.length = q.length) (hn : p.length ≤ 1000000) :
    Calls Tryz.prog 52 #[u, v] w fun e w' => e = .returned (.bool (Rc.bef p q)) ∧ Below w.heap.size w w' := by
  have HU := hide hu
  have HV := hide hv
  obtain ⟨n, hnn⟩ : ∃ n, n = p.length := ⟨_, rfl⟩
  have HN := hide hnn
  have HQ : Hid (n = q.length) := hnn.trans hl
  obtain ⟨ua, uc, hue⟩ := hu.slice
  obtain ⟨va, vc, hve⟩ := hv.slice
  rw [asI_len, ← hnn] at hue
  rw [asI_len, ← hl, ← hnn] at hve
  subst hue
  subst hve
  rw [← hnn] at hn
  clear hu hv hl hnn
  go_enter Tryz.func52, Tryz.ntmps52
  go_wp2_with fail
  go_loopw [8] (fun i wr => ∃ k : Nat, k ≤ n ∧ i = .int .i64 (k : Int) ∧ Hid (Rc.bef (p.drop k) (q.drop k) = Rc.bef p q) ∧ Hid (Below w.heap.size w wr)) (fun i _ => n - (intOf i).toNat)
  case atStart => exact ⟨0, Nat.zero_le _, rfl, rfl, Below.refl _ _⟩
  case round =>
    obtain ⟨k, hk, rfl, HBF, HB⟩ := hrel
    by_cases hlt : k < n
    · have hkp : k < p.length := by rw [← HN.out]; exact hlt
      have hkq : k < q.length := by rw [← HQ.out]; exact hlt
      obtain ⟨g1, o1, hua, c1⟩ := (HU.out.below HB.out).cell k _ (asI_at p k hkp)
      obtain ⟨g2, o2, hva, c2⟩ := (HV.out.below HB.out).cell k _ (asI_at q k hkq)
      subst hua
      subst hva
      have HST : Hid ((if p[k] = q[k] then Rc.bef (p.drop (k + 1)) (q.drop (k + 1)) else Decidable.decide (p[k] < q[k])) = Rc.bef p q) := by
        show _ = _
        rw [← HBF.out, List.drop_eq_getElem_cons hkp, List.drop_eq_getElem_cons hkq]
        rfl
      have hki : (k : Int) < (n : Int) := by omega
      generalize p[k] = x at *
      generalize q[k] = y at *
      clear hkp hkq
      by_cases hxy : x = y
      · subst hxy
        have HNX : Hid (Rc.bef (p.drop (k + 1)) (q.drop (k + 1)) = Rc.bef p q) := by have h := HST.out; rw [if_pos rfl] at h; exact h
        go_wp2_with fail
        go_quiet (fail)
        go_wp2_with fail
        go_roundw
        case rel => exact ⟨k + 1, by omega, by go_num, HNX.out, HB.out.trans ⟨rfl, rfl, rfl, Nat.le_refl _, fun _ _ => rfl⟩⟩
        case measure => simp [intOf]; omega
      · have HRE : Hid (Decidable.decide (x < y) = Rc.bef p q) := by have h := HST.out; rw [if_neg hxy] at h; exact h
        have hb1 : ((x : Int) != (y : Int)) = true := by simp; omega
        have hb2 : ¬ (x : Int) = (y : Int) := by omega
        go_wp2_with fail
        go_quiet (fail)
        go_wp2_with fail
        go_quiet (fail)
        go_wp2_with fail
        go_ret
        exact ⟨by rw [← HRE.out]; simp, (HB.out.trans ⟨rfl, rfl, rfl, Nat.le_refl _, fun _ _ => rfl⟩).trans ⟨rfl, rfl, rfl, Nat.le_refl _, fun _ _ => rfl⟩⟩
    · obtain rfl : k = n := by omega
      have HRE : Hid (Rc.bef p q = false) := by
        have h := HBF.out
        rw [List.drop_of_length_le (by rw [← HN.out]; exact Nat.le_refl _)] at h
        show _ = _
        rw [← h]
        rfl
      have hki : ¬ (k : Int) < (k : Int) := by omega
      go_wp2_with fail
      go_ret
      exact ⟨by rw [HRE.out]; rfl, HB.out⟩
theorem eqNilN_none (w : World) (n c : Nat) : (binOp BinOp.eql 36 (.slice none n c) (.slice none 0 0)).run Tryz.prog w = .ok (.bool true) w := by kernel_rfl
theorem eqNilN_some (w : World) (a : Addr) (n c : Nat) : (binOp BinOp.eql 36 (.slice (some a) n c) (.slice none 0 0)).run Tryz.prog w = .ok (.bool false) w := by kernel_rfl
/-- numbers are appended -/
theorem app_ints {W : World} (base : Nat) (ty : TypeId) (v : Value) (ps gs : List Nat) (hown : W.ownsRow base 3 1 v ps.length (ps.map intV)) (a c : Nat) (hc : ∀ (k x : Nat), gs[k]? = some x → W.cell? ⟨a, k, none⟩ = some (.int .i64 (x : Int))) (hb : base ≤ W.heap.size) (hx : ps.length ≤ 1000000) (hy : gs.length ≤ 1000000) :
    ∃ v' W', (Builtin.append_ #[36, 36] ty #[v, .slice (some ⟨a, 0, none⟩) gs.length c]).run Tryz.prog W = .ok v' W' ∧ W'.ownsRow base 3 1 v' (ps.length + gs.length) ((ps ++ gs).map intV) ∧ W.grownBy W' v.ownBlock := by
  obtain ⟨i0, hi0, hz0, hz1, hz2⟩ := info_parts Tryz.infoInt
  by_cases h0 : gs = []
  · subst h0
    exact ⟨v, W, append_zero base _ ty _ i0 1 Tryz.underlying36 hi0 v _ _ hown (some ⟨a, 0, none⟩) c, by simpa using hown, ⟨rfl, rfl, rfl, Nat.le_refl _, fun _ _ _ => rfl⟩⟩
  · obtain ⟨v', W', h1, h2, h3, _⟩ := run_append_own_at (P := Tryz.prog) W base 36 ty 3 i0 _ 1 8 Tryz.underlying36 hi0 hz0 hz1 hz2 rfl (by decide) v ps.length (ps.map intV) hown ⟨a, 0, none⟩ gs.length c (gs.map intV) (by simp) (fun j u hu => by
        rw [List.getElem?_map] at hu
        cases hj : gs[j]? with
        | none => rw [hj] at hu; cases hu
        | some y =>
          rw [hj] at hu
          simp only [Option.map_some, Option.some.injEq] at hu
          subst hu
          have := hc j y hj
          rw [addr_add0]
          exact this) (fun u hu => by
        obtain ⟨b, _, rfl⟩ := List.mem_map.1 hu
        rfl) (by unfold maxLen; omega) (by omega) hb
    exact ⟨v', W', h1, by rw [List.map_append]; exact h2, h3⟩
/-- of each state nothing, or a row of small numbers -/
structure OutAt (W : World) (gO : Nat) (us : List Value) (out : List (Option (List Nat))) : Prop where
  row : RowIs W gO 36 us
  len : us.length = out.length
  no : ∀ t, t < out.length → out.getD t none = none → us[t]? = some (.slice none 0 0)
  yes : ∀ t p, out.getD t none = some p → ∃ a c, us[t]? = some (.slice (some ⟨a, 0, none⟩) p.length c) ∧ gO < a ∧ p.length ≤ c ∧ ∀ (k x : Nat), p[k]? = some x → x ≤ 64 ∧ W.cell? ⟨a, k, none⟩ = some (.int .i64 (x : Int))
theorem OutAt.below {W W' : World} {gO : Nat} {us : List Value} {out : List (Option (List Nat))} (h : OutAt W gO us out) (hb : Below W.heap.size W W') : OutAt W' gO us out :=
  ⟨h.row.below hb, h.len, h.no, fun t p hp => by
    obtain ⟨a, c, h1, h2, h3, h4⟩ := h.yes t p hp
    exact ⟨a, c, h1, h2, h3, fun k x hx => ⟨(h4 k x hx).1, (hb.cell (World.block_lt_of_cell? _ _ (h4 k x hx).2)).trans (h4 k x hx).2⟩⟩⟩
theorem set_elsewhere (W : World) (g i a k : Nat) (v : Value) (hne : g ≠ a) : (W.setCell ⟨g, i, none⟩ v).cell? ⟨a, k, none⟩ = W.cell? ⟨a, k, none⟩ := by
  unfold World.cell?
  have e : (W.setCell ⟨g, i, none⟩ v).heap[a]? = W.heap[a]? := by simp [World.setCell, Array.getElem?_modify, hne]
  rw [e]
theorem OutAt.put {W : World} {gO : Nat} {us : List Value} {out : List (Option (List Nat))} (h : OutAt W gO us out) (t : Nat) (ht : t < out.length) (p : List Nat) (a c : Nat) (ha : gO < a) (hc : p.length ≤ c) (hp : ∀ (k x : Nat), p[k]? = some x → x ≤ 64 ∧ W.cell? ⟨a, k, none⟩ = some (.int .i64 (x : Int))) :
    OutAt (W.setCell ⟨gO, t, none⟩ (.slice (some ⟨a, 0, none⟩) p.length c)) gO (us.set t (.slice (some ⟨a, 0, none⟩) p.length c)) (out.set t (some p)) := by
  have htu : t < us.length := by rw [h.len]; exact ht
  refine ⟨RowIs.set h.row t _, by simp [h.len], fun s hs hn => ?_, fun s q hq => ?_⟩
  · rw [getD_setO] at hn
    by_cases e : s = t
    · rw [if_pos ⟨e, ht⟩] at hn; cases hn
    · rw [if_neg (fun k => e k.1)] at hn
      rw [List.getElem?_set_ne (fun k => e k.symm)]
      exact h.no s (by simpa using hs) hn
  · rw [getD_setO] at hq
    by_cases e : s = t
    · subst e
      rw [if_pos ⟨rfl, ht⟩] at hq
      cases hq
      refine ⟨a, c, by rw [List.getElem?_set_self htu], ha, hc, fun k x hx => ⟨(hp k x hx).1, ?_⟩⟩
      rw [set_elsewhere _ _ _ _ _ _ (by omega)]
      exact (hp k x hx).2
    · rw [if_neg (fun k => e k.1)] at hq
      obtain ⟨a', c', h1, h2, h3, h4⟩ := h.yes s q hq
      refine ⟨a', c', by rw [List.getElem?_set_ne (fun k => e k.symm)]; exact h1, h2, h3, fun k x hx => ⟨(h4 k x hx).1, ?_⟩⟩
      rw [set_elsewhere _ _ _ _ _ _ (by omega)]
      exact (h4 k x hx).2
theorem ints_row2 {W : World} {a c : Nat} {p : List Nat} (hc : p.length ≤ c) (h : ∀ (k x : Nat), p[k]? = some x → x ≤ 64 ∧ W.cell? ⟨a, k, none⟩ = some (.int .i64 (x : Int))) : Ints W (.slice (some ⟨a, 0, none⟩) p.length c) (asI p) := by
  refine .inr ⟨a, 0, c, by rw [asI_len], by rw [asI_len]; exact hc, fun k y hy => ?_⟩
  unfold asI at hy
  rw [List.getElem?_map] at hy
  cases hk : p[k]? with
  | none => rw [hk] at hy; cases hy
  | some x =>
    rw [hk] at hy
    simp only [Option.map_some, Option.some.injEq] at hy
    subst hy
    obtain ⟨h1, h2⟩ := h k x hk
    exact ⟨by rw [Nat.zero_add]; exact h2, by unfold I64; omega⟩
/-- what the document's Paths comes to -/
def PathsD (w : World) (S : Nat) (next : Nat → List Nat) (e : Ending) (w' : World) : Prop := ∃ (g : Nat) (us : List Value) (out : List (Option (List Nat))), e = .returned (.slice (some ⟨g, 0, none⟩) S S) ∧ OutAt w' g us out ∧ PInv next S out S 0 0 ∧ Below w.heap.size w w'
end Rf
end
section
namespace Rf
open Go.RowKit Go.Deep
theorem own_row {W : World} {q n : Nat} {v : Value} {p : List Nat} (h : W.ownsRow q 3 1 v n (p.map intV)) (hn : 0 < n) (hp : p.length = n) : ∃ b c, v = .slice (some ⟨b, 0, none⟩) n c ∧ q ≤ b ∧ n ≤ c ∧ ∀ (k x : Nat), p[k]? = some x → W.cell? ⟨b, k, none⟩ = some (.int .i64 (x : Int)) := by
  rcases h.2 with ⟨_, h0⟩ | ⟨g, cap, cur, rfl, hg, hcur, hcap, _, _, htk⟩
  · omega
  · exact ⟨g, cap, rfl, hg, hcap, fun k x hx => row_cell hcur htk (by rw [List.getElem?_map, hx]; rfl)⟩
theorem outAt_new {W : World} {gO S : Nat} (h : RowIs W gO 36 (List.replicate S (.slice none 0 0))) : OutAt W gO (List.replicate S (.slice none 0 0)) (List.replicate S none) := by
  refine ⟨h, by simp, fun t ht _ => ?_, fun t p hp => ?_⟩
  · rw [List.getElem?_replicate, if_pos (by simpa using ht)]
  · rw [List.getD_eq_getElem?_getD, List.getElem?_replicate] at hp
    split at hp <;> cases hp
set_option maxHeartbeats 16000000 in
set_option maxRecDepth 100000 in
theorem RPaths_any (bx S I : Nat) (nv rv nx : Value) (next : Nat → List Nat) (w : World) (h : RMachAt w bx nv rv S I nx) (hR : RowsI w nx ((List.range S).map fun s => asI (next s))) (hnl : ∀ s, (next s).length = I) (hnx : ∀ f s, f < S → s ∈ next f → s < S) (hS1 : 1 ≤ S) (hS : S ≤ 4096) (hI : I ≤ 64) :
    Calls Tryz.prog 51 #[.pointer (some ⟨bx, 0, none⟩)] w (PathsD w S next) := by
  have HM := hide h
  have HR0 := hide hR
  obtain ⟨xa, xc, hx⟩ := hR.slice
  have hln : ((List.range S).map fun s => asI (next s)).length = S := by simp
  rw [hln] at hx
  subst hx
  have HR := hide hR
  have HNL := hide hnl
  have HNX := hide hnx
  have mk := fun W => makeIss S (by omega) W
  obtain ⟨cS, hcS⟩ : ∃ c, c = List.replicate S (Value.slice none 0 0) := ⟨_, rfl⟩
  rw [← hcS] at mk
  have HCS := hide hcS
  obtain ⟨w1, hw1⟩ : ∃ w1, w1 = w.alloc (.cells ⟨cS⟩ 36) := ⟨_, rfl⟩
  have HR1 : Hid (RowIs w1 w.heap.size 36 cS) := by show RowIs _ _ _ _; rw [hw1]; exact RowIs.new _ _ _
  have hb1 : Below w.heap.size w w1 := by rw [hw1]; exact (Below.refl _ _).alloc (Nat.le_refl _) _
  have HB1 := hide hb1
  have HS1W : Hid (w1.heap.size = w.heap.size + 1) := by show _ = _; rw [hw1]; simp
  obtain ⟨_, ⟨c2, _⟩, _⟩ := h.cells
  have HFA := hide (RFar_any bx S I _ _ _ next w1 (h.below hb1) (hR.below hb1) hnl hnx hS1 hS hI)
  rw [hw1] at HFA
  have HW1 := hide hw1
  have HPS := hide (PInv.start next S hS1 hnx)
  have HDW := hide (dist_walk next S hS1 hnx)
  have hSi : (0 : Int) < (S : Int) := by omega
  have en0 := eqNilN_none
  have en1 := eqNilN_some
  clear h hR hnl hnx hln hcS hw1 hb1
  go_enter Tryz.func51, Tryz.ntmps51
  go_wp2_with fail
  refine HFA.out.mono ?_
  rintro e w2 ⟨g2, dl, rfl, hdr, hdl, hds, hg2, hb2⟩
  rw [← HW1.out] at hg2 hb2
  have HFAR : Hid (∀ s (hs : s < dl.length), dl[s] = ((Rc.walk next S).at_ s).far) := fun s hs => by
    have h1 : dl.getD s 0 = ((Rc.walk next S).at_ s).far := hds.same HDW.out s (by omega)
    rw [← h1]
    simp [hs]
  have HDL : Hid (dl.length = S) := hdl
  have HDR2 := hide hdr
  have hgO : w.heap.size < g2 := by have := HS1W.out; omega
  have HB2 : Hid (Below w.heap.size w w2) := HB1.out.trans (hb2.mono HB1.out.size)
  have HRO2 := hide (HR1.out.below hb2)
  have hz2 : w.heap.size < w2.heap.size := by have := hb2.size; have := HS1W.out; omega
  have hcl : cS[0]? = some (.slice none 0 0) := by rw [HCS.out, List.getElem?_replicate, if_pos (by omega)]
  have d0 := HRO2.out.cell 0 _ hcl
  have f0 := HRO2.out.frozen 0
  have HOA0 : Hid (OutAt ((w2.setCell ⟨w.heap.size, 0, none⟩ (.slice (some ⟨w2.heap.size, 0, none⟩) 0 0)).alloc (.cells #[] 3)) w.heap.size (cS.set 0 (.slice (some ⟨w2.heap.size, 0, none⟩) 0 0)) ((List.replicate S none).set 0 (some []))) := by
    have h1 : OutAt w2 w.heap.size cS (List.replicate S none) := by rw [HCS.out]; exact outAt_new (by rw [← HCS.out]; exact HRO2.out)
    have h2 := h1.put 0 (by simp; omega) [] w2.heap.size 0 hz2 (Nat.le_refl _) (fun k x hx => by simp at hx)
    exact h2.below ((Below.refl _ _).alloc (Nat.le_refl _) _)
  have HDR3 : Hid (RowIs ((w2.setCell ⟨w.heap.size, 0, none⟩ (.slice (some ⟨w2.heap.size, 0, none⟩) 0 0)).alloc (.cells #[] 3)) g2 3 (dl.map iV)) := (RowIs.other HDR2.out w.heap.size 0 _ (by omega)).below ((Below.refl _ _).alloc (Nat.le_refl _) _)
  have HB3 : Hid (Below w.heap.size w ((w2.setCell ⟨w.heap.size, 0, none⟩ (.slice (some ⟨w2.heap.size, 0, none⟩) 0 0)).alloc (.cells #[] 3))) := (HB2.out.setCell (p := ⟨w.heap.size, 0, none⟩) (Nat.le_refl _) _).alloc (by have := HB2.out.size; simpa [World.setCell] using this) _
  clear hdr hdl hds hg2 hb2 HFA hcl
  go_wp2_with fail
  clear d0 f0
  generalize (w2.setCell ⟨w.heap.size, 0, none⟩ (.slice (some ⟨w2.heap.size, 0, none⟩) 0 0)).alloc (.cells #[] 3) = w3 at *
  go_loopw [5] (fun dv wr => ∃ (d : Nat) (us : List Value) (out : List (Option (List Nat))), d ≤ S ∧ dv = .int .i64 (d : Int) ∧ Hid (PInv next S out d 0 0) ∧ Hid (OutAt wr w.heap.size us out) ∧ Hid (RowIs wr g2 3 (dl.map iV)) ∧ Hid (Below w.heap.size w wr)) (fun dv _ => S - (intOf dv).toNat)
  case atStart => exact ⟨0, _, _, Nat.zero_le _, rfl, HPS.out, HOA0.out, HDR3.out, HB3.out⟩
  case round =>
    obtain ⟨d, us, out, hd, rfl, HPI, HOA, HDR, HB⟩ := hrel
    obtain ⟨wo, hwo⟩ : ∃ wo, wo = wr := ⟨_, rfl⟩
    subst hwo
    obtain ⟨_, ⟨e2, _⟩, _⟩ := (HM.out.below HB.out).cells
    by_cases hdS : d < S
    · have hdi : (d : Int) < (S : Int) := by omega
      go_wp2_with fail
      clear e2
      go_loopw [32] (fun i wr => ∃ (s : Nat) (us : List Value) (out : List (Option (List Nat))), s ≤ S ∧ i = .int .i64 (s : Int) ∧ Hid (PInv next S out d s 0) ∧ Hid (OutAt wr w.heap.size us out) ∧ Hid (RowIs wr g2 3 (dl.map iV)) ∧ Hid (Below w.heap.size w wr)) (fun i _ => S - (intOf i).toNat)
      case atStart => exact ⟨0, us, out, Nat.zero_le _, rfl, HPI.out, HOA.out, HDR.out, HB.out⟩
      case round =>
        obtain ⟨s, us, out, hs, rfl, HPI, HOA, HDR, HB⟩ := hrel
        by_cases hlt : s < S
        · have hsi : (s : Int) < (S : Int) := by omega
          have hsd : s < dl.length := by rw [HDL.out]; exact hlt
          have cd : wr.cell? ⟨g2, s, none⟩ = some (.int .i64 dl[s]) := HDR.out.cell s _ (by rw [List.getElem?_map, List.getElem?_eq_getElem hsd]; rfl)
          have HFS : Hid (dl[s] = ((Rc.walk next S).at_ s).far) := HFAR.out s hsd
          generalize dl[s] = xs at *
          by_cases hxd : xs = (d : Int)
          · subst hxd
            have hrs : ((List.range S).map fun s => asI (next s))[s]? = some (asI (next s)) := by simp [hlt]
            obtain ⟨gR, u, hxa, hxc, cR, iR⟩ := HR.out.at_ s _ hrs
            subst hxa
            have cRr := (HB.out.cell (World.block_lt_of_cell? _ _ cR)).trans cR
            obtain ⟨ua, uc, rfl⟩ := iR.slice
            have hlen : (asI (next s)).length = I := by unfold asI; rw [List.length_map]; exact HNL.out s
            rw [hlen] at iR cRr
            have HIR := hide iR
            obtain ⟨_, _, c4⟩ := (HM.out.below HB.out).cells
            clear hrs iR hlen cR
            go_wp2_with fail
            clear c4 cRr cd
            go_loopw [49] (fun i wr => ∃ (k : Nat) (us : List Value) (out : List (Option (List Nat))), k ≤ I ∧ i = .int .i64 (k : Int) ∧ Hid (PInv next S out d s k) ∧ Hid (OutAt wr w.heap.size us out) ∧ Hid (RowIs wr g2 3 (dl.map iV)) ∧ Hid (Below w.heap.size w wr)) (fun i _ => I - (intOf i).toNat)
            case atStart => exact ⟨0, us, out, Nat.zero_le _, rfl, HPI.out, HOA.out, HDR.out, HB.out⟩
            case round =>
              obtain ⟨k, us, out, hk, rfl, HPI, HOA, HDR, HB⟩ := hrel
              obtain ⟨wq, hwq⟩ : ∃ wq, wq = wr := ⟨_, rfl⟩
              subst hwq
              by_cases hlt2 : k < I
              · have hki : (k : Int) < (I : Int) := by omega
                have hkl : k < (next s).length := by rw [HNL.out]; exact hlt2
                obtain ⟨gu, ou, hua, cu⟩ := (HIR.out.below HB.out).cell k _ (asI_at (next s) k hkl)
                subst hua
                have htS : (next s)[k] < S := HNX.out s _ hlt (List.getElem_mem hkl)
                have HTE : Hid ((next s)[k]? = some (next s)[k]) := List.getElem?_eq_getElem hkl
                have htd : (next s)[k] < dl.length := by rw [HDL.out]; exact htS
                have HFT : Hid (dl[(next s)[k]] = ((Rc.walk next S).at_ (next s)[k]).far) := HFAR.out _ htd
                have HCT : Hid (∀ W, Below wq.heap.size wq W → W.cell? ⟨g2, (next s)[k], none⟩ = some (.int .i64 dl[(next s)[k]])) := fun W hW => (HDR.out.below hW).cell _ _ (by rw [List.getElem?_map, List.getElem?_eq_getElem htd]; rfl)
                generalize dl[(next s)[k]] = x at *
                generalize (next s)[k] = t at *
                have hti : (t : Int) < (S : Int) := by omega
                have HOL : Hid (t < out.length ∧ us.length = out.length) := ⟨by rw [HPI.out.len]; exact htS, HOA.out.len⟩
                obtain ⟨p0, hp0⟩ : ∃ p0, p0 = Rc.pathOf (Rc.walk next S) d s := ⟨_, rfl⟩
                have hp0l : p0.length = d := by rw [hp0]; exact Rc.pathOf_len _ _ _
                have hno := HPI.out.near s hlt d HFS.out.symm (Nat.le_refl _)
                rw [← hp0] at hno
                obtain ⟨a0, c0, hus, ha0, hc0, hcells⟩ := HOA.out.yes s p0 hno
                have cO := HOA.out.row.cell s _ hus
                rw [hp0l] at cO
                have hbA : Below wq.heap.size wq (wq.alloc (.cells #[] 3)) := (Below.refl _ _).alloc (Nat.le_refl _) _
                obtain ⟨v1, W2, hrun1, hown1, hgr1⟩ := app_ints (W := wq.alloc (.cells #[] 3)) wq.heap.size 36 (.slice (some ⟨wq.heap.size, 0, none⟩) 0 0) [] p0 (own_zero wq wq.heap.size 3 1 (Nat.le_refl _)) a0 c0 (fun k x hx => (hbA.cell (World.block_lt_of_cell? _ _ (hcells k x hx).2)).trans (hcells k x hx).2) (by simp) (by simp) (by omega)
                have hb12 : Below wq.heap.size wq W2 := hbA.grown hgr1 (by simp) (fun j e => by simp only [Value.ownBlock, Option.some.injEq] at e; omega)
                have hz12 := hb12.size
                have hbC : Below W2.heap.size W2 (W2.alloc (.cells #[.int .i64 (k : Int)] 3)) := (Below.refl _ _).alloc (Nat.le_refl _) _
                obtain ⟨v2, W4, hrun2, hown2, hgr2⟩ := app_ints (W := W2.alloc (.cells #[.int .i64 (k : Int)] 3)) wq.heap.size 36 v1 ([] ++ p0) [k] (by have h1 := hown1.alloc (.cells #[.int .i64 (k : Int)] 3); rw [List.length_append]; exact h1) W2.heap.size 1 (fun j x hx => by
                  cases j with
                  | succ j => simp at hx
                  | zero =>
                    simp only [List.getElem?_cons_zero, Option.some.injEq] at hx
                    subst hx
                    rw [Lib.cell_of_heap (heap_alloc_new _ _)]
                    rfl) (by simp; omega) (by simp; omega) (by simp)
                have hb14 : Below wq.heap.size wq W4 := (then_ hb12 hbC).grown hgr2 (by simp; omega) (fun j e => (hown1.lt j e).1)
                rw [List.nil_append] at hown2
                have hl4 : (p0 ++ [k]).length = d + 1 := by rw [List.length_append, hp0l]; rfl
                obtain ⟨b, cb, hv2, hbq, hcb, hcells2⟩ := own_row hown2 (by simp) (by simp)
                rw [show p0.length + [k].length = d + 1 by simp [hp0l]] at hv2 hcb
                subst hv2
                have HP4 : Hid (∀ (j y : Nat), (p0 ++ [k])[j]? = some y → y ≤ 64 ∧ W4.cell? ⟨b, j, none⟩ = some (.int .i64 (y : Int))) := fun j y hy => by
                  refine ⟨?_, hcells2 j y hy⟩
                  by_cases hj : j < p0.length
                  · rw [List.getElem?_append_left hj] at hy
                    exact (hcells j y hy).1
                  · rw [List.getElem?_append_right (by omega)] at hy
                    have : j - p0.length < 1 := by have := (List.getElem?_eq_some_iff.1 hy).1; simpa using this
                    obtain h0 : j - p0.length = 0 := by omega
                    rw [h0] at hy
                    simp only [List.getElem?_cons_zero, Option.some.injEq] at hy
                    omega
                simp only [hp0l] at hrun1
                simp only [List.length_cons, List.length_nil] at hrun2
                have HAPP1 := hide hrun1
                have HAPP2 := hide hrun2
                have HB14 := hide hb14
                have HOA4 := hide (HOA.out.below hb14)
                have HDR4 := hide (HDR.out.below hb14)
                have HBW4 : Hid (Below w.heap.size w W4) := HB.out.trans (hb14.mono HB.out.size)
                have cx := HCT.out W4 hb14
                have HL4 := hide hl4
                have HCB : Hid (d + 1 ≤ cb ∧ w.heap.size < b) := ⟨hcb, by have := HB.out.size; have := HOA.out.row.lt; omega⟩
                have HPE : Hid (p0 ++ [k] = Rc.pathOf (Rc.walk next S) d s ++ [k]) := by show _ = _; rw [hp0]
                have HFSD := hide HFS.out.symm
                have hwz : w.heap.size < wq.heap.size := HOA.out.row.lt
                clear hno hus hcells hbA hown1 hgr1 hb12 hbC hown2 hgr2 hb14 hcells2 hrun1 hrun2 hl4 hcb hp0 HCT htd hkl
                by_cases hft : x = (d : Int) + 1
                · have HFT1 : Hid (((Rc.walk next S).at_ t).far = (d : Int) + 1) := HFT.out.symm.trans hft
                  have hxb : (x == (d : Int) + 1) = true := by simpa using hft
                  cases hot : out.getD t none with
                  | none =>
                    have hut := HOA4.out.no t HOL.out.1 hot
                    have ct := HOA4.out.row.cell t _ hut
                    have ft := HOA4.out.row.frozen t
                    have HPN := hide (HPI.out.put hlt HFSD.out htS HTE.out HFT1.out (.inl hot))
                    rw [← HPE.out] at HPN
                    have hoa5 := HOA4.out.put t HOL.out.1 (p0 ++ [k]) b cb HCB.out.2 (by rw [HL4.out]; exact HCB.out.1) HP4.out
                    rw [HL4.out] at hoa5
                    have HOA5 := hide hoa5
                    have HDR5 : Hid (RowIs (W4.setCell ⟨w.heap.size, t, none⟩ (.slice (some ⟨b, 0, none⟩) (d + 1) cb)) g2 3 (dl.map iV)) := RowIs.other HDR4.out w.heap.size t _ (by omega)
                    have HB5 : Hid (Below w.heap.size w (W4.setCell ⟨w.heap.size, t, none⟩ (.slice (some ⟨b, 0, none⟩) (d + 1) cb))) := HBW4.out.setCell (p := ⟨w.heap.size, t, none⟩) (Nat.le_refl _) _
                    clear hot hut hoa5
                    go_wp2_with (at_builtin; first | (refine Lib.wpList_append_run _ rfl (.tmp 54) (.tmp 58) _ _ rfl _ _ rfl rfl _ _ HAPP1.out ?_) | (refine Lib.wpList_append_run _ rfl (.tmp 59) (.tmp 61) _ _ rfl _ _ rfl rfl _ _ HAPP2.out ?_))
                    go_roundw
                    case rel => exact ⟨k + 1, _, _, by omega, by go_num, HPN.out, HOA5.out, HDR5.out, HB5.out⟩
                    case measure => simp [intOf]; omega
                  | some q =>
                    obtain ⟨a5, c5, hu5, _, hc5, hcl5⟩ := HOA4.out.yes t q hot
                    have hql : q.length = d + 1 := by
                      rcases HPI.out.part t htS HFT1.out with ⟨h1, _⟩ | ⟨p', h1, h2, _⟩
                      · rw [hot] at h1; cases h1
                      · rw [hot] at h1; cases h1; exact h2.length
                    have ct := HOA4.out.row.cell t _ hu5
                    rw [hql] at ct
                    have hi1 : Ints W4 (.slice (some ⟨b, 0, none⟩) (d + 1) cb) (asI (p0 ++ [k])) := by have h := ints_row2 (by rw [HL4.out]; exact HCB.out.1) HP4.out; rw [HL4.out] at h; exact h
                    have hi2 : Ints W4 (.slice (some ⟨a5, 0, none⟩) (d + 1) c5) (asI q) := by have h := ints_row2 hc5 hcl5; rw [hql] at h; exact h
                    have HBF := hide (before_any (p0 ++ [k]) q _ _ W4 hi1 hi2 (by rw [HL4.out, hql]) (by rw [HL4.out]; omega))
                    have HOT := hide hot
                    have HTU : Hid (∃ y, us[t]? = some y) := ⟨_, hu5⟩
                    clear hi1 hi2 hu5 hc5 hcl5 hql hot
                    go_wp2_with (at_builtin; first | (refine Lib.wpList_append_run _ rfl (.tmp 54) (.tmp 58) _ _ rfl _ _ rfl rfl _ _ HAPP1.out ?_) | (refine Lib.wpList_append_run _ rfl (.tmp 59) (.tmp 61) _ _ rfl _ _ rfl rfl _ _ HAPP2.out ?_))
                    refine HBF.out.mono ?_
                    rintro e W5 ⟨rfl, hb5⟩
                    have HOA5 := hide (HOA4.out.below hb5)
                    have HDR5 := hide (HDR4.out.below hb5)
                    have HBW5 : Hid (Below w.heap.size w W5) := HBW4.out.trans (hb5.mono HBW4.out.size)
                    have HP5 : Hid (∀ (j y : Nat), (p0 ++ [k])[j]? = some y → y ≤ 64 ∧ W5.cell? ⟨b, j, none⟩ = some (.int .i64 (y : Int))) := fun j y hy => ⟨(HP4.out j y hy).1, (hb5.cell (World.block_lt_of_cell? _ _ (HP4.out j y hy).2)).trans (HP4.out j y hy).2⟩
                    clear hb5 HBF ct cx
                    cases hbf : Rc.bef (p0 ++ [k]) q with
                    | true =>
                      have HPN := hide (HPI.out.put hlt HFSD.out htS HTE.out HFT1.out (.inr ⟨q, HOT.out, by rw [← HPE.out]; exact hbf⟩))
                      rw [← HPE.out] at HPN
                      obtain ⟨y, hy⟩ := HTU.out
                      have ct5 := HOA5.out.row.cell t _ hy
                      have ft5 := HOA5.out.row.frozen t
                      have hoa6 := HOA5.out.put t HOL.out.1 (p0 ++ [k]) b cb HCB.out.2 (by rw [HL4.out]; exact HCB.out.1) HP5.out
                      rw [HL4.out] at hoa6
                      have HOA6 := hide hoa6
                      have HDR6 : Hid (RowIs (W5.setCell ⟨w.heap.size, t, none⟩ (.slice (some ⟨b, 0, none⟩) (d + 1) cb)) g2 3 (dl.map iV)) := RowIs.other HDR5.out w.heap.size t _ (by omega)
                      have HB6 : Hid (Below w.heap.size w (W5.setCell ⟨w.heap.size, t, none⟩ (.slice (some ⟨b, 0, none⟩) (d + 1) cb))) := HBW5.out.setCell (p := ⟨w.heap.size, t, none⟩) (Nat.le_refl _) _
                      clear hy hoa6 hbf
                      go_wp2_with fail
                      go_roundw
                      case rel => exact ⟨k + 1, _, _, by omega, by go_num, HPN.out, HOA6.out, HDR6.out, HB6.out⟩
                      case measure => simp [intOf]; omega
                    | false =>
                      have HPN := hide (HPI.out.keep HTE.out HOT.out (by rw [← HPE.out]; exact hbf))
                      clear hbf
                      go_wp2_with fail
                      go_roundw
                      case rel => exact ⟨k + 1, us, out, by omega, by go_num, HPN.out, HOA5.out, HDR5.out, HBW5.out⟩
                      case measure => simp [intOf]; omega
                · have hxb : (x == (d : Int) + 1) = false := by simpa using hft
                  have HPN := hide (HPI.out.pass HTE.out (fun e => hft (HFT.out.trans e)))
                  go_wp2_with (at_builtin; first | (refine Lib.wpList_append_run _ rfl (.tmp 54) (.tmp 58) _ _ rfl _ _ rfl rfl _ _ HAPP1.out ?_) | (refine Lib.wpList_append_run _ rfl (.tmp 59) (.tmp 61) _ _ rfl _ _ rfl rfl _ _ HAPP2.out ?_))
                  go_roundw
                  case rel => exact ⟨k + 1, us, out, by omega, by go_num, HPN.out, HOA4.out, HDR4.out, HBW4.out⟩
                  case measure => simp [intOf]; omega
              · obtain rfl : k = I := by omega
                have HPN := hide (HPI.out.next (fun _ => by rw [HNL.out]; exact Nat.le_refl _))
                have hki : ¬ (k : Int) < (k : Int) := by omega
                go_wp2_with fail
                go_roundw
                case rel => exact ⟨s + 1, us, out, by omega, by go_num, HPN.out, HOA.out, HDR.out, HB.out⟩
                case measure => simp [intOf]; omega
          · have HPN := hide (HPI.out.next (fun e => absurd (HFS.out.trans e) hxd))
            have hxb : (xs != (d : Int)) = true := by simpa using hxd
            go_wp2_with fail
            go_roundw
            case rel => exact ⟨s + 1, us, out, by omega, by go_num, HPN.out, HOA.out, HDR.out, HB.out⟩
            case measure => simp [intOf]; omega
        · obtain rfl : s = S := by omega
          have HPN := hide (HPI.out.deeper hS1 HNX.out)
          have hsi : ¬ (s : Int) < (s : Int) := by omega
          go_wp2_with fail
          go_roundw
          case rel => exact ⟨d + 1, us, out, by omega, by go_num, HPN.out, HOA.out, HDR.out, HB.out⟩
          case measure => simp [intOf]; omega
    · obtain rfl : d = S := by omega
      have hdi : ¬ (d : Int) < (d : Int) := by omega
      go_wp2_with fail
      go_ret
      exact ⟨w.heap.size, us, out, rfl, HOA.out, HPI.out, HB.out⟩
end Rf
end
end Go.Proofs.YtgldbliohpfljaaGreatDoor
