/-
  The walk of the document's Parts: of each name how many values its part has. The document's states in memory: a map of bools and a map of numbers, over texts. The walk of the document's Eval where the closures hold two values, tell of some names alone, and grow memory when they are asked. The walk of the document's Eval where the closures hold one value, and tell of some names alone.
-/
import Derived.Test.YtgldbliohpfljaaGreatDoorRlEdgesAll
import Derived.Test.YtgldbliohpfljaaGreatDoorScTwoAll
import Derived.Test.YtgldbliohpfljaaGreatDoorLdRepAll
import Derived.Maps.OwnSet
import Derived.Maps.OwnOps
import Derived.Maps.Views
import Derived.Maps.Ext
import Derived.Maps.RangeWalk
import Derived.Test.YtgldbliohpfljaaGreatDoorNdNamedAll
import Derived.Test.YtgldbliohpfljaaGreatDoorNaNamesAll
namespace Go.Proofs.YtgldbliohpfljaaGreatDoor
section
namespace Rf
open Go.RowKit
def partsL (p : Ld.Prg) : List Nat := (List.range p.names.length).map (part p)
theorem partsL_len (p : Ld.Prg) : (partsL p).length = p.names.length := by simp [partsL]
theorem partsL_at (p : Ld.Prg) (k : Nat) (hk : k < p.names.length) : (partsL p)[k]? = some (part p k) := by simp [partsL, hk]
theorem partsL_succ (p : Ld.Prg) (k : Nat) (hk : k < p.names.length) : (partsL p).take (k + 1) = (partsL p).take k ++ [part p k] := by
  have h1 : k < (partsL p).length := by rw [partsL_len]; exact hk
  rw [List.take_succ_eq_append_getElem h1]
  have h2 := partsL_at p k hk
  rw [List.getElem?_eq_getElem h1] at h2
  rw [Option.some.inj h2]
theorem part_le (p : Ld.Prg) (hck : Ld.check p = none) (k : Nat) (hk : k < p.names.length) : part p k ≤ 8 := by
  obtain ⟨h1, h2, h3, h4⟩ := Sc.may p hck k hk
  unfold part
  rw [List.getElem?_eq_getElem hk]
  dsimp only
  repeat' split
  all_goals omega
theorem own_int {W : World} {q : Nat} {a : Option Addr} {n c : Nat} {l : List Nat} (h : W.ownsRow q 3 1 (.slice a n c) l.length (l.map intV)) {k : Nat} (hk : k < l.length) : ∃ g, a = some ⟨g, 0, none⟩ ∧ n = l.length ∧ n ≤ c ∧ q ≤ g ∧ W.cell? ⟨g, k, none⟩ = some (.int .i64 (l[k] : Int)) := by
  rcases h.2 with ⟨_, h0⟩ | ⟨g, cap, cur, h1, h2, h3, h4, h5, h6, h7⟩
  · omega
  · simp only [Value.slice.injEq] at h1
    refine ⟨g, h1.1, h1.2.1, by omega, h2, ?_⟩
    rw [Lib.cell_of_heap h3]
    have h9 := congrArg (·[k]?) h7
    simp only [List.getElem?_map, List.getElem?_eq_getElem hk, Option.map_some] at h9
    rw [List.getElem?_take_of_lt (by omega)] at h9
    simpa [intV] using h9
theorem contains_succ (l : List Nat) (z k : Nat) (hz : z < l.length) : (l.take (z + 1)).contains k = ((l.take z).contains k || k == l[z]) := by
  rw [List.take_succ_eq_append_getElem hz, Bool.eq_iff_iff, Bool.or_eq_true, List.contains_iff_mem, List.contains_iff_mem, List.mem_append]
  simp
set_option maxHeartbeats 8000000 in
set_option maxRecDepth 100000 in
theorem Parts_any (p : Ld.Prg) (v : Value) (w : World) (h : IsRPrg w p v) (hL : RLaid w) (hck : Ld.check p = none) :
    Calls Tryz.prog 71 #[v] w fun e w' => ∃ v, e = .returned v ∧ w'.ownsRow w.heap.size 3 1 v p.names.length ((partsL p).map intV) ∧ Below w.heap.size w w' := by
  obtain ⟨i0, hi0, hz0, hz1, hz2⟩ := info_parts Tryz.infoInt
  have HRP := hide h
  obtain ⟨nv, rv, rfl, hn, hr⟩ := h
  have HNA := hide hn
  have HCK := hide hck
  obtain ⟨na, nc, rfl, hln⟩ := hn.slice
  obtain ⟨ra, rc, rfl, hlr⟩ := hr.slice
  have HMAY : Hid (∀ k (hk : k < p.names.length), 1 ≤ p.names[k].kind ∧ p.names[k].kind ≤ 4 ∧ (3 ≤ p.names[k].kind → 1 ≤ p.names[k].count ∧ p.names[k].count ≤ 7)) := fun k hk => by
    obtain ⟨h1, h2, h3, h4⟩ := Sc.may p hck k hk
    exact ⟨by omega, by omega, fun h => by omega⟩
  obtain ⟨n, hnn⟩ : ∃ n, n = p.names.length := ⟨_, rfl⟩
  have HN := hide hnn
  rw [← hnn] at HNA hln ⊢
  obtain ⟨wA, hwA⟩ : ∃ wA, wA = w.alloc (.cells #[.slice na n nc, .slice ra p.rungs.length rc] 45) := ⟨_, rfl⟩
  have hbA : Below w.heap.size w wA := by rw [hwA]; exact (Below.refl _ _).alloc (Nat.le_refl _) _
  have hzA : wA.heap.size = w.heap.size + 1 := by rw [hwA]; simp
  have HPG : Hid (wA.heap[w.heap.size]? = some (.cells #[.slice na n nc, .slice ra p.rungs.length rc] 45 (0, 0))) := by show wA.heap[_]? = _; rw [hwA]; exact heap_alloc_new _ _
  have HBA := hide hbA
  have HED := hide (redges_any p _ wA (HRP.out.below hbA) (hL.below hbA) hck)
  rw [← hnn] at HED
  rw [hwA] at HED
  have HWA := hide hwA
  clear hn hr hL hnn hck hwA hbA
  go_enter Tryz.func71, Tryz.ntmps71
  go_wp2_with fail
  refine HED.out.mono ?_
  rintro e wE ⟨ev, rfl, hev, hbE⟩
  rw [← HWA.out] at hev hbE
  obtain ⟨ea, ec, rfl⟩ := own_slice hev
  obtain ⟨el, hel⟩ : ∃ el, el = Ld.edges p := ⟨_, rfl⟩
  have HEL := hide hel
  rw [← hel] at hev
  rw [← hel]
  have hle : el.length ≤ 12 := by
    rw [hel]
    have h1 := Ld.placesTo_le (fun n => (Ld.asked p).contains n.name) p.names p.names.length
    have h2 := (Ld.check_names p HCK.out).1
    exact Nat.le_trans h1 h2
  obtain ⟨m, hm⟩ : ∃ m, m = el.length := ⟨_, rfl⟩
  have HM := hide hm
  rw [← hm] at hev hle ⊢
  have HEV := hide hev
  have HBE := hide hbE
  have HPE : Hid (wE.heap[w.heap.size]? = some (.cells #[.slice na n nc, .slice ra p.rungs.length rc] 45 (0, 0))) := (hbE.block _ (by omega)).trans HPG.out
  have hzE : w.heap.size < wE.heap.size := (Array.getElem?_eq_some_iff.1 HPE.out).1
  have HBW : Hid (Below w.heap.size w wE) := HBA.out.trans (hbE.mono (by omega))
  have c0 : wE.cell? ⟨w.heap.size, 0, none⟩ = some (.slice na n nc) := by rw [Lib.cell_of_heap HPE.out]; rfl
  clear HED hel hm hev hbE HWA
  go_wp2_with fail
  go_loopw [4, 15] (fun l i wr => ∃ k : Nat, k ≤ n ∧ i = .int .i64 (k : Int) ∧ (∃ a c, l = .slice a k c) ∧ Hid (wr.ownsRow wE.heap.size 3 1 l k (((partsL p).take k).map intV)) ∧ Hid (Below wE.heap.size wE wr)) (fun _ i _ => n - (intOf i).toNat)
  case atStart => exact ⟨0, Nat.zero_le _, rfl, ⟨_, _, rfl⟩, World.ownsRow_nil _ _ _ _, Below.refl _ _⟩
  case round =>
    obtain ⟨k, hk, rfl, ⟨la, lc, rfl⟩, HO, HB⟩ := hrel
    by_cases hlt : k < n
    · have hkl : k < p.names.length := by rw [← HN.out]; exact hlt
      obtain ⟨g, hga, hcap, e1, e2, e3, e4, e5, e6⟩ := (HNA.out.below (HBW.out.trans (HB.out.mono HBW.out.size))).at_ (List.getElem?_eq_getElem hkl)
      subst hga
      have HSU := hide (partsL_succ p k hkl)
      have HPL := hide (part_le p HCK.out k hkl)
      have hmay := HMAY.out k hkl
      have HPART : Hid (part p k = if 3 ≤ p.names[k].kind then (p.names[k].count + 1).toNat else if p.names[k].kind = 2 then 2 else if p.names[k].kind = 1 ∧ el.contains k = true then 2 else 0) := by
        show _ = _
        unfold part
        rw [List.getElem?_eq_getElem hkl, HEL.out]
      generalize p.names[k] = y at *
      obtain ⟨nm, kd, ct⟩ := y
      dsimp only at e1 e2 e3 hmay HPART
      generalize part p k = pk at *
      obtain ⟨wN, hwN⟩ : ∃ wN, wN = wr.alloc (.cells #[.string ⟨nm.toArray⟩, .int .i64 kd, .int .i64 ct] 144) := ⟨_, rfl⟩
      have hbN : Below wr.heap.size wr wN := by rw [hwN]; exact (Below.refl _ _).alloc (Nat.le_refl _) _
      have HBN : Hid (Below wE.heap.size wE wN) := HB.out.trans (hbN.mono HB.out.size)
      have HNB : Hid (wN.heap[wr.heap.size]? = some (.cells #[.string ⟨nm.toArray⟩, .int .i64 kd, .int .i64 ct] 144 (0, 0))) := by show wN.heap[_]? = _; rw [hwN]; exact heap_alloc_new _ _
      have HON := hide (own_below HO.out hbN)
      have q1 : wN.cell? ⟨wr.heap.size, 1, none⟩ = some (.int .i64 kd) := by rw [Lib.cell_of_heap HNB.out]; rfl
      have q2 : wN.cell? ⟨wr.heap.size, 2, none⟩ = some (.int .i64 ct) := by rw [Lib.cell_of_heap HNB.out]; rfl
      have HWN := hide hwN
      have hzN : wE.heap.size ≤ wN.heap.size := HBN.out.size
      have hki : (k : Int) < (n : Int) := by omega
      obtain ⟨k0, BB, hk0, HK0, hkk⟩ : ∃ (k0 : Int) (BB : Bool), (0 ≤ k0 ∧ k0 ≤ 8) ∧ Hid ((pk : Int) = if (BB && el.contains k) = true then 2 else k0) ∧ (3 ≤ kd ∧ BB = false ∧ ct + 1 = k0 ∨ kd = 2 ∧ BB = false ∧ k0 = 2 ∨ kd = 1 ∧ BB = true ∧ k0 = 0) := by
        have hp := HPART.out
        rcases (show 3 ≤ kd ∨ kd = 2 ∨ kd = 1 by omega) with h | h | h
        · refine ⟨ct + 1, false, by omega, ?_, .inl ⟨h, rfl, rfl⟩⟩
          show _ = _
          rw [hp, if_pos h]
          simp
          omega
        · refine ⟨2, false, by omega, ?_, .inr (.inl ⟨h, rfl, rfl⟩)⟩
          show _ = _
          subst h
          rw [hp]
          simp
        · refine ⟨0, true, by omega, ?_, .inr (.inr ⟨h, rfl, rfl⟩)⟩
          show _ = _
          subst h
          rw [hp]
          simp
          split <;> rfl
      clear HPART hmay hbN hwN
      have HLP : Hid (((partsL p).take k).length = k) := by show _ = _; rw [List.length_take, partsL_len]; omega
      obtain ⟨pl, hpl⟩ : ∃ pl, pl = (partsL p).take k := ⟨_, rfl⟩
      rw [← hpl] at HSU HO HON HLP
      clear hpl
      obtain ⟨wo, hwo⟩ : ∃ wo, wo = wr := ⟨_, rfl⟩
      subst hwo
      rcases hkk with ⟨h3, hbb, hkk⟩ | ⟨rfl, hbb, hkk⟩ | ⟨rfl, hbb, hkk⟩
      have hb1 : (kd == 1) = false := by simp; omega
      all_goals
        have HBB := hide hbb
        have HKK := hide hkk
        clear hbb
        first | (clear hb1; clear hkk; have hb1 : (kd == 1) = false := (by simp; omega); have hkk := HKK.out) | clear hkk
        go_wp2_with fail
        rw [← HWN.out]
        clear HWN
        go_loopw [7, 33] (fun kv i wr => ∃ (z : Nat) (x : Int), z ≤ m ∧ i = .int .i64 (z : Int) ∧ kv = .int .i64 x ∧ Hid (x = if (BB && (el.take z).contains k) = true then 2 else k0) ∧ Hid (Below wN.heap.size wN wr)) (fun _ i _ => m - (intOf i).toNat)
        case atStart => exact ⟨0, _, Nat.zero_le _, rfl, rfl, by show _ = _; simp [HKK.out], Below.refl _ _⟩
        case round =>
          obtain ⟨z, x, hz, rfl, rfl, HX, HBZ⟩ := hrel
          have HBZE := hide (HBN.out.trans (HBZ.out.mono HBN.out.size))
          have q1z := (HBZ.out.cell (World.block_lt_of_cell? _ _ q1)).trans q1
          by_cases hzm : z < m
          · have hzl : z < el.length := by rw [← HM.out]; exact hzm
            obtain ⟨ge, hge, _, hec, _, ce⟩ := own_int (by have h := own_below HEV.out HBZE.out; rw [HM.out] at h; exact h) hzl
            subst hge
            have HCS := hide (contains_succ el z k hzl)
            have hzi : (z : Int) < (m : Int) := by omega
            generalize el[z] = j at *
            have HXN : Hid (∀ hit : Bool, (k == j) = hit → (if (BB && hit) = true then 2 else x) = if (BB && (el.take (z + 1)).contains k) = true then 2 else k0) := fun hit h => by
              rw [HCS.out, h, HX.out]
              cases BB <;> cases (el.take z).contains k <;> cases hit <;> rfl
            by_cases hkj : k = j
            · subst hkj
              have HX0 : Hid (BB = false → x = if (BB && (el.take (z + 1)).contains k) = true then 2 else k0) := fun hb => by rw [← HXN.out true (by simp), hb]; rfl
              have HX2 : Hid (BB = true → 2 = if (BB && (el.take (z + 1)).contains k) = true then 2 else k0) := fun hb => by rw [← HXN.out true (by simp), hb]; rfl
              go_wp2_with fail
              go_roundw
              case rel => first | exact ⟨z + 1, _, by omega, by go_num, rfl, HX0.out HBB.out, HBZ.out⟩ | exact ⟨z + 1, _, by omega, by go_num, rfl, HX2.out HBB.out, HBZ.out⟩
              case measure => simp [intOf]; omega
            · have hkb : ((k : Int) == (j : Int)) = false := by simp; omega
              have HXF : Hid (x = if (BB && (el.take (z + 1)).contains k) = true then 2 else k0) := by show _ = _; rw [← HXN.out false (by simpa using hkj)]; cases BB <;> rfl
              go_wp2_with fail
              go_roundw
              case rel => exact ⟨z + 1, _, by omega, by go_num, rfl, HXF.out, HBZ.out⟩
              case measure => simp [intOf]; omega
          · have hzk : z = m := by omega
            have HXP : Hid (x = (pk : Int)) := by
              show _ = _
              rw [HX.out, HK0.out, hzk, HM.out, List.take_length]
            obtain rfl := HXP.out
            have HOX := hide (own_below HON.out HBZ.out)
            have HOWN : Hid (∀ o, (wr.alloc o).ownsRow wE.heap.size 3 1 (.slice la k lc) k (pl.map intV)) := fun o => HOX.out.alloc o
            have HONE : Hid (∀ u ∈ [Value.int .i64 (pk : Int)], u.oneCell' = true) := by
              intro u hu
              simp only [List.mem_cons, List.not_mem_nil, or_false] at hu
              subst hu; rfl
            have hzx := HBZE.out.size
            have HFIN : Hid (∀ (o : Obj) (g2 cap : Nat) (wC : World), wC.ownsRow wE.heap.size 3 1 (.slice (some ⟨g2, 0, none⟩) (k + 1) cap) (k + 1) (pl.map intV ++ [intV pk]) → (wr.alloc o).grownBy wC (Value.slice la k lc).ownBlock →
                wC.ownsRow wE.heap.size 3 1 (.slice (some ⟨g2, 0, none⟩) (k + 1) cap) (k + 1) (((partsL p).take (k + 1)).map intV) ∧ Below wE.heap.size wE wC) := by
              intro o g2 cap wC hown hgrow
              rw [HSU.out, List.map_append]
              exact ⟨hown, (HBZE.out.alloc HBZE.out.size o).grown hgrow (by simp; omega) (fun j e => (HOX.out.lt j e).1)⟩
            clear hzk HX HXP HK0 HKK
            go_wp2_with (at_builtin; refine wpList_append_lies _ rfl (.tmp 46) (.tmp 48) 36 rfl wE.heap.size 3 i0 _ 1 8 Tryz.underlying36 hi0 hz0 hz1 hz2 rfl (by decide) (.slice la k lc) k (pl.map intV) rfl (HOWN.out _) ⟨wr.heap.size, 0, none⟩ 1 1 [.int .i64 (pk : Int)] rfl rfl (World.news_of_block (heap_alloc_new wr _)) HONE.out (by decide) (by unfold maxLen; omega) (by omega) (by simp; omega) (wr.heap.size + 1) (by simp) ?_; intro g2 cap2 wC hown hgrow hat hltg; obtain ⟨hoC, hbC⟩ := HFIN.out _ g2 cap2 wC hown hgrow; have HOC := hide hoC; have HBC := hide hbC; clear hown hgrow hat hoC hbC)
            go_roundw
            case rel => exact ⟨k + 1, by omega, by go_num, ⟨_, _, rfl⟩, HOC.out, HBC.out⟩
            case measure => simp [intOf]; omega
    · have hkm : k = n := by omega
      subst hkm
      have HF : Hid (wr.ownsRow w.heap.size 3 1 (.slice la k lc) k ((partsL p).map intV)) := by
        have h := HO.out
        rw [List.take_of_length_le (by rw [partsL_len, ← HN.out]; exact Nat.le_refl _)] at h
        exact own_mono h (by omega)
      have HBF : Hid (Below w.heap.size w wr) := HBW.out.trans (HB.out.mono HBW.out.size)
      clear HO HB
      go_wp2_with fail
      go_ret
      exact ⟨_, rfl, HF.out, HBF.out⟩
end Rf
end
section
namespace Rf
open Go.RowKit Go.Maps
theorem lawS : Keyed Tryz.prog 9 := string_keyed Tryz.underlying9
theorem keyS (s : List UInt8) (h : s.length ≤ maxLen) : keyOf Tryz.prog 9 (.string ⟨s.toArray⟩) = some (.string s) := by
  have := Go.WideMaps.keyOf_string_mk (P := Tryz.prog) (k := 9) Tryz.underlying9 (s := ⟨s.toArray⟩) (by show s.toArray.size ≤ maxLen; simpa using h)
  simpa using this
theorem keyS_inv {key : Value} {kl : Lit} (h : keyOf Tryz.prog 9 key = some kl) : ∃ s : List UInt8, key = .string ⟨s.toArray⟩ ∧ kl = .string s ∧ s.length ≤ maxLen := by
  obtain ⟨s, h1, h2, h3⟩ := Go.WideMaps.string_of_keyOf (P := Tryz.prog) (k := 9) Tryz.underlying9 h
  exact ⟨s.data.toList, h1, h2, by simpa using h3⟩
theorem zeroB (w : World) : (zeroValue 4).run Tryz.prog w = .ok (.bool false) w := by kernel_rfl
theorem zeroI (w : World) : (zeroValue 3).run Tryz.prog w = .ok (.int .i64 0) w := by kernel_rfl
theorem plainB_inv {P : Program} {e : TypeId} (he : P.underlying e = some .bool) {v : Value} {z : DataW Unit × List MemPlace} (h : plainElem P e v = some z) : ∃ x, v = .bool x ∧ z = (.lit (.bool x), []) := by
  unfold plainElem at h
  rw [he] at h
  cases v <;> simp at h
  exact ⟨_, rfl, h.symm⟩
/-- the datum of a map of bools -/
def DB (D : DataW Unit) (f : List UInt8 → Bool) : Prop := ∀ s, D.atKey (.string s) (.lit (.bool false)) = .lit (.bool (f s))
def DI (D : DataW Unit) (g : List UInt8 → Int) : Prop := ∀ s, D.atKey (.string s) (.lit (.int .i64 0)) = .lit (.int .i64 (g s))
/-- block b is a map of bools that tells f -/
def BM (W : World) (b n : Nat) (f : List UInt8 → Bool) : Prop := ∃ D : DataW Unit, W.ownsMap Tryz.prog 9 (plainElem Tryz.prog 4) b n D ∧ DB D f
/-- block b is a map of numbers that tells g -/
def IM (W : World) (b n : Nat) (g : List UInt8 → Int) : Prop := ∃ D : DataW Unit, W.ownsMap Tryz.prog 9 (plainElem Tryz.prog 3) b n D ∧ DI D g
theorem BM.made (W : World) : BM (W.alloc (.map #[] 0)) W.heap.size 0 (fun _ => false) := ⟨.map [], World.ownsMap_made _ _ _ _, fun _ => rfl⟩
theorem IM.made (W : World) : IM (W.alloc (.map #[] 0)) W.heap.size 0 (fun _ => 0) := ⟨.map [], World.ownsMap_made _ _ _ _, fun _ => rfl⟩
theorem BM.lt {W : World} {b n : Nat} {f : List UInt8 → Bool} (h : BM W b n f) : b < W.heap.size := by obtain ⟨D, h1, _⟩ := h; exact h1.lt
theorem IM.lt {W : World} {b n : Nat} {f : List UInt8 → Int} (h : IM W b n f) : b < W.heap.size := by obtain ⟨D, h1, _⟩ := h; exact h1.lt
theorem BM.kept {W W' : World} {b n : Nat} {f : List UInt8 → Bool} (h : BM W b n f) (hb : W'.heap[b]? = W.heap[b]?) : BM W' b n f := by
  obtain ⟨D, ⟨es, clock, h1, h2⟩, h3⟩ := h
  exact ⟨D, ⟨es, clock, hb.trans h1, h2⟩, h3⟩
theorem IM.kept {W W' : World} {b n : Nat} {f : List UInt8 → Int} (h : IM W b n f) (hb : W'.heap[b]? = W.heap[b]?) : IM W' b n f := by
  obtain ⟨D, ⟨es, clock, h1, h2⟩, h3⟩ := h
  exact ⟨D, ⟨es, clock, hb.trans h1, h2⟩, h3⟩
theorem BM.below {W W' : World} {b n : Nat} {f : List UInt8 → Bool} (h : BM W b n f) (hb : Below W.heap.size W W') : BM W' b n f := h.kept (hb.block _ h.lt)
theorem IM.below {W W' : World} {b n : Nat} {f : List UInt8 → Int} (h : IM W b n f) (hb : Below W.heap.size W W') : IM W' b n f := h.kept (hb.block _ h.lt)
theorem BM.more {W : World} {b n n' : Nat} {f : List UInt8 → Bool} (h : BM W b n f) (hn : n ≤ n') : BM W b n' f := by
  obtain ⟨D, h1, h2⟩ := h
  exact ⟨D, h1.mono hn, h2⟩
theorem IM.more {W : World} {b n n' : Nat} {f : List UInt8 → Int} (h : IM W b n f) (hn : n ≤ n') : IM W b n' f := by
  obtain ⟨D, h1, h2⟩ := h
  exact ⟨D, h1.mono hn, h2⟩
theorem i64_wf {x : Int} (h1 : -9223372036854775808 ≤ x) (h2 : x ≤ 9223372036854775807) : (Lit.int .i64 x).wf = true := by simp [Lit.wf, IntKind.min, IntKind.max, IntKind.signed, IntKind.bits]; omega
theorem BM.look {W : World} {b n : Nat} {f : List UInt8 → Bool} (h : BM W b n f) (s : List UInt8) (hs : s.length ≤ maxLen) : (Instr.lookup 120 (.map (some b)) (.string ⟨s.toArray⟩) false).run Tryz.prog W = .ok (.bool (f s)) W := by
  obtain ⟨D, h1, h2⟩ := h
  obtain ⟨v, ps, hrun, hv⟩ := h1.lookup lawS Tryz.underlying120 (zeroB W) (plainElem_bool Tryz.underlying4 false) (keyS s hs)
  obtain ⟨x, rfl, hx⟩ := plainB_inv Tryz.underlying4 hv
  rw [h2 s] at hx
  simp only [Prod.mk.injEq, DataW.lit.injEq, Lit.bool.injEq] at hx
  rw [hx.1]; exact hrun
theorem IM.look {W : World} {b n : Nat} {f : List UInt8 → Int} (h : IM W b n f) (s : List UInt8) (hs : s.length ≤ maxLen) : (Instr.lookup 121 (.map (some b)) (.string ⟨s.toArray⟩) false).run Tryz.prog W = .ok (.int .i64 (f s)) W := by
  obtain ⟨D, h1, h2⟩ := h
  obtain ⟨v, ps, hrun, hv⟩ := h1.lookup lawS Tryz.underlying121 (zeroI W) (plainElem_int Tryz.underlying3 (i64_wf (x := 0) (by omega) (by omega))) (keyS s hs)
  obtain ⟨x, rfl, hx, _⟩ := plainElem_int_inv Tryz.underlying3 hv
  rw [h2 s] at hx
  simp only [Prod.mk.injEq, DataW.lit.injEq, Lit.int.injEq, true_and] at hx
  rw [hx.1]; exact hrun
/-- a text is given another value -/
theorem BM.put {W : World} {b n : Nat} {f : List UInt8 → Bool} (h : BM W b n f) (hn : n < maxLen) (s : List UInt8) (hs : s.length ≤ maxLen) (x : Bool) :
    ∃ W', (Instr.mapUpdate 120 (.map (some b)) (.string ⟨s.toArray⟩) (.bool x)).run Tryz.prog W = .ok () W' ∧ BM W' b (n + 1) (upd f s x) ∧ W.mapTurned W' b := by
  obtain ⟨D, h1, h2⟩ := h
  obtain ⟨W', e1, e2, e3⟩ := h1.store lawS Tryz.underlying120 hn (keyS s hs) (plainElem_bool Tryz.underlying4 x)
  refine ⟨W', e1, ⟨_, e2, fun t => ?_⟩, e3⟩
  unfold upd
  by_cases e : t = s
  · subst e
    rw [atKey_put_same h1.isMap (by trivial), if_pos rfl]
  · rw [atKey_put_other (by simpa using e), h2 t, if_neg e]
theorem IM.put {W : World} {b n : Nat} {f : List UInt8 → Int} (h : IM W b n f) (hn : n < maxLen) (s : List UInt8) (hs : s.length ≤ maxLen) (x : Int) (h3 : -9223372036854775808 ≤ x) (h4 : x ≤ 9223372036854775807) :
    ∃ W', (Instr.mapUpdate 121 (.map (some b)) (.string ⟨s.toArray⟩) (.int .i64 x)).run Tryz.prog W = .ok () W' ∧ IM W' b (n + 1) (upd f s x) ∧ W.mapTurned W' b := by
  obtain ⟨D, h1, h2⟩ := h
  obtain ⟨W', e1, e2, e3⟩ := h1.store lawS Tryz.underlying121 hn (keyS s hs) (plainElem_int Tryz.underlying3 (i64_wf h3 h4))
  refine ⟨W', e1, ⟨_, e2, fun t => ?_⟩, e3⟩
  unfold upd
  by_cases e : t = s
  · subst e
    rw [atKey_put_same h1.isMap (by trivial), if_pos rfl]
  · rw [atKey_put_other (by simpa using e), h2 t, if_neg e]
/-- where a map alone turned, all else stands -/
theorem turned_two {W W' : World} {b : Nat} (ht : W.mapTurned W' b) : W'.os = W.os ∧ W'.tape = W.tape ∧ W'.output = W.output ∧ W'.heap.size = W.heap.size ∧ ∀ k, k ≠ b → W'.heap[k]? = W.heap[k]? := by
  obtain ⟨es, clock, es', clock', hb, rfl⟩ := ht
  refine ⟨rfl, rfl, rfl, by simp [Go.ChangeMaps.setBlock], fun k hk => ?_⟩
  have : b ≠ k := fun e => hk e.symm
  simp [Go.ChangeMaps.setBlock, this]
/-- a value of the map's, at a text -/
def AtB (D : DataW Unit) (x : List UInt8) (v : Value) : Prop := ∃ c : Bool, v = .bool c ∧ ∀ zd, D.atKey (.string x) zd = .lit (.bool c)
section
variable (w : World) {ops : Array Oper} {rest : List Oper} {o : Oper} {a : Act} {Q : Exit → Act → World → Prop}
/-- the step of a range over a map of bools -/
theorem next_sb (hg : o.guard = none) (it : Operand) (hop : o.op = Op.next it false) (b r n : Nat) (D : DataW Unit) (left : Lit → Bool) (cnt : Nat)
    (hit : a.eval it = .pointer (some ⟨r, 0, none⟩)) (h : w.ranges Tryz.prog 9 (plainElem Tryz.prog 4) b r n D left cnt)
    (hDone : cnt = 0 → (∀ kl, left kl = false) → wpList Tryz.prog ops Q rest (a.put o.dst (.tuple #[.bool false])) w)
    (hMore : ∀ (x : List UInt8) (v : Value) (w' : World) (cnt' : Nat), x.length ≤ maxLen → left (.string x) = true → AtB D x v → w'.ranges Tryz.prog 9 (plainElem Tryz.prog 4) b r n D (fun z => left z && !z.sameKey (.string x)) cnt' → cnt' < cnt →
      w.grownBy w' (some r) → w'.heap.size = w.heap.size → (Instr.entry (.pointer (some ⟨r, 0, none⟩))).run Tryz.prog w' = .ok (.tuple #[.string ⟨x.toArray⟩, v]) w' → wpList Tryz.prog ops Q rest (a.put o.dst (.tuple #[.bool true, .string ⟨x.toArray⟩, v])) w') :
    wpList Tryz.prog ops Q (o :: rest) a w :=
  wpList_next_ranges w hg it hop 9 lawS (plainElem Tryz.prog 4) (fun x : List UInt8 => .string ⟨x.toArray⟩) Value.bool (fun key kl hkey => by obtain ⟨x, rfl, _⟩ := keyS_inv hkey; exact ⟨x, rfl⟩) (fun v y hv => by obtain ⟨c, rfl, _⟩ := plainB_inv Tryz.underlying4 hv; exact ⟨c, rfl⟩)
    b r n D left cnt hit h hDone (fun x c kl y w' cnt' hkey hlk hv hat hrg hlt hgr hsz hen => by
      obtain ⟨x', ex, rfl, hwx⟩ := keyS_inv hkey
      have : x = x' := by simpa using ex
      subst this
      obtain ⟨c', ec, rfl⟩ := plainB_inv Tryz.underlying4 hv
      cases ec
      exact hMore x (.bool c) w' cnt' hwx hlk ⟨c, rfl, hat⟩ hrg hlt hgr hsz hen)
/-- the step of a range over a map of numbers -/
theorem next_si (hg : o.guard = none) (it : Operand) (hop : o.op = Op.next it false) (b r n : Nat) (D : DataW Unit) (left : Lit → Bool) (cnt : Nat)
    (hit : a.eval it = .pointer (some ⟨r, 0, none⟩)) (h : w.ranges Tryz.prog 9 (plainElem Tryz.prog 3) b r n D left cnt)
    (hDone : cnt = 0 → (∀ kl, left kl = false) → wpList Tryz.prog ops Q rest (a.put o.dst (.tuple #[.bool false])) w)
    (hMore : ∀ (x : List UInt8) (c : Int) (w' : World) (cnt' : Nat), x.length ≤ maxLen → (Lit.int .i64 c).wf = true → left (.string x) = true → (∀ zd, D.atKey (.string x) zd = .lit (.int .i64 c)) → w'.ranges Tryz.prog 9 (plainElem Tryz.prog 3) b r n D (fun z => left z && !z.sameKey (.string x)) cnt' → cnt' < cnt →
      w.grownBy w' (some r) → w'.heap.size = w.heap.size → (Instr.entry (.pointer (some ⟨r, 0, none⟩))).run Tryz.prog w' = .ok (.tuple #[.string ⟨x.toArray⟩, .int .i64 c]) w' → wpList Tryz.prog ops Q rest (a.put o.dst (.tuple #[.bool true, .string ⟨x.toArray⟩, .int .i64 c])) w') :
    wpList Tryz.prog ops Q (o :: rest) a w :=
  wpList_next_ranges w hg it hop 9 lawS (plainElem Tryz.prog 3) (fun x : List UInt8 => .string ⟨x.toArray⟩) (Value.int .i64) (fun key kl hkey => by obtain ⟨x, rfl, _⟩ := keyS_inv hkey; exact ⟨x, rfl⟩) (fun v y hv => by obtain ⟨c, rfl, _⟩ := plainElem_int_inv Tryz.underlying3 hv; exact ⟨c, rfl⟩)
    b r n D left cnt hit h hDone (fun x c kl y w' cnt' hkey hlk hv hat hrg hlt hgr hsz hen => by
      obtain ⟨x', ex, rfl, hwx⟩ := keyS_inv hkey
      have : x = x' := by simpa using ex
      subst this
      obtain ⟨c', ec, rfl, hwc⟩ := plainElem_int_inv Tryz.underlying3 hv
      cases ec
      exact hMore x c w' cnt' hwx hwc hlk hat hrg hlt hgr hsz hen)
end
/-- what agrees at the end tells the same -/
theorem DB.end_ {Dout D0 : DataW Unit} {f : List UInt8 → Bool} (h : DB D0 f) (e : Dout = D0) : DB Dout f := by rw [e]; exact h
end Rf
end
section
open Go.RowKit
namespace R2
/-- how many of the first k are true -/
def cnt (bs : List Bool) (k : Nat) : Nat := ((bs.take k).filter id).length
theorem cnt_succ (bs : List Bool) (k : Nat) (h : k < bs.length) : cnt bs (k + 1) = cnt bs k + (if bs[k] then 1 else 0) := by
  unfold cnt
  rw [List.take_succ_eq_append_getElem h, List.filter_append, List.length_append]
  cases bs[k] <;> rfl
theorem cnt_le (bs : List Bool) (k : Nat) : cnt bs k ≤ k := by
  unfold cnt
  have h1 := List.length_filter_le id (bs.take k)
  rw [List.length_take] at h1
  omega
theorem cnt_all (bs : List Bool) : ((cnt bs bs.length : Int) == (bs.length : Int)) = bs.all id := by
  unfold cnt
  rw [List.take_length]
  induction bs with
  | nil => rfl
  | cons a r ih =>
    have hle := List.length_filter_le id r
    cases a with
    | true =>
      simp only [List.filter_cons, id, if_true, List.length_cons, List.all_cons, Bool.true_and]
      rw [← ih]
      by_cases h : (r.filter id).length = r.length
      · rw [beq_iff_eq.2 (show ((r.filter id).length : Int) = (r.length : Int) by omega), beq_iff_eq.2 (by omega)]
      · rw [beq_eq_false_iff_ne.2 (show ((r.filter id).length : Int) ≠ (r.length : Int) by omega), beq_eq_false_iff_ne.2 (by omega)]
    | false =>
      simp only [List.filter_cons, id, Bool.false_eq_true, if_false, List.length_cons, List.all_cons, Bool.false_and]
      exact beq_eq_false_iff_ne.2 (by omega)
theorem cnt_any (bs : List Bool) : decide ((0 : Int) < (cnt bs bs.length : Int)) = bs.any id := by
  unfold cnt
  rw [List.take_length]
  induction bs with
  | nil => rfl
  | cons a r ih =>
    cases a with
    | true =>
      simp only [List.filter_cons, id, if_true, List.length_cons, List.any_cons, Bool.true_or]
      exact decide_eq_true (by omega)
    | false =>
      simp only [List.filter_cons, id, Bool.false_eq_true, if_false, List.any_cons, Bool.false_or]
      exact ih
/-- a closure that tells of some names whether they are so -/
def Tells (D : List UInt8 → Prop) (f : Value) (p : List UInt8 → Bool) (w : World) : Prop :=
  ∃ K c d, f = .func (.func K) #[] #[c, d] ∧ Entered K ∧ ∀ (W : World), Below w.heap.size w W → ∀ nm : List UInt8, D nm → Calls Tryz.prog K #[.string ⟨nm.toArray⟩, c, d] W fun e W' => e = .returned (.bool (p nm)) ∧ Below W.heap.size W W'
theorem Tells.below {D : List UInt8 → Prop} {f : Value} {p : List UInt8 → Bool} {w w' : World} (h : Tells D f p w) (hb : Below w.heap.size w w') : Tells D f p w' := by
  obtain ⟨K, c, d, h1, h2, h3⟩ := h
  exact ⟨K, c, d, h1, h2, fun W hW => h3 W (hb.trans (hW.mono hb.size))⟩
/-- Eval, at this expression -/
def EvalRK (D : List UInt8 → Prop) (x : Ex) : Prop := ∀ (g : Nat) (fi fw : Value) (is was : List UInt8 → Bool) (w : World), (∀ n, n ∈ x.named true → D n) → IsRx (fun _ => True) w x g → Tells D fi is w → Tells D fw was w →
  Calls Tryz.prog 48 #[.pointer (some ⟨g, 0, none⟩), fi, fw] w fun e w' => e = .returned (.bool (x.eval is was)) ∧ Below w.heap.size w w'
set_option maxHeartbeats 4000000 in
set_option maxRecDepth 100000 in
theorem reval_any (D : List UInt8 → Prop) (x : Ex) : EvalRK D x := by
  induction x using Ex.ind with
  | h k nm l ih =>
    intro g fi fw is was w hD h hi hw
    have HIH := hide ih
    have HI := hide hi
    have HW := hide hw
    obtain ⟨Ki, ci, di, hfi, hei, hti⟩ := hi
    obtain ⟨Kw, cw, dw, hfw, hew, htw⟩ := hw
    have HTI := hide hti
    have HTW := hide htw
    have HSUB : Hid ((k ≠ 2 ∧ k ≠ 3 ∧ k ≠ 4) → ∀ y, y ∈ l → ∀ n, n ∈ y.named true → D n) := fun hk y hy n hn => hD n (by
      rw [Ex.named_of _ _ _ _ hk, List.mem_flatten]
      exact ⟨_, List.mem_map_of_mem hy, hn⟩)
    have HDN : Hid ((k = 2 ∨ k = 3 ∨ k = 4) → D nm) := fun hk => hD nm (by
      rcases hk with rfl | rfl | rfl
      · rw [Ex.named2]; simp
      · rw [Ex.named3]; simp
      · rw [Ex.named4]; simp)
    have hei' : ∀ (args : Array Value) (w : World), (callFunc Ki args).run Tryz.prog w = .ok (.enter Ki args) w := hei
    have hew' : ∀ (args : Array Value) (w : World), (callFunc Kw args).run Tryz.prog w = .ok (.enter Kw args) w := hew
    subst hfi
    subst hfw
    clear hti htw hei hew ih hD
    rw [IsRx.def] at h
    obtain ⟨_, hwf, hln, hk, hn, sv, hsv, hof⟩ := h
    have HKD := hide hk
    clear hk
    match k, hwf, HKD, HSUB, HDN with
    | 0, _, HKD, HSUB, HDN =>
      have HBX : Hid (Below w.heap.size w w) := Below.refl _ _
      have HF : Hid ((⟨0, nm, l⟩ : Ex).eval is was = false) := by show _ = _; simp [Ex.eval]
      have hk := HKD.out
      simp only [kindS] at hk
      clear hof
      go_enter Tryz.func48, Tryz.ntmps48
      go_wp2_with fail
      go_ret
      exact ⟨ret_bool HF.out.symm, HBX.out⟩
    | 1, _, HKD, HSUB, HDN =>
      have HBX : Hid (Below w.heap.size w w) := Below.refl _ _
      have HF : Hid ((⟨1, nm, l⟩ : Ex).eval is was = true) := by show _ = _; simp [Ex.eval]
      have hk := HKD.out
      simp only [kindS] at hk
      clear hof
      go_enter Tryz.func48, Tryz.ntmps48
      go_wp2_with fail
      go_ret
      exact ⟨ret_bool HF.out.symm, HBX.out⟩
    | 2, _, HKD, HSUB, HDN =>
      have HF : Hid ((⟨2, nm, l⟩ : Ex).eval is was = is nm) := by show _ = _; simp [Ex.eval]
      have HC := hide (fun W hW => HTI.out W hW nm (HDN.out (by simp)))
      have hk := HKD.out
      simp only [kindS] at hk
      clear hof
      go_enter Tryz.func48, Tryz.ntmps48
      go_wp2_with fail
      refine (HC.out w (Below.refl _ _)).mono ?_
      rintro e w1 ⟨rfl, hb1⟩
      have HBX := hide hb1
      clear hb1
      go_wp2_with fail
      go_ret
      exact ⟨ret_bool HF.out.symm, HBX.out⟩
    | 3, _, HKD, HSUB, HDN =>
      have HF : Hid ((⟨3, nm, l⟩ : Ex).eval is was = (is nm && !was nm)) := by show _ = _; simp [Ex.eval]
      have HC := hide (fun W hW => HTI.out W hW nm (HDN.out (by simp)))
      have HD := hide (fun W hW => HTW.out W hW nm (HDN.out (by simp)))
      generalize is nm = bi at *
      generalize was nm = bw at *
      have hk := HKD.out
      simp only [kindS] at hk
      clear hof
      cases bi with
      | false =>
        go_enter Tryz.func48, Tryz.ntmps48
        go_wp2_with fail
        refine (HC.out w (Below.refl _ _)).mono ?_
        rintro e w1 ⟨rfl, hb1⟩
        have HBX := hide hb1
        clear hb1
        go_wp2_with fail
        go_ret
        exact ⟨ret_bool HF.out.symm, HBX.out⟩
      | true =>
        go_enter Tryz.func48, Tryz.ntmps48
        go_wp2_with fail
        refine (HC.out w (Below.refl _ _)).mono ?_
        rintro e w1 ⟨rfl, hb1⟩
        have HB1 := hide hb1
        have hkA := (hb1.cell (World.block_lt_of_cell? _ _ hk)).trans hk
        have hnA := (hb1.cell (World.block_lt_of_cell? _ _ hn)).trans hn
        clear hb1
        go_wp2_with fail
        refine (HD.out w1 HB1.out).mono ?_
        rintro e w2 ⟨rfl, hb2⟩
        have HBX := hide (HB1.out.trans (hb2.mono HB1.out.size))
        clear hb2
        go_wp2_with fail
        go_ret
        exact ⟨ret_bool (by rw [HF.out]; rfl), HBX.out⟩
    | 4, _, HKD, HSUB, HDN =>
      have HF : Hid ((⟨4, nm, l⟩ : Ex).eval is was = (!is nm && was nm)) := by show _ = _; simp [Ex.eval]
      have HC := hide (fun W hW => HTI.out W hW nm (HDN.out (by simp)))
      have HD := hide (fun W hW => HTW.out W hW nm (HDN.out (by simp)))
      generalize is nm = bi at *
      generalize was nm = bw at *
      have hk := HKD.out
      simp only [kindS] at hk
      clear hof
      cases bw with
      | false =>
        go_enter Tryz.func48, Tryz.ntmps48
        go_wp2_with fail
        refine (HD.out w (Below.refl _ _)).mono ?_
        rintro e w1 ⟨rfl, hb1⟩
        have HBX := hide hb1
        clear hb1
        go_wp2_with fail
        go_ret
        exact ⟨ret_bool (by rw [HF.out]; cases bi <;> rfl), HBX.out⟩
      | true =>
        go_enter Tryz.func48, Tryz.ntmps48
        go_wp2_with fail
        refine (HD.out w (Below.refl _ _)).mono ?_
        rintro e w1 ⟨rfl, hb1⟩
        have HB1 := hide hb1
        have hkA := (hb1.cell (World.block_lt_of_cell? _ _ hk)).trans hk
        have hnA := (hb1.cell (World.block_lt_of_cell? _ _ hn)).trans hn
        clear hb1
        go_wp2_with fail
        refine (HC.out w1 HB1.out).mono ?_
        rintro e w2 ⟨rfl, hb2⟩
        have HBX := hide (HB1.out.trans (hb2.mono HB1.out.size))
        clear hb2
        go_wp2_with fail
        go_ret
        exact ⟨ret_bool (by rw [HF.out]; cases bi <;> rfl), HBX.out⟩
    | 5, hwf, HKD, HSUB, HDN =>
      have hl1 : l.length = 1 := by
        rcases hwf with h | h | h | h <;> omega
      have hk := HKD.out
      simp only [kindS] at hk
      match l, hl1, hof, HIH with
      | [y], _, hof, HIH =>
        rcases hof with ⟨h0, _⟩ | ⟨_, b, cap, rfl, hcap, _, hrow⟩
        · simp at h0
        · obtain ⟨gy, hcell, hy⟩ := hrow 0 _ rfl
          have HF : Hid ((⟨5, nm, [y]⟩ : Ex).eval is was = !(y.eval is was)) := by show _ = _; simp [Ex.eval]
          have HC := hide (HIH.out y (by simp) gy _ _ is was w (HSUB.out ⟨by decide, by decide, by decide⟩ y (by simp)) hy HI.out HW.out)
          clear hrow hy
          simp only [List.length_singleton] at hsv hcap
          generalize y.eval is was = bv at *
          go_enter Tryz.func48, Tryz.ntmps48
          go_wp2_with fail
          refine HC.out.mono ?_
          rintro e w1 ⟨rfl, hb1⟩
          have HBX := hide hb1
          clear hb1
          go_wp2_with fail
          go_ret
          exact ⟨ret_bool HF.out.symm, HBX.out⟩
    | 6, hwf, HKD, HSUB, HDN =>
      have hk := HKD.out
      simp only [kindS] at hk
      have h2 : 2 ≤ l.length := by rcases hwf with h | h | h | h <;> omega
      rcases hof with ⟨h0, _⟩ | ⟨_, b, cap, rfl, hcap, _, hrow⟩
      · omega
      · have HROW := hide hrow
        obtain ⟨bs, hbs⟩ : ∃ bs, bs = l.map fun x => x.eval is was := ⟨_, rfl⟩
        have HF : Hid ((⟨6, nm, l⟩ : Ex).eval is was = bs.all id) := by show _ = _; rw [hbs]; simp [Ex.eval]
        have HBS := hide hbs
        obtain ⟨n, hn'⟩ : ∃ n, n = l.length := ⟨_, rfl⟩
        have HN := hide hn'
        have HBN : Hid (bs.length = n) := by show _ = _; rw [hbs, hn']; simp
        rw [← hn'] at hcap h2 hsv hln
        clear hn' hrow hwf hbs
        go_enter Tryz.func48, Tryz.ntmps48
        go_wp2_with fail
        go_loopw [78, 7] (fun i acc wr => ∃ k : Nat, k ≤ n ∧ i = .int .i64 (k : Int) ∧ acc = .int .i64 (cnt bs k : Int) ∧ Hid (Below w.heap.size w wr)) (fun i _ _ => n - (intOf i).toNat)
        case atStart => exact ⟨0, Nat.zero_le _, rfl, rfl, Below.refl _ _⟩
        case round =>
          obtain ⟨j, hj, rfl, rfl, HBR⟩ := hrel
          have hkR := (HBR.out.cell (World.block_lt_of_cell? _ _ hk)).trans hk
          have hsvR := (HBR.out.cell (World.block_lt_of_cell? _ _ hsv)).trans hsv
          by_cases hlt : j < n
          · have hjl : j < l.length := by rw [← HN.out]; exact hlt
            have hjb : j < bs.length := by rw [HBN.out]; exact hlt
            obtain ⟨gy, hcell0, hxu0⟩ := HROW.out j (IsRx (fun _ => True) w l[j]) (by rw [List.getElem?_map, List.getElem?_eq_getElem hjl]; rfl)
            have hcell := (HBR.out.cell (World.block_lt_of_cell? _ _ hcell0)).trans hcell0
            have hxu : IsRx (fun _ => True) wr l[j] gy := IsRx.later hxu0 HBR.out
            clear hcell0 hxu0
            have HC := hide (HIH.out l[j] (List.getElem_mem hjl) gy _ _ is was wr (HSUB.out ⟨by decide, by decide, by decide⟩ l[j] (List.getElem_mem hjl)) hxu (HI.out.below HBR.out) (HW.out.below HBR.out))
            have hev : bs[j] = l[j].eval is was := by simp [HBS.out]
            have HS := hide (cnt_succ bs j hjb)
            have hcl := cnt_le bs j
            rw [← hev] at HC
            clear hxu hev
            generalize bs[j] = bj at *
            generalize hA : cnt bs j = A at *
            generalize hA2 : cnt bs (j + 1) = A2 at *
            have HA2 := hide hA2
            clear hA hA2 hjl hjb
            cases bj with
            | true =>
              go_wp2_with fail
              refine HC.out.mono ?_
              rintro e w2 ⟨rfl, hb2⟩
              have HB2 := hide (HBR.out.trans (hb2.mono HBR.out.size))
              clear hb2
              go_wp2_with fail
              go_roundw
              case rel => exact ⟨j + 1, by omega, by go_num, by rw [HA2.out, HS.out]; simp, HB2.out⟩
              case measure => simp [intOf]; omega
            | false =>
              go_wp2_with fail
              refine HC.out.mono ?_
              rintro e w2 ⟨rfl, hb2⟩
              have HB2 := hide (HBR.out.trans (hb2.mono HBR.out.size))
              clear hb2
              go_wp2_with fail
              go_roundw
              case rel => exact ⟨j + 1, by omega, by go_num, by rw [HA2.out, HS.out]; simp, HB2.out⟩
              case measure => simp [intOf]; omega
          · have hjn : j = n := by omega
            subst hjn
            have hcl := cnt_le bs j
            have HC1 : Hid (((cnt bs j : Int) == (j : Int)) = bs.all id) := by show _ = _; have := cnt_all bs; rw [HBN.out] at this; exact this
            generalize cnt bs j = A at *
            go_wp2_with fail
            go_ret
            exact ⟨ret_bool (by rw [HF.out]; exact HC1.out), HBR.out⟩
    | 7, hwf, HKD, HSUB, HDN =>
      have hk := HKD.out
      simp only [kindS] at hk
      have h2 : 2 ≤ l.length := by rcases hwf with h | h | h | h <;> omega
      rcases hof with ⟨h0, _⟩ | ⟨_, b, cap, rfl, hcap, _, hrow⟩
      · omega
      · have HROW := hide hrow
        obtain ⟨bs, hbs⟩ : ∃ bs, bs = l.map fun x => x.eval is was := ⟨_, rfl⟩
        have HF : Hid ((⟨7, nm, l⟩ : Ex).eval is was = bs.any id) := by show _ = _; rw [hbs]; simp [Ex.eval]
        have HBS := hide hbs
        obtain ⟨n, hn'⟩ : ∃ n, n = l.length := ⟨_, rfl⟩
        have HN := hide hn'
        have HBN : Hid (bs.length = n) := by show _ = _; rw [hbs, hn']; simp
        rw [← hn'] at hcap h2 hsv hln
        clear hn' hrow hwf hbs
        go_enter Tryz.func48, Tryz.ntmps48
        go_wp2_with fail
        go_loopw [78, 7] (fun i acc wr => ∃ k : Nat, k ≤ n ∧ i = .int .i64 (k : Int) ∧ acc = .int .i64 (cnt bs k : Int) ∧ Hid (Below w.heap.size w wr)) (fun i _ _ => n - (intOf i).toNat)
        case atStart => exact ⟨0, Nat.zero_le _, rfl, rfl, Below.refl _ _⟩
        case round =>
          obtain ⟨j, hj, rfl, rfl, HBR⟩ := hrel
          have hkR := (HBR.out.cell (World.block_lt_of_cell? _ _ hk)).trans hk
          have hsvR := (HBR.out.cell (World.block_lt_of_cell? _ _ hsv)).trans hsv
          by_cases hlt : j < n
          · have hjl : j < l.length := by rw [← HN.out]; exact hlt
            have hjb : j < bs.length := by rw [HBN.out]; exact hlt
            obtain ⟨gy, hcell0, hxu0⟩ := HROW.out j (IsRx (fun _ => True) w l[j]) (by rw [List.getElem?_map, List.getElem?_eq_getElem hjl]; rfl)
            have hcell := (HBR.out.cell (World.block_lt_of_cell? _ _ hcell0)).trans hcell0
            have hxu : IsRx (fun _ => True) wr l[j] gy := IsRx.later hxu0 HBR.out
            clear hcell0 hxu0
            have HC := hide (HIH.out l[j] (List.getElem_mem hjl) gy _ _ is was wr (HSUB.out ⟨by decide, by decide, by decide⟩ l[j] (List.getElem_mem hjl)) hxu (HI.out.below HBR.out) (HW.out.below HBR.out))
            have hev : bs[j] = l[j].eval is was := by simp [HBS.out]
            have HS := hide (cnt_succ bs j hjb)
            have hcl := cnt_le bs j
            rw [← hev] at HC
            clear hxu hev
            generalize bs[j] = bj at *
            generalize hA : cnt bs j = A at *
            generalize hA2 : cnt bs (j + 1) = A2 at *
            have HA2 := hide hA2
            clear hA hA2 hjl hjb
            cases bj with
            | true =>
              go_wp2_with fail
              refine HC.out.mono ?_
              rintro e w2 ⟨rfl, hb2⟩
              have HB2 := hide (HBR.out.trans (hb2.mono HBR.out.size))
              clear hb2
              go_wp2_with fail
              go_roundw
              case rel => exact ⟨j + 1, by omega, by go_num, by rw [HA2.out, HS.out]; simp, HB2.out⟩
              case measure => simp [intOf]; omega
            | false =>
              go_wp2_with fail
              refine HC.out.mono ?_
              rintro e w2 ⟨rfl, hb2⟩
              have HB2 := hide (HBR.out.trans (hb2.mono HBR.out.size))
              clear hb2
              go_wp2_with fail
              go_roundw
              case rel => exact ⟨j + 1, by omega, by go_num, by rw [HA2.out, HS.out]; simp, HB2.out⟩
              case measure => simp [intOf]; omega
          · have hjn : j = n := by omega
            subst hjn
            have hcl := cnt_le bs j
            have HC1 : Hid (decide ((0 : Int) < (cnt bs j : Int)) = bs.any id) := by show _ = _; have := cnt_any bs; rw [HBN.out] at this; exact this
            generalize cnt bs j = A at *
            cases hba : bs.any id with
            | true =>
              have h0 : (0 : Int) < (A : Int) := by have := HC1.out; rw [hba] at this; exact of_decide_eq_true this
              go_wp2_with fail
              go_ret
              exact ⟨ret_bool (by rw [HF.out, hba]), HBR.out⟩
            | false =>
              have h0 : ¬ (0 : Int) < (A : Int) := by have := HC1.out; rw [hba] at this; exact of_decide_eq_false this
              have h1 : ((0 : Int) == (j : Int)) = false := beq_eq_false_iff_ne.2 (by omega)
              go_wp2_with fail
              go_ret
              exact ⟨ret_bool (by rw [HF.out, hba]), HBR.out⟩
    | n + 8, hwf, _, _, _ => rcases hwf with h | h | h | h <;> omega
end R2
end
section
open Go.RowKit
namespace R3
open R2 (cnt cnt_succ cnt_le cnt_all cnt_any)
/-- a closure that tells of some names whether they are so -/
def Tells (D : List UInt8 → Prop) (f : Value) (p : List UInt8 → Bool) (w : World) : Prop :=
  ∃ K c, f = .func (.func K) #[] #[c] ∧ Entered K ∧ ∀ (W : World), Below w.heap.size w W → ∀ nm : List UInt8, D nm → Calls Tryz.prog K #[.string ⟨nm.toArray⟩, c] W fun e W' => e = .returned (.bool (p nm)) ∧ Below W.heap.size W W'
theorem Tells.below {D : List UInt8 → Prop} {f : Value} {p : List UInt8 → Bool} {w w' : World} (h : Tells D f p w) (hb : Below w.heap.size w w') : Tells D f p w' := by
  obtain ⟨K, c, h1, h2, h3⟩ := h
  exact ⟨K, c, h1, h2, fun W hW => h3 W (hb.trans (hW.mono hb.size))⟩
/-- Eval, at this expression -/
def EvalRK (D : List UInt8 → Prop) (x : Ex) : Prop := ∀ (g : Nat) (fi fw : Value) (is was : List UInt8 → Bool) (w : World), (∀ n, n ∈ x.named true → D n) → IsRx (fun _ => True) w x g → Tells D fi is w → Tells D fw was w →
  Calls Tryz.prog 48 #[.pointer (some ⟨g, 0, none⟩), fi, fw] w fun e w' => e = .returned (.bool (x.eval is was)) ∧ Below w.heap.size w w'
set_option maxHeartbeats 4000000 in
set_option maxRecDepth 100000 in
theorem reval_any (D : List UInt8 → Prop) (x : Ex) : EvalRK D x := by
  induction x using Ex.ind with
  | h k nm l ih =>
    intro g fi fw is was w hD h hi hw
    have HIH := hide ih
    have HI := hide hi
    have HW := hide hw
    obtain ⟨Ki, ci, hfi, hei, hti⟩ := hi
    obtain ⟨Kw, cw, hfw, hew, htw⟩ := hw
    have HTI := hide hti
    have HTW := hide htw
    have HSUB : Hid ((k ≠ 2 ∧ k ≠ 3 ∧ k ≠ 4) → ∀ y, y ∈ l → ∀ n, n ∈ y.named true → D n) := fun hk y hy n hn => hD n (by
      rw [Ex.named_of _ _ _ _ hk, List.mem_flatten]
      exact ⟨_, List.mem_map_of_mem hy, hn⟩)
    have HDN : Hid ((k = 2 ∨ k = 3 ∨ k = 4) → D nm) := fun hk => hD nm (by
      rcases hk with rfl | rfl | rfl
      · rw [Ex.named2]; simp
      · rw [Ex.named3]; simp
      · rw [Ex.named4]; simp)
    have hei' : ∀ (args : Array Value) (w : World), (callFunc Ki args).run Tryz.prog w = .ok (.enter Ki args) w := hei
    have hew' : ∀ (args : Array Value) (w : World), (callFunc Kw args).run Tryz.prog w = .ok (.enter Kw args) w := hew
    subst hfi
    subst hfw
    clear hti htw hei hew ih hD
    rw [IsRx.def] at h
    obtain ⟨_, hwf, hln, hk, hn, sv, hsv, hof⟩ := h
    have HKD := hide hk
    clear hk
    match k, hwf, HKD, HSUB, HDN with
    | 0, _, HKD, HSUB, HDN =>
      have HBX : Hid (Below w.heap.size w w) := Below.refl _ _
      have HF : Hid ((⟨0, nm, l⟩ : Ex).eval is was = false) := by show _ = _; simp [Ex.eval]
      have hk := HKD.out
      simp only [kindS] at hk
      clear hof
      go_enter Tryz.func48, Tryz.ntmps48
      go_wp2_with fail
      go_ret
      exact ⟨ret_bool HF.out.symm, HBX.out⟩
    | 1, _, HKD, HSUB, HDN =>
      have HBX : Hid (Below w.heap.size w w) := Below.refl _ _
      have HF : Hid ((⟨1, nm, l⟩ : Ex).eval is was = true) := by show _ = _; simp [Ex.eval]
      have hk := HKD.out
      simp only [kindS] at hk
      clear hof
      go_enter Tryz.func48, Tryz.ntmps48
      go_wp2_with fail
      go_ret
      exact ⟨ret_bool HF.out.symm, HBX.out⟩
    | 2, _, HKD, HSUB, HDN =>
      have HF : Hid ((⟨2, nm, l⟩ : Ex).eval is was = is nm) := by show _ = _; simp [Ex.eval]
      have HC := hide (fun W hW => HTI.out W hW nm (HDN.out (by simp)))
      have hk := HKD.out
      simp only [kindS] at hk
      clear hof
      go_enter Tryz.func48, Tryz.ntmps48
      go_wp2_with fail
      refine (HC.out w (Below.refl _ _)).mono ?_
      rintro e w1 ⟨rfl, hb1⟩
      have HBX := hide hb1
      clear hb1
      go_wp2_with fail
      go_ret
      exact ⟨ret_bool HF.out.symm, HBX.out⟩
    | 3, _, HKD, HSUB, HDN =>
      have HF : Hid ((⟨3, nm, l⟩ : Ex).eval is was = (is nm && !was nm)) := by show _ = _; simp [Ex.eval]
      have HC := hide (fun W hW => HTI.out W hW nm (HDN.out (by simp)))
      have HD := hide (fun W hW => HTW.out W hW nm (HDN.out (by simp)))
      generalize is nm = bi at *
      generalize was nm = bw at *
      have hk := HKD.out
      simp only [kindS] at hk
      clear hof
      cases bi with
      | false =>
        go_enter Tryz.func48, Tryz.ntmps48
        go_wp2_with fail
        refine (HC.out w (Below.refl _ _)).mono ?_
        rintro e w1 ⟨rfl, hb1⟩
        have HBX := hide hb1
        clear hb1
        go_wp2_with fail
        go_ret
        exact ⟨ret_bool HF.out.symm, HBX.out⟩
      | true =>
        go_enter Tryz.func48, Tryz.ntmps48
        go_wp2_with fail
        refine (HC.out w (Below.refl _ _)).mono ?_
        rintro e w1 ⟨rfl, hb1⟩
        have HB1 := hide hb1
        have hkA := (hb1.cell (World.block_lt_of_cell? _ _ hk)).trans hk
        have hnA := (hb1.cell (World.block_lt_of_cell? _ _ hn)).trans hn
        clear hb1
        go_wp2_with fail
        refine (HD.out w1 HB1.out).mono ?_
        rintro e w2 ⟨rfl, hb2⟩
        have HBX := hide (HB1.out.trans (hb2.mono HB1.out.size))
        clear hb2
        go_wp2_with fail
        go_ret
        exact ⟨ret_bool (by rw [HF.out]; rfl), HBX.out⟩
    | 4, _, HKD, HSUB, HDN =>
      have HF : Hid ((⟨4, nm, l⟩ : Ex).eval is was = (!is nm && was nm)) := by show _ = _; simp [Ex.eval]
      have HC := hide (fun W hW => HTI.out W hW nm (HDN.out (by simp)))
      have HD := hide (fun W hW => HTW.out W hW nm (HDN.out (by simp)))
      generalize is nm = bi at *
      generalize was nm = bw at *
      have hk := HKD.out
      simp only [kindS] at hk
      clear hof
      cases bw with
      | false =>
        go_enter Tryz.func48, Tryz.ntmps48
        go_wp2_with fail
        refine (HD.out w (Below.refl _ _)).mono ?_
        rintro e w1 ⟨rfl, hb1⟩
        have HBX := hide hb1
        clear hb1
        go_wp2_with fail
        go_ret
        exact ⟨ret_bool (by rw [HF.out]; cases bi <;> rfl), HBX.out⟩
      | true =>
        go_enter Tryz.func48, Tryz.ntmps48
        go_wp2_with fail
        refine (HD.out w (Below.refl _ _)).mono ?_
        rintro e w1 ⟨rfl, hb1⟩
        have HB1 := hide hb1
        have hkA := (hb1.cell (World.block_lt_of_cell? _ _ hk)).trans hk
        have hnA := (hb1.cell (World.block_lt_of_cell? _ _ hn)).trans hn
        clear hb1
        go_wp2_with fail
        refine (HC.out w1 HB1.out).mono ?_
        rintro e w2 ⟨rfl, hb2⟩
        have HBX := hide (HB1.out.trans (hb2.mono HB1.out.size))
        clear hb2
        go_wp2_with fail
        go_ret
        exact ⟨ret_bool (by rw [HF.out]; cases bi <;> rfl), HBX.out⟩
    | 5, hwf, HKD, HSUB, HDN =>
      have hl1 : l.length = 1 := by
        rcases hwf with h | h | h | h <;> omega
      have hk := HKD.out
      simp only [kindS] at hk
      match l, hl1, hof, HIH with
      | [y], _, hof, HIH =>
        rcases hof with ⟨h0, _⟩ | ⟨_, b, cap, rfl, hcap, _, hrow⟩
        · simp at h0
        · obtain ⟨gy, hcell, hy⟩ := hrow 0 _ rfl
          have HF : Hid ((⟨5, nm, [y]⟩ : Ex).eval is was = !(y.eval is was)) := by show _ = _; simp [Ex.eval]
          have HC := hide (HIH.out y (by simp) gy _ _ is was w (HSUB.out ⟨by decide, by decide, by decide⟩ y (by simp)) hy HI.out HW.out)
          clear hrow hy
          simp only [List.length_singleton] at hsv hcap
          generalize y.eval is was = bv at *
          go_enter Tryz.func48, Tryz.ntmps48
          go_wp2_with fail
          refine HC.out.mono ?_
          rintro e w1 ⟨rfl, hb1⟩
          have HBX := hide hb1
          clear hb1
          go_wp2_with fail
          go_ret
          exact ⟨ret_bool HF.out.symm, HBX.out⟩
    | 6, hwf, HKD, HSUB, HDN =>
      have hk := HKD.out
      simp only [kindS] at hk
      have h2 : 2 ≤ l.length := by rcases hwf with h | h | h | h <;> omega
      rcases hof with ⟨h0, _⟩ | ⟨_, b, cap, rfl, hcap, _, hrow⟩
      · omega
      · have HROW := hide hrow
        obtain ⟨bs, hbs⟩ : ∃ bs, bs = l.map fun x => x.eval is was := ⟨_, rfl⟩
        have HF : Hid ((⟨6, nm, l⟩ : Ex).eval is was = bs.all id) := by show _ = _; rw [hbs]; simp [Ex.eval]
        have HBS := hide hbs
        obtain ⟨n, hn'⟩ : ∃ n, n = l.length := ⟨_, rfl⟩
        have HN := hide hn'
        have HBN : Hid (bs.length = n) := by show _ = _; rw [hbs, hn']; simp
        rw [← hn'] at hcap h2 hsv hln
        clear hn' hrow hwf hbs
        go_enter Tryz.func48, Tryz.ntmps48
        go_wp2_with fail
        go_loopw [78, 7] (fun i acc wr => ∃ k : Nat, k ≤ n ∧ i = .int .i64 (k : Int) ∧ acc = .int .i64 (cnt bs k : Int) ∧ Hid (Below w.heap.size w wr)) (fun i _ _ => n - (intOf i).toNat)
        case atStart => exact ⟨0, Nat.zero_le _, rfl, rfl, Below.refl _ _⟩
        case round =>
          obtain ⟨j, hj, rfl, rfl, HBR⟩ := hrel
          have hkR := (HBR.out.cell (World.block_lt_of_cell? _ _ hk)).trans hk
          have hsvR := (HBR.out.cell (World.block_lt_of_cell? _ _ hsv)).trans hsv
          by_cases hlt : j < n
          · have hjl : j < l.length := by rw [← HN.out]; exact hlt
            have hjb : j < bs.length := by rw [HBN.out]; exact hlt
            obtain ⟨gy, hcell0, hxu0⟩ := HROW.out j (IsRx (fun _ => True) w l[j]) (by rw [List.getElem?_map, List.getElem?_eq_getElem hjl]; rfl)
            have hcell := (HBR.out.cell (World.block_lt_of_cell? _ _ hcell0)).trans hcell0
            have hxu : IsRx (fun _ => True) wr l[j] gy := IsRx.later hxu0 HBR.out
            clear hcell0 hxu0
            have HC := hide (HIH.out l[j] (List.getElem_mem hjl) gy _ _ is was wr (HSUB.out ⟨by decide, by decide, by decide⟩ l[j] (List.getElem_mem hjl)) hxu (HI.out.below HBR.out) (HW.out.below HBR.out))
            have hev : bs[j] = l[j].eval is was := by simp [HBS.out]
            have HS := hide (cnt_succ bs j hjb)
            have hcl := cnt_le bs j
            rw [← hev] at HC
            clear hxu hev
            generalize bs[j] = bj at *
            generalize hA : cnt bs j = A at *
            generalize hA2 : cnt bs (j + 1) = A2 at *
            have HA2 := hide hA2
            clear hA hA2 hjl hjb
            cases bj with
            | true =>
              go_wp2_with fail
              refine HC.out.mono ?_
              rintro e w2 ⟨rfl, hb2⟩
              have HB2 := hide (HBR.out.trans (hb2.mono HBR.out.size))
              clear hb2
              go_wp2_with fail
              go_roundw
              case rel => exact ⟨j + 1, by omega, by go_num, by rw [HA2.out, HS.out]; simp, HB2.out⟩
              case measure => simp [intOf]; omega
            | false =>
              go_wp2_with fail
              refine HC.out.mono ?_
              rintro e w2 ⟨rfl, hb2⟩
              have HB2 := hide (HBR.out.trans (hb2.mono HBR.out.size))
              clear hb2
              go_wp2_with fail
              go_roundw
              case rel => exact ⟨j + 1, by omega, by go_num, by rw [HA2.out, HS.out]; simp, HB2.out⟩
              case measure => simp [intOf]; omega
          · have hjn : j = n := by omega
            subst hjn
            have hcl := cnt_le bs j
            have HC1 : Hid (((cnt bs j : Int) == (j : Int)) = bs.all id) := by show _ = _; have := cnt_all bs; rw [HBN.out] at this; exact this
            generalize cnt bs j = A at *
            go_wp2_with fail
            go_ret
            exact ⟨ret_bool (by rw [HF.out]; exact HC1.out), HBR.out⟩
    | 7, hwf, HKD, HSUB, HDN =>
      have hk := HKD.out
      simp only [kindS] at hk
      have h2 : 2 ≤ l.length := by rcases hwf with h | h | h | h <;> omega
      rcases hof with ⟨h0, _⟩ | ⟨_, b, cap, rfl, hcap, _, hrow⟩
      · omega
      · have HROW := hide hrow
        obtain ⟨bs, hbs⟩ : ∃ bs, bs = l.map fun x => x.eval is was := ⟨_, rfl⟩
        have HF : Hid ((⟨7, nm, l⟩ : Ex).eval is was = bs.any id) := by show _ = _; rw [hbs]; simp [Ex.eval]
        have HBS := hide hbs
        obtain ⟨n, hn'⟩ : ∃ n, n = l.length := ⟨_, rfl⟩
        have HN := hide hn'
        have HBN : Hid (bs.length = n) := by show _ = _; rw [hbs, hn']; simp
        rw [← hn'] at hcap h2 hsv hln
        clear hn' hrow hwf hbs
        go_enter Tryz.func48, Tryz.ntmps48
        go_wp2_with fail
        go_loopw [78, 7] (fun i acc wr => ∃ k : Nat, k ≤ n ∧ i = .int .i64 (k : Int) ∧ acc = .int .i64 (cnt bs k : Int) ∧ Hid (Below w.heap.size w wr)) (fun i _ _ => n - (intOf i).toNat)
        case atStart => exact ⟨0, Nat.zero_le _, rfl, rfl, Below.refl _ _⟩
        case round =>
          obtain ⟨j, hj, rfl, rfl, HBR⟩ := hrel
          have hkR := (HBR.out.cell (World.block_lt_of_cell? _ _ hk)).trans hk
          have hsvR := (HBR.out.cell (World.block_lt_of_cell? _ _ hsv)).trans hsv
          by_cases hlt : j < n
          · have hjl : j < l.length := by rw [← HN.out]; exact hlt
            have hjb : j < bs.length := by rw [HBN.out]; exact hlt
            obtain ⟨gy, hcell0, hxu0⟩ := HROW.out j (IsRx (fun _ => True) w l[j]) (by rw [List.getElem?_map, List.getElem?_eq_getElem hjl]; rfl)
            have hcell := (HBR.out.cell (World.block_lt_of_cell? _ _ hcell0)).trans hcell0
            have hxu : IsRx (fun _ => True) wr l[j] gy := IsRx.later hxu0 HBR.out
            clear hcell0 hxu0
            have HC := hide (HIH.out l[j] (List.getElem_mem hjl) gy _ _ is was wr (HSUB.out ⟨by decide, by decide, by decide⟩ l[j] (List.getElem_mem hjl)) hxu (HI.out.below HBR.out) (HW.out.below HBR.out))
            have hev : bs[j] = l[j].eval is was := by simp [HBS.out]
            have HS := hide (cnt_succ bs j hjb)
            have hcl := cnt_le bs j
            rw [← hev] at HC
            clear hxu hev
            generalize bs[j] = bj at *
            generalize hA : cnt bs j = A at *
            generalize hA2 : cnt bs (j + 1) = A2 at *
            have HA2 := hide hA2
            clear hA hA2 hjl hjb
            cases bj with
            | true =>
              go_wp2_with fail
              refine HC.out.mono ?_
              rintro e w2 ⟨rfl, hb2⟩
              have HB2 := hide (HBR.out.trans (hb2.mono HBR.out.size))
              clear hb2
              go_wp2_with fail
              go_roundw
              case rel => exact ⟨j + 1, by omega, by go_num, by rw [HA2.out, HS.out]; simp, HB2.out⟩
              case measure => simp [intOf]; omega
            | false =>
              go_wp2_with fail
              refine HC.out.mono ?_
              rintro e w2 ⟨rfl, hb2⟩
              have HB2 := hide (HBR.out.trans (hb2.mono HBR.out.size))
              clear hb2
              go_wp2_with fail
              go_roundw
              case rel => exact ⟨j + 1, by omega, by go_num, by rw [HA2.out, HS.out]; simp, HB2.out⟩
              case measure => simp [intOf]; omega
          · have hjn : j = n := by omega
            subst hjn
            have hcl := cnt_le bs j
            have HC1 : Hid (decide ((0 : Int) < (cnt bs j : Int)) = bs.any id) := by show _ = _; have := cnt_any bs; rw [HBN.out] at this; exact this
            generalize cnt bs j = A at *
            cases hba : bs.any id with
            | true =>
              have h0 : (0 : Int) < (A : Int) := by have := HC1.out; rw [hba] at this; exact of_decide_eq_true this
              go_wp2_with fail
              go_ret
              exact ⟨ret_bool (by rw [HF.out, hba]), HBR.out⟩
            | false =>
              have h0 : ¬ (0 : Int) < (A : Int) := by have := HC1.out; rw [hba] at this; exact of_decide_eq_false this
              have h1 : ((0 : Int) == (j : Int)) = false := beq_eq_false_iff_ne.2 (by omega)
              go_wp2_with fail
              go_ret
              exact ⟨ret_bool (by rw [HF.out, hba]), HBR.out⟩
    | n + 8, hwf, _, _, _ => rcases hwf with h | h | h | h <;> omega
end R3
end
end Go.Proofs.YtgldbliohpfljaaGreatDoor
