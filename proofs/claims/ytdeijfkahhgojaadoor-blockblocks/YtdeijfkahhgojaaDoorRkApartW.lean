/-
  The walk of the document's own apart (9.2): pairs are marked, round by round.
-/
import Derived.Test.YtdeijfkahhgojaaDoorRkRound
import Derived.Test.YtdeijfkahhgojaaDoorRkCheck
import Derived.Test.YtdeijfkahhgojaaDoorBkClone
namespace Go.Proofs.YtdeijfkahhgojaaDoor
namespace Bk
open Go.RowKit
/-- row i of the marks, as a value -/
def mrow (g n i : Nat) : Value := .slice (some ⟨g + 1 + i, 0, none⟩) n n
/-- the first m rows are made -/
structure MxP (W : World) (g n m : Nat) : Prop where
  top : RowIs W g 31 ((List.range n).map fun i => if i < m then mrow g n i else .slice none 0 0)
  row : ∀ i, i < m → RowIs W (g + 1 + i) 3 ((List.range n).map fun _ => .int .i64 0)
  size : W.heap.size = g + 1 + m
/-- the marks in memory: a block of rows, each row the block of its number behind it -/
structure Mx (W : World) (g n : Nat) (F : Nat → Nat → Nat) : Prop where
  top : RowIs W g 31 ((List.range n).map (mrow g n))
  row : ∀ i, i < n → RowIs W (g + 1 + i) 3 ((List.range n).map fun j => .int .i64 (F i j : Int))
theorem range_map_get {α : Type} (f : Nat → α) (n i : Nat) (h : i < n) : ((List.range n).map f)[i]? = some (f i) := by
  rw [List.getElem?_map, List.getElem?_range h]; rfl
theorem Mx.below {W W' : World} {g n : Nat} {F : Nat → Nat → Nat} (h : Mx W g n F) (hb : Below W.heap.size W W') : Mx W' g n F := ⟨h.top.below hb, fun i hi => (h.row i hi).below hb⟩
theorem Mx.congr {W : World} {g n : Nat} {F G : Nat → Nat → Nat} (h : Mx W g n F) (he : ∀ i j, i < n → j < n → F i j = G i j) : Mx W g n G := by
  refine ⟨h.top, fun i hi => ?_⟩
  have e : ((List.range n).map fun j => Value.int .i64 (G i j : Int)) = ((List.range n).map fun j => Value.int .i64 (F i j : Int)) := List.map_congr_left fun j hj => by rw [he i j hi (List.mem_range.1 hj)]
  rw [e]
  exact h.row i hi
theorem Mx.cells {W : World} {g n : Nat} {F : Nat → Nat → Nat} (h : Mx W g n F) (i j : Nat) (hi : i < n) (hj : j < n) : W.cell? ⟨g, i, none⟩ = some (.slice (some ⟨g + 1 + i, 0, none⟩) n n) ∧ W.cell? ⟨g + 1 + i, j, none⟩ = some (.int .i64 (F i j : Int)) ∧ W.frozen? ⟨g + 1 + i, j, none⟩ = false :=
  ⟨h.top.cell i _ (range_map_get _ n i hi), (h.row i hi).cell j _ (range_map_get _ n j hj), (h.row i hi).frozen j⟩
theorem map_range_set {α : Type} (f : Nat → α) (n i : Nat) (v : α) : ((List.range n).map f).set i v = (List.range n).map fun j => if j = i then v else f j := by
  apply List.ext_getElem?
  intro k
  by_cases hk : k < n
  · rw [range_map_get _ n k hk]
    by_cases e : i = k
    · subst e; rw [List.getElem?_set_self (by simpa using hk), if_pos rfl]
    · rw [List.getElem?_set_ne e, range_map_get _ n k hk, if_neg (fun h => e h.symm)]
  · rw [List.getElem?_eq_none (by simp; omega), List.getElem?_eq_none (by simp; omega)]
theorem Mx.set {W : World} {g n : Nat} {F : Nat → Nat → Nat} (h : Mx W g n F) (a b v : Nat) : Mx (W.setCell ⟨g + 1 + a, b, none⟩ (.int .i64 (v : Int))) g n (fun i j => if i = a ∧ j = b then v else F i j) := by
  refine ⟨h.top.other _ _ _ (by omega), fun i hi => ?_⟩
  by_cases e : i = a
  · subst e
    have h2 := (h.row i hi).set b (.int .i64 (v : Int))
    rw [map_range_set] at h2
    have e2 : ((List.range n).map fun j => if j = b then Value.int .i64 (v : Int) else .int .i64 (F i j : Int)) = ((List.range n).map fun j => .int .i64 (((if i = i ∧ j = b then v else F i j : Nat)) : Int)) := List.map_congr_left fun j _ => by
      by_cases e3 : j = b
      · rw [if_pos e3, if_pos ⟨rfl, e3⟩]
      · rw [if_neg e3, if_neg (fun h => e3 h.2)]
    rw [e2] at h2
    exact h2
  · have h2 := (h.row i hi).other (g + 1 + a) b (.int .i64 (v : Int)) (by omega)
    have e2 : ((List.range n).map fun j => Value.int .i64 (((if i = a ∧ j = b then v else F i j : Nat)) : Int)) = ((List.range n).map fun j => .int .i64 (F i j : Int)) := List.map_congr_left fun j _ => by rw [if_neg (fun h => e h.1)]
    rw [e2]
    exact h2
theorem MxP.start (W : World) (n : Nat) : MxP (W.alloc (.cells ⟨List.replicate n (.slice none 0 0)⟩ 31)) W.heap.size n 0 := by
  refine ⟨?_, fun i hi => by omega, by simp⟩
  have h := RowIs.new W 31 (List.replicate n (.slice none 0 0))
  have e : ((List.range n).map fun i => if i < 0 then mrow W.heap.size n i else .slice none 0 0) = List.replicate n (.slice none 0 0) := by
    apply List.ext_getElem
    · simp
    · intro i h1 h2; simp
  rw [e]; exact h
theorem MxP.next {W : World} {g n m : Nat} (h : MxP W g n m) (hm : m < n) : MxP ((W.alloc (.cells ⟨List.replicate n (.int .i64 0)⟩ 3)).setCell ⟨g, m, none⟩ (.slice (some ⟨W.heap.size, 0, none⟩) n n)) g n (m + 1) := by
  have hz := h.size
  have h1 := (h.top.alloc (.cells ⟨List.replicate n (.int .i64 0)⟩ 3)).set m (.slice (some ⟨W.heap.size, 0, none⟩) n n)
  rw [map_range_set] at h1
  refine ⟨?_, fun i hi => ?_, by simp [hz]; omega⟩
  · have e : ((List.range n).map fun j => if j = m then Value.slice (some ⟨W.heap.size, 0, none⟩) n n else if j < m then mrow g n j else .slice none 0 0) = ((List.range n).map fun j => if j < m + 1 then mrow g n j else .slice none 0 0) := List.map_congr_left fun j _ => by
      by_cases e : j = m
      · subst e; rw [if_pos rfl, if_pos (by omega), mrow, hz]
      · rw [if_neg e]
        by_cases e2 : j < m
        · rw [if_pos e2, if_pos (by omega)]
        · rw [if_neg e2, if_neg (by omega)]
    rw [← e]; exact h1
  · refine RowIs.other ?_ _ _ _ (by omega)
    by_cases e : i = m
    · subst e
      have h2 := RowIs.new W 3 (List.replicate n (.int .i64 0))
      rw [hz] at h2
      have e : ((List.range n).map fun _ => Value.int .i64 0) = List.replicate n (.int .i64 0) := by
        apply List.ext_getElem
        · simp
        · intro i h1 h2; simp
      rw [e]; exact h2
    · exact (h.row i (by omega)).alloc _
theorem MxP.done {W : World} {g n : Nat} (h : MxP W g n n) (t : Tb) : Mx W g n (lv t 0) := by
  refine ⟨?_, fun i hi => h.row i hi⟩
  have e : ((List.range n).map fun i => if i < n then mrow g n i else .slice none 0 0) = (List.range n).map (mrow g n) := List.map_congr_left fun j hj => by rw [if_pos (List.mem_range.1 hj)]
  rw [← e]; exact h.top
/-- so many cells of the same -/
def cellsOf (n : Nat) (z : Value) : Array Value := ⟨List.replicate n z⟩
theorem makeIss (n : Nat) (hn : n ≤ 1000000) (w : World) : (Instr.makeSlice 22 (.int .i64 (n : Int)) (.int .i64 (n : Int))).run Tryd.prog w = .ok (.slice (some ⟨w.heap.size, 0, none⟩) n n) (w.alloc (.cells (cellsOf n (.slice none 0 0)) 31)) :=
  make_one Tryd.underlying22 Tryd.infoInts rfl (by decide) n hn w
theorem makeIs' (n : Nat) (hn : n ≤ 1000000) (w : World) : (Instr.makeSlice 31 (.int .i64 (n : Int)) (.int .i64 (n : Int))).run Tryd.prog w = .ok (.slice (some ⟨w.heap.size, 0, none⟩) n n) (w.alloc (.cells (cellsOf n (.int .i64 0)) 3)) := makeIs n hn w
/-- what apart comes to -/
def ApartDone (w : World) (N T : List (List Int)) (e : Ending) (w' : World) : Prop := Below w.heap.size w w' ∧ ∃ D g, e = .returned (.slice (some ⟨g, 0, none⟩) N.length N.length) ∧ Mx w' g N.length (lv (tab N T) D) ∧ Stable (tab N T) D ∧ D ≤ 1000000
theorem wrapI (n : Int) (h0 : 0 ≤ n) (h1 : n ≤ 9223372036854775807) : IntKind.i64.wrap n = n := by simp [IntKind.wrap, IntKind.bits, IntKind.signed]; omega
/-- a table's cells at a state and an input -/
theorem Rows.at {w : World} {g o n c : Nat} {L : List (List Int)} (h : Rows w (.slice (some ⟨g, o, none⟩) n c) L) (s : Nat) (hs : s < L.length) : ∃ u d, w.cell? ⟨g, o + s, none⟩ = some (.slice u (L.getD s []).length d) ∧ Ints w (.slice u (L.getD s []).length d) (L.getD s []) := by
  obtain ⟨g1, o1, e1, u, d, c1, i1⟩ := h.cell s _ (List.getElem?_eq_getElem hs)
  simp only [Option.some.injEq, Addr.mk.injEq, and_true] at e1
  obtain ⟨rfl, rfl⟩ := e1
  rw [getD_in _ _ _ hs]
  exact ⟨u, d, c1, i1⟩
theorem Rows.base {w : World} {sv : Value} {L : List (List Int)} (h : Rows w sv L) (hl : 0 < L.length) : ∃ g o c, sv = .slice (some ⟨g, o, none⟩) L.length c := by
  obtain ⟨a, c, h1, h2, h3⟩ := h
  obtain ⟨g, o, v, e1, _⟩ := h3 0 _ (List.getElem?_eq_getElem hl)
  exact ⟨g, o, c, by rw [h1, e1]⟩
theorem Ints.at {w : World} {u : Option Addr} {n d : Nat} {l : List Int} (h : Ints w (.slice u n d) l) (k : Nat) (hk : k < l.length) : ∃ g o, u = some ⟨g, o, none⟩ ∧ w.cell? ⟨g, o + k, none⟩ = some (.int .i64 (l.getD k 0)) ∧ I64 (l.getD k 0) := by
  rw [getD_in _ _ _ hk]
  exact h.cell k _ (List.getElem?_eq_getElem hk)
set_option maxHeartbeats 16000000 in
set_option maxRecDepth 100000 in
theorem apart_any (N T : List (List Int)) (nv tv : Value) (w : World) (hG : Good N T) (hN : Rows w nv N) (hT : Rows w tv T) :
    Calls Tryd.prog 26 #[.agg #[nv, tv]] w (ApartDone w N T) := by
  obtain ⟨wA, hwA⟩ : ∃ wA, wA = w.alloc (.cells #[nv, tv] 25) := ⟨_, rfl⟩
  have hzA : wA.heap.size = w.heap.size + 1 := by rw [hwA]; simp
  have hBA : Below w.heap.size w wA := by rw [hwA]; exact (Below.refl _ _).alloc (Nat.le_refl _) _
  have hTA : Tab wA w.heap.size nv tv := by rw [hwA]; exact TabR.new _ _ _
  have HN := hide (hN.below hBA)
  have HT := hide (hT.below hBA)
  obtain ⟨gN, oN, nc, rfl⟩ := hN.base hG.pos
  obtain ⟨gT, oT, tc, rfl⟩ := hT.base (by have := hG.tells; have := hG.pos; omega)
  have HTA := hide hTA
  have HG := hide hG
  have HBA := hide hBA
  obtain ⟨n, hn⟩ : ∃ n, n = N.length := ⟨_, rfl⟩
  have HNn := hide hn
  have hn5 : n ≤ 500 := by rw [hn]; exact hG.few
  have htl : T.length = n := by rw [hn]; exact hG.tells
  rw [← hn] at HN HTA hwA ⊢
  rw [htl] at HT HTA hwA ⊢
  obtain ⟨t0, t1⟩ := HTA.out
  have hmI := fun W => makeIs' n (by omega) W
  have hmS := fun W => makeIss n (by omega) W
  clear hN hT hBA hTA hG hn htl
  go_enter Tryd.func26, Tryd.ntmps26
  go_wp2_with fail
  rw [← hwA]
  clear hwA
  obtain ⟨wM, hwM⟩ : ∃ wM, wM = wA.alloc (.cells (cellsOf n (.slice none 0 0)) 31) := ⟨_, rfl⟩
  have HM0 : Hid (MxP wM (w.heap.size + 1) n 0) := by rw [hwM, ← hzA]; exact MxP.start _ _
  have HB0 : Hid (Below wA.heap.size wA wM) := by rw [hwM]; exact (Below.refl _ _).alloc (Nat.le_refl _) _
  rw [← hwM]
  clear hwM
  go_loopw [20] (fun i wr => ∃ m : Nat, m ≤ n ∧ i = .int .i64 (m : Int) ∧ Hid (MxP wr (w.heap.size + 1) n m) ∧ Hid (Below wA.heap.size wA wr)) (fun i _ => n - (intOf i).toNat)
  case atStart => exact ⟨0, Nat.zero_le _, rfl, HM0.out, HB0.out⟩
  case round =>
    obtain ⟨m, hm, rfl, HM, HB⟩ := hrel
    by_cases hlt : m < n
    · have HMN := hide (HM.out.next hlt)
      have c0 : (wr.alloc (.cells (cellsOf n (.int .i64 0)) 3)).cell? ⟨w.heap.size + 1, m, none⟩ = some (.slice none 0 0) := cell_alloc_keep _ _ _ _ (HM.out.top.cell m _ (by rw [range_map_get _ n m hlt, if_neg (by omega)]))
      have f0 : (wr.alloc (.cells (cellsOf n (.int .i64 0)) 3)).frozen? ⟨w.heap.size + 1, m, none⟩ = false := (HM.out.top.alloc _).frozen m
      have HBN : Hid (Below wA.heap.size wA ((wr.alloc (.cells (cellsOf n (.int .i64 0)) 3)).setCell ⟨w.heap.size + 1, m, none⟩ (.slice (some ⟨wr.heap.size, 0, none⟩) n n))) := (HB.out.alloc HB.out.size _).setCell (by show wA.heap.size ≤ w.heap.size + 1; omega) _
      have hmi : (m : Int) < (n : Int) := by omega
      go_wp2_with fail
      go_roundw
      case rel => exact ⟨m + 1, by omega, by go_num, HMN.out, HBN.out⟩
      case measure => simp [intOf]; omega
    · have hmn : m = n := by omega
      subst hmn
      have HX0 := hide (HM.out.done (tab N T))
      go_wp2_with fail
      have HTN : Hid ((tab N T).n = m) := HNn.out.symm
      have HTOK := hide HG.out.ok
      obtain ⟨k, hk⟩ : ∃ k, k = (N.getD 0 []).length := ⟨_, rfl⟩
      have HTK : Hid ((tab N T).k = k) := hk.symm
      have hk64 : k ≤ 64 := by rw [hk]; exact HG.out.ins
      have HNX : Hid (∀ s, s < m → (N.getD s []).length = k ∧ ∀ i, i < k → (N.getD s [])[i]? = some (((tab N T).nx s i : Nat) : Int) ∧ (tab N T).nx s i < m) := fun s hs => by
        have hs' : s < N.length := by rw [← HNn.out]; exact hs
        refine ⟨by rw [hk]; exact (HG.out.rows s hs').1, fun i hi => ⟨HG.out.next s hs' i (by rw [← hk]; exact hi), ?_⟩⟩
        have := HTOK.out s (by rw [HTN.out]; exact hs) i (by rw [HTK.out]; exact hi)
        rw [HTN.out] at this
        exact this
      have HTL : Hid (∀ s, s < m → (T.getD s []).length = k ∧ ∀ i, i < k → (T.getD s [])[i]? = some ((tab N T).tl s i)) := fun s hs => by
        have hs' : s < N.length := by rw [← HNn.out]; exact hs
        exact ⟨by rw [hk]; exact (HG.out.rows s hs').2.1, fun i hi => HG.out.told s hs' i (by rw [← hk]; exact hi)⟩
      have HNL : Hid (N.length = m) := HNn.out.symm
      have HTLn : Hid (T.length = m) := by show _ = _; rw [HG.out.tells, HNn.out]
      have HFIN : Hid (∀ W r, Mx W (w.heap.size + 1) m (lv (tab N T) r) → Stable (tab N T) r → r ≤ 1000000 → Below wA.heap.size wA W → ApartDone w N T (.returned (.slice (some ⟨w.heap.size + 1, 0, none⟩) m m)) W) := fun W r h1 h2 h3 h4 => ⟨then_ HBA.out h4, r, w.heap.size + 1, by rw [HNL.out], by rw [HNL.out]; exact h1, h2, h3⟩
      have HB1 := hide HB.out
      have HZR := hide (zc_max (tab N T) 0)
      rw [HTN.out] at HZR
      have HMM : Hid (m * m ≤ 250000) := Nat.mul_le_mul hn5 hn5
      clear HM HB hlt hm HG HNn hk t0 t1 hmI hmS
      generalize tab N T = t at *
      go_loopw [6] (fun dv wr => ∃ r : Nat, dv = .int .i64 ((r : Int) + 1) ∧ Hid (Mx wr (w.heap.size + 1) m (lv t r)) ∧ Hid (Below wA.heap.size wA wr) ∧ Hid (r + zc t r ≤ m * m)) (fun dv _ => m * m + 2 - (intOf dv).toNat)
      case atStart => exact ⟨0, rfl, HX0.out, HB1.out, by rw [Nat.zero_add]; exact HZR.out⟩
      case round =>
        obtain ⟨r, hdv, HX, HB, HZ⟩ := hrel
        obtain ⟨D, hD⟩ : ∃ D : Int, D = (r : Int) + 1 := ⟨_, rfl⟩
        rw [← hD] at hdv
        subst hdv
        have HDD0 := hide hD
        clear hD
        have HX2 : Hid (Mx wr (w.heap.size + 1) m (cur t r 0 0)) := HX.out.congr fun i j _ _ => (cur_start t r i j).symm
        have hr5 : r ≤ 250000 := by have := HZ.out; have := HMM.out; omega
        have HB2 := hide HB.out
        clear HX HB
        go_wp2_with fail
        go_loopw [32, 7] (fun av mv wr => ∃ (a : Nat) (mb : Bool), a ≤ m ∧ av = .int .i64 (a : Int) ∧ mv = .bool mb ∧ Hid (Mx wr (w.heap.size + 1) m (cur t r a 0)) ∧ Hid (Below wA.heap.size wA wr) ∧ Hid (MoreOk t r a 0 mb)) (fun av _ _ => m - (intOf av).toNat)
        case atStart => exact ⟨0, false, Nat.zero_le _, rfl, rfl, HX2.out, HB2.out, MoreOk.start t r⟩
        case round =>
          obtain ⟨a, mb, ha, rfl, rfl, HX, HB, HMO⟩ := hrel
          by_cases hlt : a < m
          · have hai : (a : Int) < (m : Int) := by omega
            have HX3 := hide HX.out
            have HB3 := hide HB.out
            have HMO3 := hide HMO.out
            clear HX HB HMO
            go_wp2_with fail
            go_loopw [36, 7] (fun bv mv wr => ∃ (b : Nat) (mb : Bool), b ≤ m ∧ bv = .int .i64 (b : Int) ∧ mv = .bool mb ∧ Hid (Mx wr (w.heap.size + 1) m (cur t r a b)) ∧ Hid (Below wA.heap.size wA wr) ∧ Hid (MoreOk t r a b mb)) (fun bv _ _ => m - (intOf bv).toNat)
            case atStart => exact ⟨0, mb, Nat.zero_le _, rfl, rfl, HX3.out, HB3.out, HMO3.out⟩
            case round =>
              obtain ⟨b, mb2, hb, rfl, rfl, HX, HB, HMO⟩ := hrel
              obtain ⟨wo, hwo⟩ : ∃ wo, wo = wr := ⟨_, rfl⟩
              subst hwo
              by_cases hlt2 : b < m
              · have hbi : (b : Int) < (m : Int) := by omega
                obtain ⟨x0, x1, x2⟩ := HX.out.cells a b hlt hlt2
                rw [cur_at] at x1
                by_cases hL : 0 < lv t r a b
                · have hLi : (0 : Int) < ((lv t r a b : Nat) : Int) := by omega
                  have HXN : Hid (Mx wo (w.heap.size + 1) m (cur t r a (b + 1))) := HX.out.congr fun i j _ _ => by
                    rw [cur_set]
                    by_cases e : i = a ∧ j = b
                    · obtain ⟨rfl, rfl⟩ := e; rw [if_pos ⟨rfl, rfl⟩, cur_at, lv_keep t r _ _ hL]
                    · rw [if_neg e]
                  have HMN := hide (HMO.out.same (fun h => by omega))
                  generalize lv t r a b = L at *
                  go_wp2_with fail
                  go_roundw
                  case rel => exact ⟨b + 1, mb2, by omega, by go_num, rfl, HXN.out, HB.out, HMN.out⟩
                  case measure => simp [intOf]; omega
                · have hL0 : lv t r a b = 0 := by omega
                  have HL0 := hide hL0
                  rw [hL0] at x1
                  obtain ⟨t0, t1⟩ := HTA.out.below HB.out
                  obtain ⟨ua, da, ca, ia⟩ := (HN.out.below HB.out).at a (by rw [HNL.out]; exact hlt)
                  rw [(HNX.out a hlt).1] at ca ia
                  clear hL hL0
                  go_wp2_with fail
                  have HXo := hide HX.out
                  have HBo := hide HB.out
                  have HMOo := hide HMO.out
                  clear HX HB HMO ca ia t0 t1 x0 x1 x2
                  go_loopw [53, 7] (fun iv mv wr => ∃ i : Nat, i ≤ k ∧ iv = .int .i64 (i : Int) ∧ mv = .bool mb2 ∧ Hid (∀ j, j < i → hitR t r a b j = false) ∧ Hid (Below wo.heap.size wo wr)) (fun iv _ _ => k - (intOf iv).toNat)
                  case atStart => exact ⟨0, Nat.zero_le _, rfl, rfl, fun j hj => by omega, Below.refl _ _⟩
                  case round =>
                    obtain ⟨i, hi, rfl, rfl, HNH, HBI⟩ := hrel
                    obtain ⟨wq, hwq⟩ : ∃ wq, wq = wr := ⟨_, rfl⟩
                    subst hwq
                    have HBW := hide (then_ HBo.out HBI.out)
                    by_cases hlt3 : i < k
                    · have hki : (i : Int) < (k : Int) := by omega
                      have HXw := hide (HXo.out.below HBI.out)
                      obtain ⟨t0, t1⟩ := HTA.out.below HBW.out
                      obtain ⟨ua, da, ca, ia⟩ := (HN.out.below HBW.out).at a (by rw [HNL.out]; exact hlt)
                      obtain ⟨ub, db, cb, ib⟩ := (HN.out.below HBW.out).at b (by rw [HNL.out]; exact hlt2)
                      obtain ⟨va, ea, cva, iva⟩ := (HT.out.below HBW.out).at a (by rw [HTLn.out]; exact hlt)
                      obtain ⟨vb, eb, cvb, ivb⟩ := (HT.out.below HBW.out).at b (by rw [HTLn.out]; exact hlt2)
                      rw [(HNX.out a hlt).1] at ca ia
                      rw [(HNX.out b hlt2).1] at cb ib
                      rw [(HTL.out a hlt).1] at cva iva
                      rw [(HTL.out b hlt2).1] at cvb ivb
                      obtain ⟨n1, l1⟩ := (HNX.out a hlt).2 i hlt3
                      obtain ⟨n2, l2⟩ := (HNX.out b hlt2).2 i hlt3
                      obtain ⟨g1, o1, rfl, d1, _⟩ := ia.cell i _ n1
                      obtain ⟨g2, o2, rfl, d2, _⟩ := ib.cell i _ n2
                      obtain ⟨g3, o3, rfl, d3, _⟩ := iva.cell i _ ((HTL.out a hlt).2 i hlt3)
                      obtain ⟨g4, o4, rfl, d4, _⟩ := ivb.cell i _ ((HTL.out b hlt2).2 i hlt3)
                      obtain ⟨x3, x4, _⟩ := HXw.out.cells _ _ l1 l2
                      obtain ⟨x0, x1, x2⟩ := HXw.out.cells a b hlt hlt2
                      have HHR : Hid (hitR t r a b i = if r = 0 then decide (t.tl a i ≠ t.tl b i) else decide (lv t r (t.nx a i) (t.nx b i) = r)) := rfl
                      have HCW : Hid (r ≠ 0 → (cur t r a b (t.nx a i) (t.nx b i) = r ↔ lv t r (t.nx a i) (t.nx b i) = r)) := cur_was t r a b _ _
                      have HNX2 : Hid (hitR t r a b i = false → ∀ j, j < i + 1 → hitR t r a b j = false) := fun h j hj => by
                        by_cases e : j = i
                        · subst e; exact h
                        · exact HNH.out j (by omega)
                      have HYES : Hid (hitR t r a b i = true → lv t (r + 1) a b = r + 1) := fun h => lv_hit t r a b i HL0.out (by rw [HTK.out]; exact hlt3) h
                      clear n1 n2 ia ib iva ivb
                      generalize hc : cur t r a b (t.nx a i) (t.nx b i) = C at *
                      generalize t.nx a i = x at *
                      generalize t.nx b i = y at *
                      generalize t.tl a i = p at *
                      generalize t.tl b i = q at *
                      have HDD : Hid (∀ n, Below wq.heap.size wq (wq.drewN n)) := fun _ => ⟨rfl, rfl, rfl, Nat.le_refl _, fun _ _ => rfl⟩
                      by_cases h0 : r = 0
                      · have hD1 : D = 1 := by have := HDD0.out; omega
                        by_cases hpq : p = q
                        · have hpb : (p != q) = false := by simpa using hpq
                          have hh : hitR t r a b i = false := by have h := HHR.out; rw [if_pos h0] at h; rw [h]; simpa using hpq
                          subst hD1
                          have HNO := hide (HNX2.out hh)
                          go_wp2_with fail
                          go_quiet (fail)
                          go_wp2_with fail
                          go_quiet (fail)
                          go_wp2_with fail
                          go_roundw
                          case rel => exact ⟨i + 1, by omega, by go_num, rfl, HNO.out, then_ HBI.out (HDD.out _)⟩
                          case measure => simp [intOf]; omega
                        · have hpb : (p != q) = true := by simpa using hpq
                          have hh : hitR t r a b i = true := by have h := HHR.out; rw [if_pos h0] at h; rw [h]; simpa using hpq
                          subst hD1
                          have hup := HYES.out hh
                          have HXN : Hid (∀ W, Below wq.heap.size wq W → Mx (W.setCell ⟨w.heap.size + 1 + 1 + a, b, none⟩ (.int .i64 1)) (w.heap.size + 1) m (cur t r a (b + 1))) := fun W hW => by
                            have h := (HXw.out.below hW).set a b (r + 1)
                            have e : (((r + 1 : Nat)) : Int) = 1 := by have := HDD0.out; omega
                            rw [e] at h
                            exact h.congr fun i' j' _ _ => by rw [cur_set, hup]
                          have HBN : Hid (∀ W, Below wq.heap.size wq W → Below wA.heap.size wA (W.setCell ⟨w.heap.size + 1 + 1 + a, b, none⟩ (.int .i64 1))) := fun W hW => (then_ HBW.out hW).setCell (by show wA.heap.size ≤ w.heap.size + 1 + 1 + a; omega) _
                          have HMN : Hid (MoreOk t r a (b + 1) true) := MoreOk.new (by rw [HTN.out]; exact hlt) (by rw [HTN.out]; exact hlt2) HL0.out hup
                          have hbl : w.heap.size + 1 + 1 + a < wq.heap.size := World.block_lt_of_cell? _ _ x1
                          clear hup
                          go_wp2_with fail
                          go_quiet (fail)
                          go_wp2_with fail
                          go_quiet (fail)
                          go_wp2_with fail
                          go_roundw
                          case rel => exact ⟨b + 1, true, by omega, by go_num, rfl, HXN.out _ (HDD.out _), HBN.out _ (HDD.out _), HMN.out⟩
                          case measure => simp [intOf]; omega
                      · have hD1 : ¬ D = 1 := by have := HDD0.out; omega
                        have hDb : (D == 1) = false := by simpa using hD1
                        have hDd : Decidable.decide (D = 1) = false := by simpa using hD1
                        have hDg : 1 < D := by have := HDD0.out; omega
                        have hDe : Decidable.decide (1 < D) = true := by simpa using hDg
                        have hDs : IntKind.i64.wrap (D - 1) = (r : Int) := by rw [show D - 1 = (r : Int) by have := HDD0.out; omega]; exact wrapI _ (by omega) (by omega)
                        by_cases hC : C = r
                        · have hh : hitR t r a b i = true := by have h := HHR.out; rw [if_neg h0] at h; rw [h]; simpa using (HCW.out h0).1 hC
                          subst hC
                          have hup := HYES.out hh
                          have HXN : Hid (∀ W, Below wq.heap.size wq W → Mx (W.setCell ⟨w.heap.size + 1 + 1 + a, b, none⟩ (.int .i64 D)) (w.heap.size + 1) m (cur t C a (b + 1))) := fun W hW => by
                            have h := (HXw.out.below hW).set a b (C + 1)
                            have e : (((C + 1 : Nat)) : Int) = D := by have := HDD0.out; omega
                            rw [e] at h
                            exact h.congr fun i' j' _ _ => by rw [cur_set, hup]
                          have HBN : Hid (∀ W, Below wq.heap.size wq W → Below wA.heap.size wA (W.setCell ⟨w.heap.size + 1 + 1 + a, b, none⟩ (.int .i64 D))) := fun W hW => (then_ HBW.out hW).setCell (by show wA.heap.size ≤ w.heap.size + 1 + 1 + a; omega) _
                          have HMN : Hid (MoreOk t C a (b + 1) true) := MoreOk.new (by rw [HTN.out]; exact hlt) (by rw [HTN.out]; exact hlt2) HL0.out hup
                          have hbl : w.heap.size + 1 + 1 + a < wq.heap.size := World.block_lt_of_cell? _ _ x1
                          clear hup
                          go_wp2_with fail
                          go_quiet (fail)
                          go_wp2_with fail
                          go_quiet (fail)
                          go_wp2_with fail
                          go_roundw
                          case rel => exact ⟨b + 1, true, by omega, by go_num, rfl, HXN.out _ (HDD.out _), HBN.out _ (HDD.out _), HMN.out⟩
                          case measure => simp [intOf]; omega
                        · have hh : hitR t r a b i = false := by have h := HHR.out; rw [if_neg h0] at h; rw [h]; simpa using fun e => hC ((HCW.out h0).2 e)
                          have hCi : ¬ (C : Int) = (r : Int) := by omega
                          have hCb : ((C : Int) == (r : Int)) = false := by simpa using hCi
                          have hCd : Decidable.decide ((C : Int) = (r : Int)) = false := by simpa using hCi
                          have HNO := hide (HNX2.out hh)
                          go_wp2_with fail
                          go_quiet (fail)
                          go_wp2_with fail
                          go_quiet (fail)
                          go_wp2_with fail
                          go_roundw
                          case rel => exact ⟨i + 1, by omega, by go_num, rfl, HNO.out, then_ HBI.out (HDD.out _)⟩
                          case measure => simp [intOf]; omega
                    · have hik : i = k := by omega
                      subst hik
                      have hno : lv t (r + 1) a b = 0 := lv_nohit t r a b HL0.out (fun j hj => HNH.out j (by rw [← HTK.out]; exact hj))
                      have HXN : Hid (Mx wq (w.heap.size + 1) m (cur t r a (b + 1))) := (HXo.out.below HBI.out).congr fun i' j' _ _ => by
                        rw [cur_set]
                        by_cases e : i' = a ∧ j' = b
                        · obtain ⟨rfl, rfl⟩ := e; rw [if_pos ⟨rfl, rfl⟩, cur_at, hno, HL0.out]
                        · rw [if_neg e]
                      have HMN := hide (HMOo.out.same (fun _ => hno))
                      clear hno
                      go_wp2_with fail
                      go_roundw
                      case rel => exact ⟨b + 1, mb2, by omega, by go_num, rfl, HXN.out, HBW.out, HMN.out⟩
                      case measure => simp [intOf]; omega
              · have hbm : b = m := by omega
                subst hbm
                have HXN : Hid (Mx wo (w.heap.size + 1) b (cur t r (a + 1) 0)) := HX.out.congr fun i j _ hj => cur_row t r a b i j hj
                have HMN : Hid (MoreOk t r (a + 1) 0 mb2) := by have h := HMO.out; rw [← HTN.out] at h; exact h.row
                go_wp2_with fail
                go_roundw
                case rel => exact ⟨a + 1, mb2, by omega, by go_num, rfl, HXN.out, HB.out, HMN.out⟩
                case measure => simp [intOf]; omega
          · have ham : a = m := by omega
            subst ham
            have HXN : Hid (Mx wr (w.heap.size + 1) a (lv t (r + 1))) := HX.out.congr fun i j hi _ => cur_end t r a i j hi
            have HMN : Hid (MoreOk t r t.n 0 mb) := by rw [HTN.out]; exact HMO.out
            cases mb with
            | true =>
              have hz := zc_less (HMN.out.2 rfl)
              have HZN : Hid (r + 1 + zc t (r + 1) ≤ a * a) := by have := HZ.out; show _ ≤ _; omega
              have hrl : r + 1 ≤ a * a := by have := HZN.out; omega
              have HRL := hide hrl
              have HMI : Hid (a * a + 2 - ((D + 1 : Int)).toNat < a * a + 2 - D.toNat) := by have := HDD0.out; have := HRL.out; show _ < _; omega
              have hD0 : 0 ≤ D ∧ D ≤ 300000 := by have := HDD0.out; omega
              clear hz hrl
              go_wp2_with fail
              go_roundw
              case rel => exact ⟨r + 1, by have := HDD0.out; congr 1; omega, HXN.out, HB.out, HZN.out⟩
              case measure => simp only [intOf]; exact HMI.out
            | false =>
              have HST := hide ((HMN.out.1 rfl).stable HTOK.out)
              have HSTN : Hid (Stable t (r + 1)) := fun x y hx hy h => HST.out x y hx hy (eqB_less t r x y h)
              have HFE := hide (HFIN.out wr (r + 1) HXN.out HSTN.out (by omega) HB.out)
              go_wp2_with fail
              go_ret
              exact HFE.out
end Bk
end Go.Proofs.YtdeijfkahhgojaaDoor
