/-
  The walk of package block's Tell, and of what it asks.
-/
import Derived.Test.YtdeijfkahhgojaaDoorBkClone
namespace Go.Proofs.YtdeijfkahhgojaaDoor
namespace Bk
open Go.RowKit
theorem hasB_nat2 {n : Nat} {x : Int} (h : hasB n x = true) : ∃ k : Nat, x = (k : Int) ∧ k < n := by
  simp [hasB] at h
  exact ⟨x.toNat, by omega, by omega⟩
set_option maxHeartbeats 2000000 in
set_option maxRecDepth 100000 in
theorem hasInput_any (x : Int) (N : List (List Int)) (r : List Int) (nv tv : Value) (w : World) (hN : Rows w nv N) (h0 : N[0]? = some r) (ht : ∃ a n c, tv = .slice a n c) :
    Calls Tryd.prog 29 #[.agg #[nv, tv], .int .i64 x] w fun e w' => e = .returned (.bool (hasB r.length x)) ∧ Below w.heap.size w w' := by
  obtain ⟨wA, hwA⟩ : ∃ wA, wA = w.alloc (.cells #[nv, tv] 24) := ⟨_, rfl⟩
  have hBA : Below w.heap.size w wA := by rw [hwA]; exact (Below.refl _ _).alloc (Nat.le_refl _) _
  have HIN := hide (inputs_any N r nv tv wA (hN.below hBA) h0 ht)
  have HBA := hide hBA
  obtain ⟨ta, tn, tc, rfl⟩ := ht
  obtain ⟨na, nc, rfl⟩ := hN.slice
  rw [hwA] at HIN HBA
  clear hN hBA hwA
  generalize r.length = k at *
  by_cases h1 : 0 ≤ x
  · by_cases h2 : x < (k : Int)
    · have HY : Hid (hasB k x = true) := by show _ = _; simp [hasB, h1, h2]
      rw [HY.out]
      go_enter Tryd.func29, Tryd.ntmps29
      go_wp2_with fail
      refine HIN.out.mono ?_
      rintro e w1 ⟨rfl, hb1⟩
      have HB := hide (then_ HBA.out hb1)
      clear hb1
      go_wp2_with fail
      go_ret
      exact ⟨rfl, HB.out⟩
    · have HY : Hid (hasB k x = false) := by show _ = _; simp [hasB, h1, h2]
      rw [HY.out]
      go_enter Tryd.func29, Tryd.ntmps29
      go_wp2_with fail
      refine HIN.out.mono ?_
      rintro e w1 ⟨rfl, hb1⟩
      have HB := hide (then_ HBA.out hb1)
      clear hb1
      go_wp2_with fail
      go_ret
      exact ⟨ret_bool (decide_eq_false (by omega)), HB.out⟩
  · have HY : Hid (hasB k x = false) := by show _ = _; simp [hasB]; omega
    rw [HY.out]
    go_enter Tryd.func29, Tryd.ntmps29
    go_wp2_with fail
    go_ret
    exact ⟨rfl, HBA.out⟩
set_option maxHeartbeats 2000000 in
set_option maxRecDepth 100000 in
theorem tell1_any (x : Int) (b : Nat) (N : List (List Int)) (r : List Int) (nv tv : Value) (w : World) (hN : Rows w nv N) (h0 : N[0]? = some r) (ht : ∃ a n c, tv = .slice a n c) (hb : Tab w b nv tv) :
    Calls Tryd.prog 28 #[.int .i64 x, .pointer (some ⟨b, 0, none⟩)] w fun e w' => e = .returned (.bool (!hasB r.length x)) ∧ Below w.heap.size w w' := by
  have HC := hide (hasInput_any x N r nv tv w hN h0 ht)
  obtain ⟨ta, tn, tc, rfl⟩ := ht
  obtain ⟨na, nc, rfl⟩ := hN.slice
  obtain ⟨c0, c1⟩ := hb
  clear hN
  generalize hasB r.length x = y at *
  go_enter Tryd.func28, Tryd.ntmps28
  go_wp2_with fail
  refine HC.out.mono ?_
  rintro e w1 ⟨rfl, hb1⟩
  have HB := hide hb1
  clear hb1 HC
  cases y
  all_goals
    go_wp2_with fail
    go_ret
    exact ⟨rfl, HB.out⟩
theorem tell1_pred (b : Nat) (N : List (List Int)) (r : List Int) (nv tv : Value) (w : World) (hN : Rows w nv N) (h0 : N[0]? = some r) (ht : ∃ a n c, tv = .slice a n c) (hb : Tab w b nv tv) :
    SPred w (.func (.func 28) #[] #[.pointer (some ⟨b, 0, none⟩)]) (fun _ => True) (fun x => !hasB r.length x) :=
  ⟨_, _, rfl, .inl ⟨_, rfl⟩, fun _ _ => by kernel_rfl, fun x W hW _ => tell1_any x b N r nv tv W (hN.below hW) h0 ht (hb.below hW)⟩
/-- inputs that may be -/
def insB (k : Nat) (l : List Int) : Bool := !(l.any fun x => !hasB k x)
theorem insB_nat {k : Nat} {l : List Int} (h : insB k l = true) : ∃ ls : List Nat, l = ints ls ∧ ∀ i, i ∈ ls → i < k := by
  have h2 : ∀ x, x ∈ l → 0 ≤ x ∧ x < (k : Int) := fun x hx => by
    have h3 : (l.any fun x => !hasB k x) = false := by simpa [insB] using h
    have h4 : hasB k x = true := by
      cases hb : hasB k x with
      | true => rfl
      | false => rw [List.any_eq_true.2 ⟨x, hx, by rw [hb]; rfl⟩] at h3; cases h3
    simpa [hasB] using h4
  refine ⟨l.map Int.toNat, ?_, fun i hi => ?_⟩
  · unfold ints
    rw [List.map_map]
    have : ∀ m : List Int, (∀ x, x ∈ m → 0 ≤ x) → m = m.map ((fun i : Nat => (i : Int)) ∘ Int.toNat) := by
      intro m hm
      induction m with
      | nil => rfl
      | cons y r ih =>
        rw [List.map_cons, ← ih (fun x hx => hm x (by simp [hx]))]
        have := hm y (by simp)
        congr 1
        show y = ((y.toNat : Nat) : Int)
        omega
    exact this l (fun x hx => (h2 x hx).1)
  · obtain ⟨x, hx, rfl⟩ := List.mem_map.1 hi
    have := h2 x hx
    omega
theorem ints_insB {k : Nat} {ls : List Nat} (h : ∀ i, i ∈ ls → i < k) : insB k (ints ls) = true := by
  unfold insB
  cases hb : (ints ls).any fun x => !hasB k x with
  | false => rfl
  | true =>
    obtain ⟨x, hx, h2⟩ := List.any_eq_true.1 hb
    have := ints_mem ls k h x hx
    simp [hasB, this.1, this.2] at h2
theorem ints_inj {a b : List Nat} (h : ints a = ints b) : a = b := by
  have h2 := congrArg (List.map Int.toNat) h
  simpa [ints, Function.comp_def] using h2
/-- what Tell comes to -/
def TellDone (w : World) (N T : List (List Int)) (s : Int) (l : List Int) (e : Ending) (w' : World) : Prop := Below w.heap.size w w' ∧
  ((check N T ≠ none ∧ ∃ v, e = .returned (.tuple #[.slice none 0 0, v]) ∧ ErrIs w' v (check N T)) ∨
   (check N T = none ∧ (hasB N.length s && insB (N.getD 0 []).length l) = false ∧ e = .returned (.tuple #[.slice none 0 0, .iface 26 (.int .i64 2)])) ∨
   (check N T = none ∧ ∃ (x : Nat) (ls : List Nat) (g : Nat), s = (x : Int) ∧ x < N.length ∧ l = ints ls ∧ (∀ i, i ∈ ls → i < (tab N T).k) ∧ e = .returned (.tuple #[.slice (some ⟨g, 0, none⟩) l.length l.length, .nilIface]) ∧ RowIs w' g 3 ((tell (tab N T) x ls).map intV) ∧ w.heap.size ≤ g))
theorem tell_take (t : Tb) (x : Nat) (ls : List Nat) (j : Nat) (hj : j < ls.length) : tell t x (ls.take (j + 1)) = tell t x (ls.take j) ++ [t.tl (goes t x (ls.take j)) ls[j]] := by
  rw [List.take_succ_eq_append_getElem hj, tell_snoc]
theorem goes_take (t : Tb) (x : Nat) (ls : List Nat) (j : Nat) (hj : j < ls.length) : goes t x (ls.take (j + 1)) = t.nx (goes t x (ls.take j)) ls[j] := by
  rw [List.take_succ_eq_append_getElem hj, goes_snoc]
set_option maxHeartbeats 8000000 in
set_option maxRecDepth 100000 in
theorem Tell_any (N T : List (List Int)) (nv tv sv : Value) (s : Int) (l : List Int) (w : World) (hN : Rows w nv N) (hT : Rows w tv T) (hI : Ints w sv l) (hl : l.length ≤ 1000000) :
    Calls Tryd.prog 15 #[.agg #[nv, tv], .int .i64 s, sv] w (TellDone w N T s l) := by
  have hmf : ∀ (fn : Fn) (first cap : Array Value) (w : World), (Instr.makeFunc fn first cap).run Tryd.prog w = .ok (.func fn first cap) w := fun _ _ _ _ => rfl
  obtain ⟨wA, hwA⟩ : ∃ wA, wA = w.alloc (.cells #[nv, tv] 24) := ⟨_, rfl⟩
  have hBA : Below w.heap.size w wA := by rw [hwA]; exact (Below.refl _ _).alloc (Nat.le_refl _) _
  have hTA : Tab wA w.heap.size nv tv := by rw [hwA]; exact Tab.new _ _ _
  have HC := hide (Check_any N T nv tv wA (hN.below hBA) (hT.below hBA))
  have HN := hide hN
  have HT := hide hT
  have HI := hide hI
  obtain ⟨na, nc, rfl⟩ := hN.slice
  obtain ⟨ta, tc, rfl⟩ := hT.slice
  obtain ⟨ia, ic, rfl⟩ := hI.slice
  have HBA := hide hBA
  have HTA := hide hTA
  obtain ⟨t0, t1⟩ := hTA
  have nq := neqNil
  have nn := neqNilN
  have mk := fun w => makeIs l.length hl w
  obtain ⟨cO, hcO⟩ : ∃ c, c = List.replicate l.length (Value.int .i64 0) := ⟨_, rfl⟩
  rw [← hcO] at mk
  have HCO := hide hcO
  clear hN hT hBA hI hcO
  go_enter Tryd.func15, Tryd.ntmps15
  go_wp2_with fail
  rw [← hwA]
  clear hwA
  refine HC.out.mono ?_
  rintro e w1 ⟨v, rfl, he, hb1⟩
  have HB1 := hide hb1
  have HBW := hide (then_ HBA.out hb1)
  have HT1 := hide (HTA.out.below hb1)
  obtain ⟨s0, s1⟩ := HTA.out.below hb1
  cases hck : check N T with
  | none =>
    rw [hck] at he
    obtain rfl : v = .nilIface := he
    have HG := hide (good_of hck)
    have HCK := hide hck
    clear hb1 hck HC
    have HS1 := hide (hasState_any s N.length na nc (.slice ta T.length tc) w1 ⟨_, _, _, rfl⟩)
    have hp0 : 0 < N.length := HG.out.pos
    have h0 := List.getElem?_eq_getElem hp0
    have hz0 : N.getD 0 [] = N[0] := getD_in _ _ _ hp0
    have HCF := hide (fun W (hW : Below w1.heap.size w1 W) => containsF_any l _ _ _ _ W (HI.out.below (then_ HBW.out hW)) (fun _ _ => trivial) (tell1_pred w.heap.size N N[0] (.slice na N.length nc) (.slice ta T.length tc) W (HN.out.below (then_ HBW.out hW)) h0 ⟨_, _, _, rfl⟩ (HT1.out.below hW)))
    rw [← hz0] at HCF
    clear h0 hz0
    cases hA : hasB N.length s with
    | false =>
      rw [hA] at HS1
      have HFIN : Hid (∀ W, Below w1.heap.size w1 W → TellDone w N T s l (.returned (.tuple #[.slice none 0 0, .iface 26 (.int .i64 2)])) W) := fun W hW => ⟨then_ HBW.out hW, .inr (.inl ⟨HCK.out, by rw [hA]; rfl, rfl⟩)⟩
      clear hA HCF
      go_wp2_with (go_at_call 25; (with_reducible refine HS1.out.mono ?_); rintro e w2 ⟨rfl, hb2⟩; have HF := hide (HFIN.out w2 hb2); clear hb2)
      go_ret2
      exact HF.out
    | true =>
      rw [hA] at HS1
      cases hB : l.any (fun x => !hasB (N.getD 0 []).length x) with
      | true =>
        rw [hB] at HCF
        have HFIN : Hid (∀ W, Below w1.heap.size w1 W → TellDone w N T s l (.returned (.tuple #[.slice none 0 0, .iface 26 (.int .i64 2)])) W) := fun W hW => ⟨then_ HBW.out hW, .inr (.inl ⟨HCK.out, by rw [hA, insB, hB]; rfl, rfl⟩)⟩
        clear hA hB
        go_wp2_with (first
          | (go_at_call 25; (with_reducible refine HS1.out.mono ?_); rintro e w2 ⟨rfl, hb2⟩; have HB2 := hide hb2; clear hb2)
          | (go_at_call 23; (with_reducible refine (HCF.out _ HB2.out).mono ?_); rintro e w3 ⟨rfl, hb3⟩; have HF := hide (HFIN.out w3 (then_ HB2.out hb3)); clear hb3))
        go_ret2
        exact HF.out
      | false =>
        rw [hB] at HCF
        obtain ⟨x, rfl, hx⟩ := hasB_nat2 hA
        obtain ⟨ls, hls, hlk⟩ := insB_nat (k := (N.getD 0 []).length) (l := l) (by rw [insB, hB]; rfl)
        have HLS := hide hls
        have HLK := hide hlk
        have HT2 := hide (fun W (hW : Below w1.heap.size w1 W) => HT1.out.below hW)
        obtain ⟨n, hn⟩ : ∃ n, n = l.length := ⟨_, rfl⟩
        have HNL := hide hn
        have HLL : Hid (ls.length = n) := by show _ = _; rw [hn, HLS.out, ints_len]
        rw [← hn] at mk hl ⊢
        rw [← hn] at HI HCF HCO
        clear hA hB hls hlk hn
        go_wp2_with (first
          | (go_at_call 25; (with_reducible refine HS1.out.mono ?_); rintro e w2 ⟨rfl, hb2⟩; have HB2 := hide hb2; clear hb2)
          | (go_at_call 23; (with_reducible refine (HCF.out _ HB2.out).mono ?_); rintro e w3 ⟨rfl, hb3⟩; have HB3 := hide (then_ HB2.out hb3); clear hb3))
        obtain ⟨wM, hwM⟩ : ∃ wM, wM = w3.alloc (.cells ⟨cO⟩ 3) := ⟨_, rfl⟩
        have HBM : Hid (Below w3.heap.size w3 wM) := by rw [hwM]; exact (Below.refl _ _).alloc (Nat.le_refl _) _
        have HBX := hide (then_ HB3.out HBM.out)
        have HR0 : Hid (RowIs wM w3.heap.size 3 ((tell (tab N T) x (ls.take 0)).map intV ++ List.replicate (n - ((tell (tab N T) x (ls.take 0)).map intV).length) (.int .i64 0))) := by
          show RowIs wM w3.heap.size 3 (List.replicate n (.int .i64 0))
          rw [hwM, ← HCO.out]; exact RowIs.new _ _ _
        have hz3 : w.heap.size ≤ w3.heap.size := (then_ HBW.out HB3.out).size
        rw [← hwM]
        clear hwM
        go_loopw [1, 32] (fun sv jv wr => ∃ j : Nat, j ≤ n ∧ jv = .int .i64 (j : Int) ∧ sv = .int .i64 ((goes (tab N T) x (ls.take j) : Nat) : Int) ∧ Hid (RowIs wr w3.heap.size 3 ((tell (tab N T) x (ls.take j)).map intV ++ List.replicate (n - ((tell (tab N T) x (ls.take j)).map intV).length) (.int .i64 0))) ∧ Hid (Below w3.heap.size w3 wr)) (fun _ jv _ => n - (intOf jv).toNat)
        case atStart => exact ⟨0, Nat.zero_le _, rfl, rfl, HR0.out, HBM.out⟩
        case round =>
          obtain ⟨j, hj, rfl, rfl, HR, HB⟩ := hrel
          have hlo : ((tell (tab N T) x (ls.take j)).map intV).length = j := by rw [List.length_map, tell_len, List.length_take, HLL.out]; omega
          by_cases hlt : j < n
          · have hjl : j < ls.length := by rw [HLL.out]; exact hlt
            have HTS := hide (tell_take (tab N T) x ls j hjl)
            have HGS := hide (goes_take (tab N T) x ls j hjl)
            have hgn : goes (tab N T) x (ls.take j) < N.length := goes_lt HG.out.ok _ x hx (fun i hi => HLK.out i (List.mem_of_mem_take hi))
            have hik : ls[j] < (N.getD 0 []).length := HLK.out _ (List.getElem_mem hjl)
            have hgT : goes (tab N T) x (ls.take j) < T.length := by rw [HG.out.tells]; exact hgn
            have v1 := HG.out.next _ hgn _ hik
            have v2 := HG.out.told _ hgn _ hik
            rw [getD_in _ _ _ hgn] at v1
            rw [getD_in _ _ _ hgT] at v2
            have HBr := hide (then_ HBW.out (HB3.out.trans (HB.out.mono HB3.out.size)))
            have HW3 := hide (then_ HBW.out HB3.out)
            obtain ⟨g1, o1, rfl, u1, d1, r1, i1⟩ := (HN.out.below HW3.out).cell _ _ (List.getElem?_eq_getElem hgn)
            obtain ⟨g2, o2, rfl, u2, d2, r2, i2⟩ := (HT.out.below HW3.out).cell _ _ (List.getElem?_eq_getElem hgT)
            obtain ⟨g3, o3, rfl, y1, _⟩ := i1.cell _ _ v1
            obtain ⟨g4, o4, rfl, y2, _⟩ := i2.cell _ _ v2
            have hn1 : g1 ≠ w3.heap.size := Nat.ne_of_lt (World.block_lt_of_cell? _ _ r1)
            have hn3 : g3 ≠ w3.heap.size := Nat.ne_of_lt (World.block_lt_of_cell? _ _ y1)
            have r1 := kept HB.out r1
            have r2 := kept HB.out r2
            have y1 := kept HB.out y1
            have y2 := kept HB.out y2
            have hli : l[j]? = some ((ls[j] : Nat) : Int) := by rw [HLS.out]; exact ints_get _ _ _ (List.getElem?_eq_getElem hjl)
            obtain ⟨g5, o5, rfl, y3, _⟩ := (HI.out.below HBr.out).cell j _ hli
            obtain ⟨q0, q1⟩ := HT2.out wr (HB3.out.trans (HB.out.mono HB3.out.size))
            have lk1 : N[goes (tab N T) x (ls.take j)].length = (N.getD 0 []).length := by have := (HG.out.rows _ hgn).1; rwa [getD_in _ _ _ hgn] at this
            have lk2 : T[goes (tab N T) x (ls.take j)].length = (N.getD 0 []).length := by have := (HG.out.rows _ hgn).2.1; rwa [getD_in _ _ _ hgT] at this
            rw [lk1] at r1
            rw [lk2] at r2
            have c0 : wr.cell? ⟨w3.heap.size, j, none⟩ = some (.int .i64 0) := HR.out.cell j _ (by rw [List.getElem?_append_right (by omega), List.getElem?_replicate, if_pos (by omega)])
            have f0 := HR.out.frozen j
            have HRN : Hid (∀ z, z = (tab N T).tl (goes (tab N T) x (ls.take j)) ls[j] → RowIs (wr.setCell ⟨w3.heap.size, j, none⟩ (.int .i64 z)) w3.heap.size 3 ((tell (tab N T) x (ls.take (j + 1))).map intV ++ List.replicate (n - ((tell (tab N T) x (ls.take (j + 1))).map intV).length) (.int .i64 0))) := fun z hz => by
              have h1 := RowIs.set HR.out j (.int .i64 z)
              have h2 := fill_set ((tell (tab N T) x (ls.take j)).map intV) (.int .i64 0) (.int .i64 z) n (by omega)
              rw [hlo] at h2
              rw [hlo, h2] at h1
              rw [HTS.out, List.map_append, ← hz]
              exact h1
            have HBN : Hid (∀ z, Below w3.heap.size w3 (wr.setCell ⟨w3.heap.size, j, none⟩ (.int .i64 z))) := fun z => HB.out.setCell (p := ⟨w3.heap.size, j, none⟩) (Nat.le_refl _) _
            have hsz : w3.heap.size < wr.heap.size := RowIs.lt HR.out
            have hnW : w.heap.size ≠ w3.heap.size := Nat.ne_of_lt (World.block_lt_of_cell? _ _ (HT2.out w3 HB3.out).1)
            clear v1 v2 i1 i2 hli lk1 lk2 hlo
            have HRN1 := hide (HRN.out _ rfl)
            have HBN1 := hide (HBN.out ((tab N T).tl (goes (tab N T) x (ls.take j)) ls[j]))
            clear HRN HBN HTS
            have hji : (j : Int) < (n : Int) := by omega
            have hgi : ((goes (tab N T) x (ls.take j) : Nat) : Int) < (N.length : Int) := by omega
            have hgi2 : ((goes (tab N T) x (ls.take j) : Nat) : Int) < (T.length : Int) := by omega
            have hiki : ((ls[j] : Nat) : Int) < (((N.getD 0 []).length : Nat) : Int) := by omega
            have HGE : Hid (goes (tab N T) x (ls.take (j + 1)) = (tab N T).nx (goes (tab N T) x (ls.take j)) ls[j]) := HGS.out
            clear HGS
            generalize (tab N T).tl (goes (tab N T) x (ls.take j)) ls[j] = z at *
            generalize (tab N T).nx (goes (tab N T) x (ls.take j)) ls[j] = y at *
            generalize ls[j] = i at *
            generalize goes (tab N T) x (ls.take j) = s at *
            generalize (N.getD 0 []).length = k at *
            go_wp2_with fail
            go_roundw
            case rel => exact ⟨j + 1, by omega, by go_num, by rw [HGE.out], HRN1.out, HBN1.out⟩
            case measure => simp [intOf]; omega
          · have hjn : j = n := by omega
            subst hjn
            have HRF := HR.out
            rw [hlo, Nat.sub_self, List.replicate_zero, List.append_nil, List.take_of_length_le (by rw [HLL.out]; omega)] at HRF
            have HFIN : Hid (TellDone w N T (x : Int) l (.returned (.tuple #[.slice (some ⟨w3.heap.size, 0, none⟩) j j, .nilIface])) wr) := ⟨then_ HBW.out (HB3.out.trans (HB.out.mono HB3.out.size)), .inr (.inr ⟨HCK.out, x, ls, w3.heap.size, rfl, hx, HLS.out, HLK.out, by rw [HNL.out], HRF, hz3⟩)⟩
            clear HRF hlo
            go_wp2_with fail
            go_ret2
            exact HFIN.out
  | some r =>
    obtain ⟨t, y, rfl⟩ := he.iface (by rw [hck]; simp)
    have HFIN : Hid (TellDone w N T s l (.returned (.tuple #[.slice none 0 0, .iface t y])) w1) := ⟨HBW.out, .inl ⟨by rw [hck]; simp, _, rfl, he⟩⟩
    clear hb1 he hck HC
    go_wp2_with fail
    go_ret2
    exact HFIN.out
end Bk
end Go.Proofs.YtdeijfkahhgojaaDoor
