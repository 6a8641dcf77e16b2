/-
  The walk of the reader's list: what it reads, one behind the other, lies in a row of its own.
-/
import Derived.Test.YtblfeahbpklgiaaGreatDoorRdNamed
import Derived.Test.YtblfeahbpklgiaaGreatDoorExLe
import Derived.Maps.AppendAt
namespace Go.Proofs.YtblfeahbpklgiaaGreatDoor
open Go.RowKit
theorem Keep.grown {b : Nat} {a w w' : World} {row : Option Nat} (h : Keep b a w) (hg : w.grownBy w' row) (hr : ∀ k, row = some k → a.heap.size ≤ k) : Keep b a w' :=
  ⟨hg.os.trans h.os, hg.tape.trans h.tape, hg.output.trans h.output, Nat.le_trans h.size hg.size, fun k hk hb => (hg.block k (Nat.lt_of_lt_of_le hk h.size) (fun e => by have := hr k e.symm; omega)).trans (h.block k hk hb)⟩
theorem Keep.toGrown {b : Nat} {w w' : World} (h : Keep b w w') : w.grownBy w' (some b) := ⟨h.os, h.tape, h.output, h.size, fun k hk hb => h.block k hk (fun e => hb (by rw [e]))⟩
theorem Rd.grown {b : Nat} {s : ByteArray} {i d : Nat} {w w' : World} {row : Option Nat} (h : Rd b s i d w) (hg : w.grownBy w' row) (hb : some b ≠ row) : Rd b s i d w' := by
  have e := hg.block b h.lt hb
  exact ⟨(World.cell?_of_block (w := w) e).trans h.c0, (World.cell?_of_block (w := w) e).trans h.c1, (World.cell?_of_block (w := w) e).trans h.c2, (World.frozen?_of_block (w := w) e).trans h.f1, (World.frozen?_of_block (w := w) e).trans h.f2⟩
/-- The list so far: v is a row of the call's own that holds what was read. -/
structure LS (b : Nat) (s : ByteArray) (d : Nat) (w : World) (v : Value) (xs : List Ex) (us : List Value) (i : Nat) (wr : World) : Prop where
  rd : Rd b s i d wr
  keep : Keep b w wr
  hb : b < w.heap.size
  own : wr.ownsRow w.heap.size 23 1 v us.length us
  len : us.length = xs.length
  each : ∀ (j : Nat) (x : Ex) (u : Value), xs[j]? = some x → us[j]? = some u → IsEx (fun g => w.heap.size ≤ g ∧ some g ≠ v.ownBlock) wr x u
namespace LS
variable {b : Nat} {s : ByteArray} {d : Nat} {w : World} {v : Value} {xs : List Ex} {us : List Value} {i : Nat} {wr : World}
theorem start (h : Rd b s i d w) : LS b s d w (.slice none 0 0) [] [] i w := ⟨h, Keep.refl _ _, h.lt, World.ownsRow_nil _ _ _ _, rfl, fun j x u hx => by simp at hx⟩
theorem far (h : LS b s d w v xs us i wr) : v.ownBlock = none ∨ v.ownBlock ≠ some b := by
  cases hv : v.ownBlock with
  | none => exact .inl rfl
  | some k => right; intro e; have := h.own.lt k hv; have h1 := h.hb; simp only [Option.some.injEq] at e; omega
theorem read {m : Nat} {w1 : World} (h : LS b s d w v xs us i wr) (hk : Keep b wr w1) (hr : Rd b s m d w1) : LS b s d w v xs us m w1 :=
  ⟨hr, h.keep.trans hk, h.hb, h.own.kept hk.toGrown h.far, h.len, fun j x u hx hu => IsEx.stay (Stay.keep hk fun g hg e => by have := h.hb; omega) (fun g hg => hg) x u (h.each j x u hx hu)⟩
theorem push {x : Ex} {u v' : Value} {B : Nat} {w2 : World} {o : Obj} (h : LS b s d w v xs us i wr) (hB : w.heap.size ≤ B) (hv : ∀ k, v.ownBlock = some k → k < B) (hx : IsEx (fun g => B ≤ g) wr x u)
    (hg : (wr.alloc o).grownBy w2 v.ownBlock) (hown : w2.ownsRow w.heap.size 23 1 v' (us.length + 1) (us ++ [u])) (hat : v'.ownBlock = v.ownBlock ∨ v'.ownBlock = some (wr.heap.size + 1)) :
    LS b s d w v' (xs ++ [x]) (us ++ [u]) i w2 := by
  have hb0 := h.hb
  have hal : Below wr.heap.size wr (wr.alloc o) := (Below.refl _ _).alloc (Nat.le_refl _) o
  have st : ∀ (ok : Nat → Prop), (∀ g, ok g → some g ≠ v.ownBlock) → Stay ok wr w2 := fun ok hok => (Stay.below hal).trans (Stay.grown hg hok)
  have nb : some b ≠ v.ownBlock := fun e => by rcases h.far with h1 | h1 <;> simp [← e] at h1
  refine ⟨(h.rd.below hal).grown hg nb, (h.keep.alloc o).grown hg (fun k hk => (h.own.lt k hk).1), h.hb, ?_, by simp [h.len], ?_⟩
  · have e : (us ++ [u]).length = us.length + 1 := by simp
    rw [e]; exact hown
  · intro j y z hy hz
    have fin : ∀ (ok : Nat → Prop), (∀ g, ok g → w.heap.size ≤ g ∧ some g ≠ v.ownBlock ∧ g < wr.heap.size) → IsEx ok wr y z → IsEx (fun g => w.heap.size ≤ g ∧ some g ≠ v'.ownBlock) w2 y z := by
      intro ok hok hyz
      refine IsEx.stay (st ok fun g hg => (hok g hg).2.1) (fun g hg => ⟨(hok g hg).1, ?_⟩) y z hyz
      have h3 := hok g hg
      rcases hat with e | e
      · rw [e]; exact h3.2.1
      · rw [e]; intro e2; simp only [Option.some.injEq] at e2; omega
    by_cases hj : j < xs.length
    · rw [List.getElem?_append_left hj] at hy
      rw [List.getElem?_append_left (by rw [h.len]; exact hj)] at hz
      refine fin _ ?_ (IsEx.lt y z (h.each j y z hy hz))
      intro g hg
      exact ⟨hg.1.1, hg.1.2, hg.2⟩
    · have hj2 : j = xs.length := by
        by_cases e : j = xs.length
        · exact e
        · rw [List.getElem?_eq_none (by simp; omega)] at hy; cases hy
      subst hj2
      rw [List.getElem?_append_right (Nat.le_refl _)] at hy
      rw [List.getElem?_append_right (by rw [h.len]; exact Nat.le_refl _)] at hz
      simp only [Nat.sub_self, List.getElem?_cons_zero, Option.some.injEq] at hy
      rw [h.len] at hz
      simp only [Nat.sub_self, List.getElem?_cons_zero, Option.some.injEq] at hz
      subst hy hz
      refine fin _ ?_ (IsEx.lt x u hx)
      intro g hg
      refine ⟨by have := hg.1; omega, fun e => ?_, hg.2⟩
      have := hv g e.symm
      have := hg.1
      omega
theorem set1 (h : LS b s d w v xs us i wr) (j : Nat) : LS b s d w v xs us j (wr.setCell ⟨b, 1, none⟩ (.int .i64 (j : Int))) :=
  h.read (Keep.setCell (b := b) (p := ⟨b, 1, none⟩) (Keep.refl b wr) rfl _) (h.rd.set1 j)
end LS
/-- What reading a list comes to in memory. -/
def ReadL (b : Nat) (s : ByteArray) (d : Nat) (w : World) (r : Ex.Res (List Ex)) (e : Ending) (w' : World) : Prop :=
  match r with
  | .inl (err, p) => ∃ v i, e = .returned (.tuple #[.slice none 0 0, v]) ∧ IsErr b w' v err p ∧ Rd b s i d w' ∧ Keep b w w'
  | .inr (xs, m) => ∃ v us, e = .returned (.tuple #[v, .nilIface]) ∧ LS b s d w v xs us m w'
def comb (xs : List Ex) : Ex.Res (List Ex) → Ex.Res (List Ex)
  | .inl e => .inl e
  | .inr (ys, m) => .inr (xs ++ ys, m)
theorem comb_nil (r : Ex.Res (List Ex)) : comb [] r = r := by
  cases r with
  | inl e => rfl
  | inr p => rfl
theorem listP_err (l : List UInt8) (sep : Nat) (R : Nat → Ex.Res Ex) (f i : Nat) (xs : List Ex) (e : Nat × Nat) (h : R i = .inl e) : comb xs (Ex.listP l sep R (f + 1) i) = .inl e := by
  simp only [Ex.listP, h, comb]
theorem listP_end (l : List UInt8) (sep : Nat) (R : Nat → Ex.Res Ex) (f i : Nat) (xs : List Ex) (x : Ex) (j : Nat) (h : R i = .inr (x, j)) (hc : Ex.sg l (Ex.skip l j) ≠ sep) : comb xs (Ex.listP l sep R (f + 1) i) = .inr (xs ++ [x], Ex.skip l j) := by
  simp only [Ex.listP, h, comb, if_neg hc]
theorem listP_more (l : List UInt8) (sep : Nat) (R : Nat → Ex.Res Ex) (f i : Nat) (xs : List Ex) (x : Ex) (j : Nat) (h : R i = .inr (x, j)) (hc : Ex.sg l (Ex.skip l j) = sep) : comb xs (Ex.listP l sep R (f + 1) i) = comb (xs ++ [x]) (Ex.listP l sep R f (Ex.skip l j + 1)) := by
  simp only [Ex.listP, h, if_pos hc]
  cases Ex.listP l sep R f (Ex.skip l j + 1) with
  | inl e => rfl
  | inr p => simp [comb]
/-- a function that reads: its answer is R's -/
def Reads (K : Nat) (s : ByteArray) (d : Nat) (R : Nat → Ex.Res Ex) : Prop := ∀ (b i : Nat) (w : World), Rd b s i d w → i ≤ s.size → Calls Tryz.prog K #[.pointer (some ⟨b, 0, none⟩)] w (Read b s d w (R i))
theorem Tryz.infoExpr : (Tryz.prog.info? 23).map (fun i => (i.zero, i.size, i.bytes)) = some (some .nilIface, 1, 16) := by kernel_rfl
set_option maxHeartbeats 2000000 in
theorem list_any (K : Nat) (hent : Entered K) (b : Nat) (s : ByteArray) (i d N : Nat) (hN : s.size < N) (sep : Nat) (sepI : Int) (hsep : sepI = (sep : Int)) (hne : sep ≠ 32) (R : Nat → Ex.Res Ex) (hadv : Ex.Adv s.data.toList R) (hR : Reads K s d R) (w : World) (h : Rd b s i d w) (hi : i ≤ s.size) (hs : s.size ≤ 2000) :
    Calls Tryz.prog 44 #[.pointer (some ⟨b, 0, none⟩), .int .u8 sepI, .func (.func K) #[.pointer (some ⟨b, 0, none⟩)] #[]] w (ReadL b s d w (Ex.listP s.data.toList sep R N i)) := by
  obtain ⟨i0, hi0, hz0, hz1, hz2⟩ := info_parts Tryz.infoExpr
  have HR := hide hR
  have HA := hide hadv
  have HL : Hid (s.data.toList.length = s.size) := by show _ = _; simp
  have H := hide h
  have HSEP := hide hsep
  have HNE := hide hne
  have hent' : ∀ (args : Array Value) (w : World), (callFunc K args).run Tryz.prog w = .ok (.enter K args) w := hent
  clear hR hadv h hsep hent hne
  obtain ⟨T, hT⟩ : ∃ T, T = Ex.listP s.data.toList sep R N i := ⟨_, rfl⟩
  rw [← hT]
  have HT : Hid (T = comb [] (Ex.listP s.data.toList sep R N i)) := by
    show _ = _
    rw [comb_nil, hT]
  clear hT
  go_enter Tryz.func44, Tryz.ntmps44
  go_wp2_with fail
  go_loopg [8] N (fun n v wr => ∃ (xs : List Ex) (us : List Value) (j : Nat), j ≤ s.size ∧ s.size - j < n ∧ xs.length ≤ j ∧ LS b s d w v xs us j wr ∧ T = comb xs (Ex.listP s.data.toList sep R n j))
  case atStart => exact ⟨[], [], i, hi, by omega, Nat.zero_le _, LS.start H.out, HT.out⟩
  case round =>
    clear HT
    obtain ⟨xs, us, j, hj, hn, hxs, hls, htot⟩ := hrel
    have HLS := hide hls
    have HTOT := hide htot
    clear hls htot H
    obtain ⟨n, rfl⟩ : ∃ n, gk = n + 1 := ⟨gk - 1, by omega⟩
    go_wp2_with fail
    refine (HR.out b j wr HLS.out.rd hj).mono ?_
    intro e w1 hq
    cases hRj : R j with
    | inl p =>
      obtain ⟨err, pl⟩ := p
      rw [hRj] at hq
      obtain ⟨hk, v, i', rfl, herr, hrd⟩ := hq
      have HF : Hid (T = .inl (err, pl)) := by show _ = _; rw [HTOT.out]; exact listP_err _ _ _ _ _ _ _ hRj
      have HE := hide herr
      have HD := hide hrd
      have HK := hide hk
      obtain ⟨a, ha, hv, hc0, hc1⟩ := herr
      clear hrd hk hRj ha hc0 hc1
      rw [hv] at HE
      rw [hv]
      clear hv
      go_wp2_with fail
      go_ret2
      rw [HF.out]
      exact ⟨_, i', rfl, HE.out, HD.out, HLS.out.keep.trans HK.out⟩
    | inr p =>
      obtain ⟨x, m⟩ := p
      rw [hRj] at hq
      obtain ⟨hk, u, rfl, hx, hrd⟩ := hq
      have hadv := HA.out j x m (by rw [HL.out]; exact hj) hRj
      rw [HL.out] at hadv
      have HRJ := hide hRj
      have HX := hide hx
      have L1 := hide (HLS.out.read hk hrd)
      have HB : Hid (∀ k, u8.ownBlock = some k → k < wr.heap.size) := fun k hk => (HLS.out.own.lt k hk).2
      have HW : Hid (w.heap.size ≤ wr.heap.size) := HLS.out.keep.size
      have hus := HLS.out.len
      obtain ⟨tu, yu, hu⟩ := IsEx.iface x u hx
      clear hrd hk hRj hx
      subst hu
      have HOWN := hide (L1.out.own.alloc (.cells #[.iface tu yu] 23))
      have hul : us.length ≤ 2000 := by rw [hus]; omega
      clear hus
      have hbs : w.heap.size ≤ w1.heap.size := L1.out.keep.size
      go_wp2_with (at_builtin; refine wpList_append_own_at _ rfl (.tmp 19) (.tmp 21) 83 rfl w.heap.size 23 i0 .nilIface 1 16 Tryz.underlying83 hi0 hz0 hz1 hz2 rfl (by decide) _ us.length us rfl HOWN.out ⟨w1.heap.size, 0, none⟩ 1 1 [.iface tu yu] rfl rfl (cell_one_new _ _ _) ?c2 ?c3 ?c4 ?c5 ?_)
      case c2 => intro z hz; simp at hz; subst hz; rfl
      case c3 => unfold maxLen; omega
      case c4 => omega
      case c5 => simp; omega
      intro v' w2 hown' hgrow _ hat
      have L2 := hide (L1.out.push HW.out HB.out HX.out hgrow hown' hat)
      clear hown' hgrow hat HOWN L1 HX HB
      have hge := Ex.skip_ge s.data.toList m
      have hle := Ex.skip_le s.data.toList m (by rw [HL.out]; omega)
      rw [HL.out] at hle
      have HS := hide (sign_any b s m d w2 L2.out.rd (by omega) hs)
      have HEND : Hid (Ex.sg s.data.toList (Ex.skip s.data.toList m) ≠ sep → T = .inr (xs ++ [x], Ex.skip s.data.toList m)) := fun hc => by rw [HTOT.out]; exact listP_end _ _ _ _ _ _ _ _ HRJ.out hc
      have HMORE : Hid (Ex.sg s.data.toList (Ex.skip s.data.toList m) = sep → Ex.skip s.data.toList m < s.size ∧ T = comb (xs ++ [x]) (Ex.listP s.data.toList sep R n (Ex.skip s.data.toList m + 1))) := fun hc =>
        ⟨by have := Ex.sg_lt s.data.toList _ (by rw [hc]; exact HNE.out); rw [HL.out] at this; exact this, by rw [HTOT.out]; exact listP_more _ _ _ _ _ _ _ _ HRJ.out hc⟩
      generalize Ex.skip s.data.toList m = q at *
      generalize Ex.sg s.data.toList q = c at *
      go_wp2_with fail
      refine HS.out.mono ?_
      rintro e w3 ⟨rfl, hr3, hk3⟩
      have L3 := hide (L2.out.read hk3 hr3)
      clear L2 HS
      obtain ⟨c0, c1, c2, f1, f2⟩ := hr3
      clear hk3
      by_cases hc : c = sep
      · have hm := HMORE.out hc
        have hq := hm.1
        have HT2 := hide hm.2
        have e1 : ((c : Int) != sepI) = false := by rw [HSEP.out, hc]; simp
        clear hm hc HMORE HEND
        go_wp2_with fail
        go_roundg n
        case measure => omega
        case rel => exact ⟨xs ++ [x], us ++ [.iface tu yu], q + 1, by omega, by omega, by simp; omega, L3.out.set1 (q + 1), HT2.out⟩
      · have HT2 := hide (HEND.out hc)
        have e1 : ((c : Int) != sepI) = true := by rw [HSEP.out]; simp; omega
        clear hc HMORE HEND
        go_wp2_with fail
        go_ret2
        rw [HT2.out]
        exact ⟨_, _, rfl, L3.out⟩
end Go.Proofs.YtblfeahbpklgiaaGreatDoor
