/-
  The walks of package machine's states and state.
-/
import Derived.Test.YtgdmohombcgjbaaGreatDoorMcPartsAll
import Derived.Deep.DeepCutAuto
namespace Go.Proofs.YtgdmohombcgjbaaGreatDoor
open Go.RowKit
namespace Mc
theorem total_cons (x : Nat × Bool) (l : List (Nat × Bool)) : total (x :: l) = x.1 * total l := rfl
theorem total_append : ∀ (a b : List (Nat × Bool)), total (a ++ b) = total a * total b
  | [], b => by simp [total]
  | x :: a, b => by rw [List.cons_append, total_cons, total_append a b, total_cons, Nat.mul_assoc]
theorem total_snoc (a : List (Nat × Bool)) (x : Nat × Bool) : total (a ++ [x]) = total a * x.1 := by
  rw [total_append]
  simp [total]
theorem total_le (l : List (Nat × Bool)) (h : ∀ x, x ∈ l → okP x) (k : Nat) : total (l.take k) ≤ total l := by
  have e : total l = total (l.take k) * total (l.drop k) := by rw [← total_append, List.take_append_drop]
  rw [e]
  have := total_pos (l.drop k) (fun x hx => h x (List.mem_of_mem_drop hx))
  exact Nat.le_mul_of_pos_right _ this
theorem parts_le (p : Ld.Prg) (hck : Ld.check p = none) : ∀ x, x ∈ parts p → x.1 ≤ 8 := by
  intro x hx
  obtain ⟨k, hk, rfl⟩ := List.mem_map.1 hx
  have hkl := List.mem_range.1 hk
  obtain ⟨_, _, m3, m4⟩ := Sc.may p hck k hkl
  unfold part
  rw [List.getElem?_eq_getElem hkl]
  simp only
  by_cases h4 : p.names[k].kind = 3 ∨ p.names[k].kind = 4
  · rw [if_pos h4]; have := (m3 (by omega)).2; simp only; omega
  · rw [if_neg h4]
    repeat' split
    all_goals decide
/-- what is left of a number behind the first k parts -/
def rest (l : List (Nat × Bool)) (m : Nat) : Nat → Nat
  | 0 => m
  | k + 1 => rest l m k / (l.getD k (1, false)).1
theorem rest_cons (x : Nat × Bool) (r : List (Nat × Bool)) (m : Nat) : ∀ k, rest (x :: r) m (k + 1) = rest r (m / x.1) k
  | 0 => rfl
  | k + 1 => by
    show rest (x :: r) m (k + 1) / ((x :: r).getD (k + 1) (1, false)).1 = rest r (m / x.1) k / (r.getD k (1, false)).1
    rw [rest_cons x r m k]
    simp
theorem rest_le (l : List (Nat × Bool)) (m : Nat) : ∀ k, rest l m k ≤ m
  | 0 => Nat.le_refl _
  | k + 1 => Nat.le_trans (Nat.div_le_self _ _) (rest_le l m k)
theorem rest_succ (l : List (Nat × Bool)) (m k : Nat) (hk : k < l.length) : rest l m (k + 1) = rest l m k / l[k].1 := by
  show rest l m k / (l.getD k (1, false)).1 = _
  simp [hk]
theorem stateI_at : ∀ (l : List (Nat × Bool)) (m k : Nat) (hk : k < l.length), (stateI l m)[k]? = some (decide (1 < l[k].1) && decide (rest l m k % l[k].1 = l[k].1 - 1)) ∧ (stateC l m)[k]? = some (if l[k].2 then ((rest l m k % l[k].1 : Nat) : Int) else 0)
  | [], _, _, hk => by simp at hk
  | x :: r, m, 0, _ => ⟨rfl, rfl⟩
  | x :: r, m, k + 1, hk => by
    have ih := stateI_at r (m / x.1) k (by simpa using hk)
    simp only [stateI, stateC, List.getElem?_cons_succ, List.getElem_cons_succ, rest_cons]
    exact ih
theorem state_take (l : List (Nat × Bool)) (m k : Nat) (hk : k < l.length) : (stateI l m).take (k + 1) = (stateI l m).take k ++ [decide (1 < l[k].1) && decide (rest l m k % l[k].1 = l[k].1 - 1)] ∧ (stateC l m).take (k + 1) = (stateC l m).take k ++ [if l[k].2 then ((rest l m k % l[k].1 : Nat) : Int) else 0] := by
  obtain ⟨h1, h2⟩ := stateI_at l m k hk
  have hi : k < (stateI l m).length := by rw [stateI_len]; exact hk
  have hc : k < (stateC l m).length := by rw [stateC_len]; exact hk
  rw [List.getElem?_eq_getElem hi] at h1
  rw [List.getElem?_eq_getElem hc] at h2
  rw [List.take_succ_eq_append_getElem hi, List.take_succ_eq_append_getElem hc, Option.some.inj h1, Option.some.inj h2]
  exact ⟨rfl, rfl⟩
end Mc
/-- what states comes to -/
def Stated (w : World) (l : List (Nat × Bool)) (e : Ending) (w' : World) : Prop := e = .returned (.tuple (if Mc.total l ≤ 4096 then #[.int .i64 (Mc.total l : Int), .bool true] else #[.int .i64 0, .bool false])) ∧ Below w.heap.size w w'
theorem pt_cell {W : World} {g : Nat} {l : List (Nat × Bool)} (h : RowIs W g 117 (l.flatMap ptCells)) (k : Nat) (hk : k < l.length) : W.cell? ⟨g, k * 2, none⟩ = some (.int .i64 (l[k].1 : Int)) ∧ W.cell? ⟨g, k * 2 + 1, none⟩ = some (.bool l[k].2) :=
  ⟨h.cell _ _ (flat2 ptCells (fun _ => rfl) l k _ (List.getElem?_eq_getElem hk) 0 (by omega)), h.cell _ _ (flat2 ptCells (fun _ => rfl) l k _ (List.getElem?_eq_getElem hk) 1 (by omega))⟩
set_option maxHeartbeats 4000000 in
set_option maxRecDepth 100000 in
theorem states_any (l : List (Nat × Bool)) (g : Nat) (w : World) (h : RowIs w g 117 (l.flatMap ptCells)) (hl : l.length ≤ 12) (hok : ∀ x, x ∈ l → Mc.okP x) (h8 : ∀ x, x ∈ l → x.1 ≤ 8) :
    Calls Tryz.prog 24 #[slV g l.length] w (Stated w l) := by
  have HR := hide h
  have HOK := hide hok
  have H8 := hide h8
  obtain ⟨n, hnn⟩ : ∃ n, n = l.length := ⟨_, rfl⟩
  have HN := hide hnn
  rw [← hnn] at hl ⊢
  clear h hok h8 hnn
  unfold slV
  go_enter Tryz.func24, Tryz.ntmps24
  go_wp2_with fail
  go_loopw [4, 9] (fun c i wr => ∃ k : Nat, k ≤ n ∧ i = .int .i64 (k : Int) ∧ c = .int .i64 (Mc.total (l.take k) : Int) ∧ Mc.total (l.take k) ≤ 4096 ∧ Hid (Below w.heap.size w wr)) (fun _ i _ => n - (intOf i).toNat)
  case atStart => exact ⟨0, Nat.zero_le _, rfl, rfl, by simp [Mc.total], Below.refl _ _⟩
  case round =>
    obtain ⟨k, hk, rfl, rfl, h40, HB⟩ := hrel
    by_cases hlt : k < n
    · have hkl : k < l.length := by rw [← HN.out]; exact hlt
      obtain ⟨c0, c1⟩ := pt_cell (HR.out.below HB.out) k hkl
      have hgl : g < wr.heap.size := World.block_lt_of_cell? _ _ c0
      have HTS : Hid (Mc.total (l.take (k + 1)) = Mc.total (l.take k) * l[k].1) := by show _ = _; rw [List.take_succ_eq_append_getElem hkl, Mc.total_snoc]
      have hle := Mc.total_le l HOK.out (k + 1)
      have HBN : Hid (∀ o, Below w.heap.size w (wr.alloc o)) := fun o => HB.out.alloc HB.out.size o
      have h8k := H8.out _ (List.getElem_mem hkl)
      generalize l[k] = x at *
      obtain ⟨of, cnt⟩ := x
      simp only at c0 c1 HTS h8k
      obtain ⟨t, ht⟩ : ∃ t, t = Mc.total (l.take k) * of := ⟨_, rfl⟩
      have htb : t ≤ 32768 := by rw [ht]; exact Nat.mul_le_mul h40 h8k
      have hti : ((Mc.total (l.take k) : Nat) : Int) * (of : Int) = (t : Int) := by rw [ht, Int.natCast_mul]
      rw [← ht] at HTS
      clear ht
      by_cases hbig : 4096 < t
      · have hbi : (4096 : Int) < (t : Int) := by omega
        have HTOT : Hid (¬ Mc.total l ≤ 4096) := by show ¬ _; rw [HTS.out] at hle; omega
        go_wp2_with fail
        refine bodyPost_ret_by (v := .tuple #[.int .i64 0, .bool false]) ?_ rfl ?_
        · simp [results, Tryz.results24, go_sem]
        · exact ⟨by rw [if_neg HTOT.out], HBN.out _⟩
      · have hbi : ¬ (4096 : Int) < (t : Int) := by omega
        go_wp2_with fail
        exact ⟨⟨k + 1, by omega, by go_num, by rw [HTS.out], by rw [HTS.out]; omega, HBN.out _⟩, by simp [intOf]; omega⟩
    · have hkn : k = n := by omega
      have e : l.take k = l := List.take_of_length_le (by rw [← HN.out]; omega)
      rw [e] at h40 ⊢
      subst hkn
      go_wp2_with fail
      refine bodyPost_ret_by (v := .tuple #[.int .i64 (Mc.total l : Int), .bool true]) ?_ rfl ?_
      · simp [results, Tryz.results24, go_sem]
      · exact ⟨by rw [if_pos h40], HB.out⟩
/-- a new state's two rows, and a variable that holds them -/
def MadeSt (w : World) (n : Nat) (cb ci : List Value) (t : Value) (wx : World) : Prop := ∃ b gi gc : Nat, t = .pointer (some ⟨b, 0, none⟩) ∧ (w.heap.size < b ∧ w.heap.size < gi ∧ w.heap.size < gc) ∧ wx.heap[w.heap.size]? = some (.cells #[.slice none 0 0, .slice none 0 0] 123 (0, 0)) ∧ wx.heap[b]? = some (.cells #[.slice (some ⟨gi, 0, none⟩) n n, .slice (some ⟨gc, 0, none⟩) n n] 123 (0, 0)) ∧ wx.heap[gi]? = some (.cells ⟨cb⟩ 4 (0, 0)) ∧ wx.heap[gc]? = some (.cells ⟨ci⟩ 3 (0, 0)) ∧ Below w.heap.size w wx
theorem made_st {w : World} {n : Nat} {cb ci : List Value} {t : Value} {wx : World} {b gi gc : Nat} (ht : t = .pointer (some ⟨b, 0, none⟩)) (hz : wx.heap[w.heap.size]? = some (.cells #[.slice none 0 0, .slice none 0 0] 123 (0, 0))) (hb : wx.heap[b]? = some (.cells #[.slice (some ⟨gi, 0, none⟩) n n, .slice (some ⟨gc, 0, none⟩) n n] 123 (0, 0))) (h1 : wx.heap[gi]? = some (.cells ⟨cb⟩ 4 (0, 0))) (h2 : wx.heap[gc]? = some (.cells ⟨ci⟩ 3 (0, 0))) (hl : Below w.heap.size w wx) (l0 : w.heap.size < b) (l1 : w.heap.size < gi) (l2 : w.heap.size < gc) : MadeSt w n cb ci t wx :=
  ⟨b, gi, gc, ht, ⟨l0, l1, l2⟩, hz, hb, h1, h2, hl⟩
theorem c4a (w : World) (o1 o2 o3 o4 : Obj) : ((((w.alloc o1).alloc o2).alloc o3).alloc o4).drew.heap[w.heap.size]? = some o1 := (cells4 w o1 o2 o3 o4).1
theorem c4b (w : World) (o1 o2 o3 o4 : Obj) : ((((w.alloc o1).alloc o2).alloc o3).alloc o4).drew.heap[w.heap.size + 1]? = some o2 := (cells4 w o1 o2 o3 o4).2.1
theorem c4c (w : World) (o1 o2 o3 o4 : Obj) : ((((w.alloc o1).alloc o2).alloc o3).alloc o4).drew.heap[w.heap.size + 1 + 1]? = some o3 := (cells4 w o1 o2 o3 o4).2.2.1
theorem c4d (w : World) (o1 o2 o3 o4 : Obj) : ((((w.alloc o1).alloc o2).alloc o3).alloc o4).drew.heap[w.heap.size + 1 + 1 + 1]? = some o4 := (cells4 w o1 o2 o3 o4).2.2.2.1
theorem c4e (w : World) (o1 o2 o3 o4 : Obj) : Below w.heap.size w ((((w.alloc o1).alloc o2).alloc o3).alloc o4).drew := (cells4 w o1 o2 o3 o4).2.2.2.2
set_option maxHeartbeats 4000000 in
set_option maxRecDepth 100000 in
theorem state_any (l : List (Nat × Bool)) (g m : Nat) (w : World) (h : RowIs w g 117 (l.flatMap ptCells)) (hl : l.length ≤ 12) (hok : ∀ x, x ∈ l → Mc.okP x) (h8 : ∀ x, x ∈ l → x.1 ≤ 8) (hm : m ≤ 100000) :
    Calls Tryz.prog 55 #[slV g l.length, .int .i64 (m : Int)] w (NewSt w (Mc.state l m)) := by
  have HR := hide h
  have HOK := hide hok
  have H8 := hide h8
  obtain ⟨n, hnn⟩ : ∃ n, n = l.length := ⟨_, rfl⟩
  have HN := hide hnn
  rw [← hnn] at hl ⊢
  have m1 := fun w => makeBs n (by omega) w
  have m2 := fun w => makeIs n (by omega) w
  obtain ⟨cb, hcb⟩ : ∃ cb, cb = List.replicate n (Value.bool false) := ⟨_, rfl⟩
  obtain ⟨ci, hci⟩ : ∃ ci, ci = List.replicate n (Value.int .i64 0) := ⟨_, rfl⟩
  rw [← hcb] at m1
  rw [← hci] at m2
  have HCB := hide hcb
  have HCI := hide hci
  clear h hok h8 hnn hcb hci
  unfold slV
  go_enter Tryz.func55, Tryz.ntmps55
  go_upto_region 1 with fail
  go_cut [5] (fun t wx => MadeSt w n cb ci t wx)
  case first =>
    go_region
    all_goals
      go_wp2_with fail
      go_meet
      apply made_st rfl
      · exact c4a _ _ _ _ _
      · first | exact c4b _ _ _ _ _ | exact c4c _ _ _ _ _ | exact c4d _ _ _ _ _
      · first | exact c4b _ _ _ _ _ | exact c4c _ _ _ _ _ | exact c4d _ _ _ _ _
      · first | exact c4b _ _ _ _ _ | exact c4c _ _ _ _ _ | exact c4d _ _ _ _ _
      · exact c4e _ _ _ _ _
      · omega
      · omega
      · omega
  case rest =>
    obtain ⟨b, gi, gc, rfl, ⟨hb0, hg0, hg1⟩, hz, hb, hgi, hgc, hbel⟩ := hcut
    have hbgi : b ≠ gi := fun e => by subst e; rw [hb] at hgi; simp only [Option.some.injEq, Obj.cells.injEq] at hgi; exact absurd hgi.2.1 (by decide)
    have hbgc : b ≠ gc := fun e => by subst e; rw [hb] at hgc; simp only [Option.some.injEq, Obj.cells.injEq] at hgc; exact absurd hgc.2.1 (by decide)
    have hgigc : gi ≠ gc := fun e => by subst e; rw [hgi] at hgc; simp only [Option.some.injEq, Obj.cells.injEq] at hgc; exact absurd hgc.2.1 (by decide)
    have HZ := hide hz
    have HB := hide hb
    have HGI : Hid (RowIs wc gi 4 (((Mc.stateI l m).take 0).map boolV ++ List.replicate (n - (((Mc.stateI l m).take 0).map boolV).length) (.bool false))) := by rw [HCB.out] at hgi; exact hgi
    have HGC : Hid (RowIs wc gc 3 (((Mc.stateC l m).take 0).map iV ++ List.replicate (n - (((Mc.stateC l m).take 0).map iV).length) (.int .i64 0))) := by rw [HCI.out] at hgc; exact hgc
    have HBEL := hide hbel
    clear hz hb hgi hgc hbel m1 m2
    go_wp2_with fail
    go_loopw [1, 18] (fun c i wr => ∃ k : Nat, k ≤ n ∧ i = .int .i64 (k : Int) ∧ c = .int .i64 (Mc.rest l m k : Int) ∧ Hid (wr.heap[w.heap.size]? = some (.cells #[.slice none 0 0, .slice none 0 0] 123 (0, 0))) ∧ Hid (wr.heap[b]? = some (.cells #[.slice (some ⟨gi, 0, none⟩) n n, .slice (some ⟨gc, 0, none⟩) n n] 123 (0, 0))) ∧
      Hid (RowIs wr gi 4 (((Mc.stateI l m).take k).map boolV ++ List.replicate (n - (((Mc.stateI l m).take k).map boolV).length) (.bool false))) ∧ Hid (RowIs wr gc 3 (((Mc.stateC l m).take k).map iV ++ List.replicate (n - (((Mc.stateC l m).take k).map iV).length) (.int .i64 0))) ∧ Hid (Below w.heap.size w wr)) (fun _ i _ => n - (intOf i).toNat)
    case atStart => exact ⟨0, Nat.zero_le _, rfl, rfl, HZ.out, HB.out, HGI.out, HGC.out, HBEL.out⟩
    case round =>
      clear HZ HB HGI HGC HBEL
      obtain ⟨k, hk, rfl, rfl, HZ, HB, HGI, HGC, HBEL⟩ := hrel
      have hzl : w.heap.size < wr.heap.size := (Array.getElem?_eq_some_iff.1 HZ.out).1
      have hbl : b < wr.heap.size := (Array.getElem?_eq_some_iff.1 HB.out).1
      have hgil := HGI.out.lt
      have hgcl := HGC.out.lt
      have v0 : wr.cell? ⟨b, 0, none⟩ = some (.slice (some ⟨gi, 0, none⟩) n n) := by rw [Lib.cell_of_heap HB.out]; rfl
      have v1 : wr.cell? ⟨b, 1, none⟩ = some (.slice (some ⟨gc, 0, none⟩) n n) := by rw [Lib.cell_of_heap HB.out]; rfl
      have hli : (((Mc.stateI l m).take k).map boolV).length = k := by rw [List.length_map, List.length_take, Mc.stateI_len, ← HN.out]; omega
      have hlc : (((Mc.stateC l m).take k).map iV).length = k := by rw [List.length_map, List.length_take, Mc.stateC_len, ← HN.out]; omega
      by_cases hlt : k < n
      · have hkl : k < l.length := by rw [← HN.out]; exact hlt
        obtain ⟨c0, c1⟩ := pt_cell (HR.out.below HBEL.out) k hkl
        have hgl : g < wr.heap.size := World.block_lt_of_cell? _ _ c0
        have r0 : wr.cell? ⟨gi, k, none⟩ = some (.bool false) := HGI.out.cell k _ (by rw [List.getElem?_append_right (by omega), List.getElem?_replicate, if_pos (by omega)])
        have r1 : wr.cell? ⟨gc, k, none⟩ = some (.int .i64 0) := HGC.out.cell k _ (by rw [List.getElem?_append_right (by omega), List.getElem?_replicate, if_pos (by omega)])
        have f0 := HGI.out.frozen k
        have f1 := HGC.out.frozen k
        obtain ⟨t1, t2⟩ := Mc.state_take l m k hkl
        have hrs := Mc.rest_succ l m k hkl
        have hrl := Mc.rest_le l m k
        have hok := (HOK.out _ (List.getElem_mem hkl)).1
        have h8k := H8.out _ (List.getElem_mem hkl)
        have HSI : Hid (∀ bv, (Mc.stateI l m).take (k + 1) = (Mc.stateI l m).take k ++ [bv] → RowIs (wr.setCell ⟨gi, k, none⟩ (.bool bv)) gi 4 (((Mc.stateI l m).take (k + 1)).map boolV ++ List.replicate (n - (((Mc.stateI l m).take (k + 1)).map boolV).length) (.bool false))) := by
          intro bv hbv
          have h1 := HGI.out.set k (.bool bv)
          have h2 := fill_set (((Mc.stateI l m).take k).map boolV) (.bool false) (.bool bv) n (by omega)
          rw [hli] at h2
          rw [hli, h2] at h1
          rw [hbv, List.map_append]
          exact h1
        have HSC : Hid (∀ (W : World) cv, RowIs W gc 3 (((Mc.stateC l m).take k).map iV ++ List.replicate (n - (((Mc.stateC l m).take k).map iV).length) (.int .i64 0)) → (Mc.stateC l m).take (k + 1) = (Mc.stateC l m).take k ++ [cv] → RowIs (W.setCell ⟨gc, k, none⟩ (.int .i64 cv)) gc 3 (((Mc.stateC l m).take (k + 1)).map iV ++ List.replicate (n - (((Mc.stateC l m).take (k + 1)).map iV).length) (.int .i64 0))) := by
          intro W cv hW hcv
          have h1 := hW.set k (.int .i64 cv)
          have h2 := fill_set (((Mc.stateC l m).take k).map iV) (.int .i64 0) (.int .i64 cv) n (by omega)
          rw [hlc] at h2
          rw [hlc, h2] at h1
          rw [hcv, List.map_append]
          exact h1
        have HS0 : Hid ((Mc.stateC l m).take (k + 1) = (Mc.stateC l m).take k ++ [0] → RowIs wr gc 3 (((Mc.stateC l m).take (k + 1)).map iV ++ List.replicate (n - (((Mc.stateC l m).take (k + 1)).map iV).length) (.int .i64 0))) := by
          intro hcv
          have h1 := HGC.out
          have e : List.replicate (n - k) (Value.int .i64 0) = [.int .i64 0] ++ List.replicate (n - (k + 1)) (.int .i64 0) := by
            obtain ⟨d, hd⟩ : ∃ d, n - k = d + 1 := ⟨n - k - 1, by omega⟩
            rw [hd, show n - (k + 1) = d by omega, List.replicate_succ]; rfl
          have hlen : (((Mc.stateC l m).take k ++ [0]).map iV).length = k + 1 := by rw [List.map_append, List.length_append, hlc]; rfl
          rw [hlc, e] at h1
          rw [hcv, hlen, List.map_append, List.append_assoc]
          exact h1
        generalize l[k] = x at *
        obtain ⟨of, cnt⟩ := x
        simp only at c0 c1 t1 t2 hrs hok h8k
        have HT1 := hide t1
        have HT2 := hide t2
        have HRS := hide hrs
        obtain ⟨rs, hrse⟩ : ∃ rs, rs = Mc.rest l m k := ⟨_, rfl⟩
        rw [← hrse] at hrl HT1 HT2 HRS ⊢
        have htm : Int.tmod (rs : Int) (of : Int) = ((rs % of : Nat) : Int) := (Int.ofNat_tmod rs of).symm
        have htd : Int.tdiv (rs : Int) (of : Int) = ((rs / of : Nat) : Int) := (Int.ofNat_tdiv rs of).symm
        have hml : rs % of < of := Nat.mod_lt _ (by omega)
        have hdl : rs / of ≤ rs := Nat.div_le_self _ _
        clear t1 t2 hrs hrse
        generalize rs % of = md at *
        generalize rs / of = dv at *
        have hof0 : (of : Int) ≠ 0 := by omega
        by_cases h1o : 1 < of
        · have h1i : (1 : Int) < (of : Int) := by omega
          cases cnt with
          | true =>
            go_wp2_with fail
            go_roundw
            case rel =>
              refine ⟨k + 1, by omega, by go_num, by rw [HRS.out], ?_, ?_, ?_, ?_, ?_⟩
              · rw [Below.heap_alloc _ _ _ (by simp [World.setCell]; omega), Below.heap_setCell _ _ _ _ (fun e => by simp at e; omega), Below.heap_setCell _ _ _ _ (fun e => by simp at e; omega)]; exact HZ.out
              · rw [Below.heap_alloc _ _ _ (by simp [World.setCell]; omega), Below.heap_setCell _ _ _ _ (fun e => hbgc e), Below.heap_setCell _ _ _ _ (fun e => hbgi e)]; exact HB.out
              · refine (((HSI.out _ (HT1.out.trans ?_)).other gc k _ hgigc)).alloc _
                rw [decide_eq_true h1o, Bool.true_and, show decide (md = of - 1) = ((md : Int) == (of : Int) - 1) by rw [Bool.eq_iff_iff]; simp; omega]
              · exact (HSC.out _ _ (HGC.out.other gi k _ (Ne.symm hgigc)) HT2.out).alloc _
              · exact ((HBEL.out.setCell (p := ⟨gi, k, none⟩) (Nat.le_of_lt hg0) _).setCell (p := ⟨gc, k, none⟩) (Nat.le_of_lt hg1) _).alloc (by simp [World.setCell]; omega) _
            case measure => simp [intOf]; omega
          | false =>
            go_wp2_with fail
            go_roundw
            case rel =>
              refine ⟨k + 1, by omega, by go_num, by rw [HRS.out], ?_, ?_, ?_, ?_, ?_⟩
              · rw [Below.heap_alloc _ _ _ (by simp [World.setCell]; omega), Below.heap_setCell _ _ _ _ (fun e => by simp at e; omega)]; exact HZ.out
              · rw [Below.heap_alloc _ _ _ (by simp [World.setCell]; omega), Below.heap_setCell _ _ _ _ (fun e => hbgi e)]; exact HB.out
              · refine (HSI.out _ (HT1.out.trans ?_)).alloc _
                rw [decide_eq_true h1o, Bool.true_and, show decide (md = of - 1) = ((md : Int) == (of : Int) - 1) by rw [Bool.eq_iff_iff]; simp; omega]
              · exact ((HS0.out HT2.out).other gi k _ (Ne.symm hgigc)).alloc _
              · exact (HBEL.out.setCell (p := ⟨gi, k, none⟩) (Nat.le_of_lt hg0) _).alloc (by simp [World.setCell]; omega) _
            case measure => simp [intOf]; omega
        · have h1i : decide ((1 : Int) < (of : Int)) = false := decide_eq_false (by omega)
          cases cnt with
          | true =>
            go_wp2_with fail
            go_roundw
            case rel =>
              refine ⟨k + 1, by omega, by go_num, by rw [HRS.out], ?_, ?_, ?_, ?_, ?_⟩
              · rw [Below.heap_alloc _ _ _ (by simp [World.setCell]; omega), Below.heap_setCell _ _ _ _ (fun e => by simp at e; omega), Below.heap_setCell _ _ _ _ (fun e => by simp at e; omega)]; exact HZ.out
              · rw [Below.heap_alloc _ _ _ (by simp [World.setCell]; omega), Below.heap_setCell _ _ _ _ (fun e => hbgc e), Below.heap_setCell _ _ _ _ (fun e => hbgi e)]; exact HB.out
              · refine (((HSI.out _ (HT1.out.trans ?_)).other gc k _ hgigc)).alloc _
                rw [show decide (1 < of) = false from decide_eq_false h1o, Bool.false_and]
              · exact (HSC.out _ _ (HGC.out.other gi k _ (Ne.symm hgigc)) HT2.out).alloc _
              · exact ((HBEL.out.setCell (p := ⟨gi, k, none⟩) (Nat.le_of_lt hg0) _).setCell (p := ⟨gc, k, none⟩) (Nat.le_of_lt hg1) _).alloc (by simp [World.setCell]; omega) _
            case measure => simp [intOf]; omega
          | false =>
            go_wp2_with fail
            go_roundw
            case rel =>
              refine ⟨k + 1, by omega, by go_num, by rw [HRS.out], ?_, ?_, ?_, ?_, ?_⟩
              · rw [Below.heap_alloc _ _ _ (by simp [World.setCell]; omega), Below.heap_setCell _ _ _ _ (fun e => by simp at e; omega)]; exact HZ.out
              · rw [Below.heap_alloc _ _ _ (by simp [World.setCell]; omega), Below.heap_setCell _ _ _ _ (fun e => hbgi e)]; exact HB.out
              · refine (HSI.out _ (HT1.out.trans ?_)).alloc _
                rw [show decide (1 < of) = false from decide_eq_false h1o, Bool.false_and]
              · exact ((HS0.out HT2.out).other gi k _ (Ne.symm hgigc)).alloc _
              · exact (HBEL.out.setCell (p := ⟨gi, k, none⟩) (Nat.le_of_lt hg0) _).alloc (by simp [World.setCell]; omega) _
            case measure => simp [intOf]; omega
      · have hkn : k = n := by omega
        have z0 : wr.cell? ⟨w.heap.size, 0, none⟩ = some (.slice none 0 0) := by rw [Lib.cell_of_heap HZ.out]; rfl
        have z1 : wr.cell? ⟨w.heap.size, 1, none⟩ = some (.slice none 0 0) := by rw [Lib.cell_of_heap HZ.out]; rfl
        have z2 : wr.frozen? ⟨w.heap.size, 0, none⟩ = false := Lib.frozen_of_heap HZ.out 0
        have z3 : wr.frozen? ⟨w.heap.size, 1, none⟩ = false := Lib.frozen_of_heap HZ.out 1
        have HFI : Hid (RowIs wr gi 4 ((Mc.stateI l m).map boolV)) := by
          have h1 := HGI.out
          rw [hli, hkn, Nat.sub_self, List.replicate_zero, List.append_nil, List.take_of_length_le (by rw [Mc.stateI_len, ← HN.out]; exact Nat.le_refl _)] at h1
          exact h1
        have HFC : Hid (RowIs wr gc 3 ((Mc.stateC l m).map iV)) := by
          have h1 := HGC.out
          rw [hlc, hkn, Nat.sub_self, List.replicate_zero, List.append_nil, List.take_of_length_le (by rw [Mc.stateC_len, ← HN.out]; exact Nat.le_refl _)] at h1
          exact h1
        subst hkn
        go_wp2_with fail
        refine bodyPost_ret_by (v := stV gi gc k) ?_ rfl ?_
        · simp [results, Tryz.results55, go_sem, stV, z0, z1]
        · refine ⟨gi, gc, ?_, ⟨?_, ?_⟩, by omega, by omega, ?_⟩
          · have : (Mc.state l m).is.length = k := by show (Mc.stateI l m).length = _; rw [Mc.stateI_len]; exact HN.out.symm
            rw [this]
          · exact (HFI.out.other w.heap.size 0 _ (by omega)).other w.heap.size 1 _ (by omega)
          · exact (HFC.out.other w.heap.size 0 _ (by omega)).other w.heap.size 1 _ (by omega)
          · exact (HBEL.out.setCell (p := ⟨w.heap.size, 0, none⟩) (Nat.le_refl _) _).setCell (p := ⟨w.heap.size, 1, none⟩) (Nat.le_refl _) _
end Go.Proofs.YtgdmohombcgjbaaGreatDoor
