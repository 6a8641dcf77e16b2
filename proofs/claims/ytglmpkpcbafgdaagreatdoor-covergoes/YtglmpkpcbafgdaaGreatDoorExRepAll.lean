/-
  Plain mathematics of tours: the nearest way that was not gone is looked for; how one comes there. The walks of chapter 1's names: package expr's isLetter, isDigit, isKept, Name. What the walks of package expr's reader go by: the reader's cells in memory; that all else is as it was. (Out of RdBase: no function is named.) Expressions in memory, as package expr lays them: an interface value; And and Or are rows of such. 'ok' says which blocks those rows may lie in.
-/
import Derived.Test.YtglmpkpcbafgdaaGreatDoorTrMathAll
import Derived.Test.YtglmpkpcbafgdaaGreatDoorRows
import Derived.Test.YtglmpkpcbafgdaaGreatDoorNmMath
import Derived.WalkKit
import Derived.WalkSpells
import Derived.WalkLawsBesides
import Derived.Test.YtglmpkpcbafgdaaGreatDoorRtBoundAll
import Derived.Deep.QuietTactic
import Derived.BigQuiet
import Derived.Deep.LoopGhost
import Derived.Lib.Bytealg
namespace Go.Proofs.YtglmpkpcbafgdaaGreatDoor
section
namespace Tr
/-- how a state was met -/
structure Mt where
  s : Nat
  frm : Nat
  by_ : Nat
/-- what stands while one looks: the first k of those met have no way left -/
structure Near (next : Nat → List Nat) (I S : Nat) (G : List Nat) (a : Nat) (met : List Mt) (seen : List Bool) (k : Nat) : Prop where
  lenS : seen.length = S
  first : met[0]? = some ⟨a, 0, 0⟩
  low : ∀ (j : Nat) m, met[j]? = some m → m.s < S
  seen : ∀ s, s < S → (seen.getD s false = true ↔ s ∈ met.map Mt.s)
  nd : (met.map Mt.s).Nodup
  par : ∀ (j : Nat) m, 0 < j → met[j]? = some m → ∃ f, m.frm < j ∧ met[m.frm]? = some f ∧ (next f.s)[m.by_]? = some m.s ∧ G.getD f.s 0 = I ∧ m.by_ < I
  done : ∀ (j : Nat) m, j < k → met[j]? = some m → G.getD m.s 0 = I
theorem Near.few {next : Nat → List Nat} {I S : Nat} {G : List Nat} {a : Nat} {met : List Mt} {seen : List Bool} {k : Nat} (h : Near next I S G a met seen k) : met.length ≤ S := by
  have h1 : ∀ x, x ∈ met.map Mt.s → x ∈ List.range S := fun x hx => by
    obtain ⟨m, hm, rfl⟩ := List.mem_map.1 hx
    obtain ⟨j, hj, e⟩ := List.getElem_of_mem hm
    exact List.mem_range.2 (h.low j m (by rw [List.getElem?_eq_getElem hj, e]))
  have h2 := h.nd.length_le_of_subset h1
  simpa using h2
theorem Near.start (next : Nat → List Nat) (I S : Nat) (G : List Nat) (a : Nat) (ha : a < S) : Near next I S G a [⟨a, 0, 0⟩] ((List.replicate S false).set a true) 0 := by
  refine ⟨by simp, rfl, fun j m hm => ?_, fun s hs => ?_, by simp, fun j m hj hm => ?_, fun j m hj => by omega⟩
  · match j, hm with
    | 0, hm => simp at hm; subst hm; exact ha
    | j + 1, hm => simp at hm
  · rw [set_getD _ _ _ _ _ (by simpa using ha)]
    by_cases e : s = a
    · simp [e]
    · rw [if_neg e, List.getD_eq_getElem?_getD, List.getElem?_replicate]
      split <;> simp [e]
  · match j, hm with
    | 0, _ => omega
    | j + 1, hm => simp at hm
theorem Near.more {next : Nat → List Nat} {I S : Nat} {G : List Nat} {a : Nat} {met : List Mt} {seen : List Bool} {k : Nat} (h : Near next I S G a met seen k) (f : Mt) (hf : met[k]? = some f) (hG : G.getD f.s 0 = I) (i t : Nat) (hi : i < I) (ht : (next f.s)[i]? = some t) (htS : t < S) (hs : seen.getD t false = false) : Near next I S G a (met ++ [⟨t, k, i⟩]) (seen.set t true) k := by
  have hk : k < met.length := (List.getElem?_eq_some_iff.1 hf).1
  have hnm : t ∉ met.map Mt.s := fun hm => by rw [(h.seen t htS).2 hm] at hs; cases hs
  have hget : ∀ (j : Nat) m, (met ++ [(⟨t, k, i⟩ : Mt)])[j]? = some m → (j < met.length ∧ met[j]? = some m) ∨ (j = met.length ∧ m = ⟨t, k, i⟩) := fun j m hm => by
    by_cases hj : j < met.length
    · rw [List.getElem?_append_left hj] at hm; exact .inl ⟨hj, hm⟩
    · rw [List.getElem?_append_right (by omega)] at hm
      have hl := (List.getElem?_eq_some_iff.1 hm).1
      have hj2 : j = met.length := by simp at hl; omega
      subst hj2
      simp at hm
      exact .inr ⟨rfl, hm.symm⟩
  refine ⟨by rw [List.length_set]; exact h.lenS, by rw [List.getElem?_append_left (by omega)]; exact h.first, fun j m hm => ?_, fun s hs2 => ?_, ?_, fun j m hj hm => ?_, fun j m hj hm => ?_⟩
  · rcases hget j m hm with ⟨_, h1⟩ | ⟨_, rfl⟩
    · exact h.low j m h1
    · exact htS
  · rw [set_getD _ _ _ _ _ (by rw [h.lenS]; exact htS), List.map_append, List.mem_append]
    by_cases e : s = t
    · simp [e]
    · rw [if_neg e, h.seen s hs2]
      simp [e]
  · rw [List.map_append, List.nodup_append]
    exact ⟨h.nd, by simp, fun x hx y hy => by
      simp at hy; subst hy
      intro e; subst e
      exact hnm hx⟩
  · rcases hget j m hm with ⟨h0, h1⟩ | ⟨rfl, rfl⟩
    · obtain ⟨f', p1, p2, p3⟩ := h.par j m hj h1
      exact ⟨f', p1, by rw [List.getElem?_append_left (by omega)]; exact p2, p3⟩
    · exact ⟨f, hk, by rw [List.getElem?_append_left hk]; exact hf, ht, hG, hi⟩
  · rcases hget j m hm with ⟨_, h1⟩ | ⟨rfl, _⟩
    · exact h.done j m hj h1
    · omega
theorem Near.next {next : Nat → List Nat} {I S : Nat} {G : List Nat} {a : Nat} {met : List Mt} {seen : List Bool} {k : Nat} (h : Near next I S G a met seen k) (f : Mt) (hf : met[k]? = some f) (hG : G.getD f.s 0 = I) : Near next I S G a met seen (k + 1) :=
  ⟨h.lenS, h.first, h.low, h.seen, h.nd, h.par, fun j m hj hm => by
    by_cases e : j = k
    · subst e; rw [hf] at hm; cases hm; exact hG
    · exact h.done j m (by omega) hm⟩
/-- back along those met: what lies between -/
structure Way (next : Nat → List Nat) (I : Nat) (G : List Nat) (met : List Mt) (K t j : Nat) (r : List Nat) : Prop where
  here : ∃ m, met[j]? = some m ∧ Rc.go next m.s r.reverse = t ∧ ∀ q, q < r.length → G.getD (Rc.go next m.s (r.reverse.take q)) 0 = I
  ok : ∀ x, x ∈ r → x < I
  few : r.length + j ≤ K
theorem Way.start (next : Nat → List Nat) (I : Nat) (G : List Nat) (met : List Mt) (K : Nat) (m : Mt) (h : met[K]? = some m) : Way next I G met K m.s K [] :=
  ⟨⟨m, h, rfl, fun q hq => by simp at hq⟩, fun x hx => by simp at hx, by simp⟩
theorem Way.back {next : Nat → List Nat} {I S : Nat} {G : List Nat} {a : Nat} {met : List Mt} {seen : List Bool} {k K t j : Nat} {r : List Nat} (hn : Near next I S G a met seen k) (h : Way next I G met K t j r) (hj : 0 < j) (m : Mt) (hm : met[j]? = some m) : Way next I G met K t m.frm (r ++ [m.by_]) := by
  obtain ⟨m', h1, h2, h3⟩ := h.here
  rw [hm] at h1
  cases h1
  obtain ⟨f, p1, p2, p3, p4, p5⟩ := hn.par j m hj hm
  have hto : (next f.s).getD m.by_ 0 = m.s := by rw [List.getD_eq_getElem?_getD, p3]; rfl
  refine ⟨⟨f, p2, ?_, fun q hq => ?_⟩, fun x hx => ?_, by have := h.few; simp; omega⟩
  · rw [List.reverse_append]
    show Rc.go next ((next f.s).getD m.by_ 0) r.reverse = t
    rw [hto]; exact h2
  · rw [List.reverse_append]
    match q, hq with
    | 0, _ => exact p4
    | q + 1, hq =>
      show G.getD (Rc.go next ((next f.s).getD m.by_ 0) (r.reverse.take q)) 0 = I
      rw [hto]
      exact h3 q (by simp at hq; omega)
  · rcases List.mem_append.1 hx with hx | hx
    · exact h.ok x hx
    · simp at hx; subst hx; exact p5
theorem Way.leg {next : Nat → List Nat} {I S : Nat} {G : List Nat} {a : Nat} {met : List Mt} {seen : List Bool} {k K t : Nat} {r : List Nat} (hn : Near next I S G a met seen k) (h : Way next I G met K t 0 r) (hK : K < met.length) (hG : G.getD t 0 < I) : Leg next I S G a r.reverse (G.getD t 0) := by
  obtain ⟨m, h1, h2, h3⟩ := h.here
  rw [hn.first] at h1
  cases h1
  have hf := hn.few
  have hw := h.few
  refine ⟨fun j hj => h3 j (by simpa using hj), fun j x hx => h.ok x (List.mem_reverse.1 (List.mem_of_getElem? hx)), by simp; omega, ?_, hG⟩
  rw [h2]
end Tr
end
section
open Go.RowKit

theorem ret_bool {a b : Bool} (h : a = b) : Ending.returned (.bool a) = .returned (.bool b) := by rw [h]
theorem hide {p : Prop} (h : p) : Hid p := h
theorem unhide {p : Prop} (h : Hid p) : p := h
theorem getD_byte (s : ByteArray) (k : Nat) (h : k < s.size) : s.data.toList.getD k 0 = s[k] := by
  simp [List.getD_eq_getElem?_getD, h]; rfl
theorem sign_byte (s : ByteArray) (k : Nat) (h : k < s.size) : Nm.sign s.data.toList k = (s[k].toNat : Int) := by
  unfold Nm.sign; rw [getD_byte s k h]
theorem isLetter_any (c : Int) (w : World) :
    Calls Tryz.prog 107 #[.int .u8 c] w fun e w' => e = .returned (.bool (Nm.lo c)) ∧ w' = w := by
  by_cases h1 : 97 ≤ c <;> by_cases h2 : c ≤ 122
  all_goals
    go_enter Tryz.func107, Tryz.ntmps107
    go_wp2
    go_ret
    exact ⟨by simp [Nm.lo]; omega, rfl⟩
theorem isDigit_any (c : Int) (w : World) :
    Calls Tryz.prog 108 #[.int .u8 c] w fun e w' => e = .returned (.bool (Nm.di c)) ∧ w' = w := by
  by_cases h1 : 48 ≤ c <;> by_cases h2 : c ≤ 57
  all_goals
    go_enter Tryz.func108, Tryz.ntmps108
    go_wp2
    go_ret
    exact ⟨by simp [Nm.di]; omega, rfl⟩
theorem isKept_any (s : ByteArray) (w : World) :
    Calls Tryz.prog 109 #[.string s] w fun e w' => e = .returned (.bool (Nm.kept s.data.toList)) ∧ w' = w := by
  rw [← ByteArray.toList_eq]
  go_enter Tryz.func109, Tryz.ntmps109
  go_wp2
  all_goals
    go_ret
    exact ⟨by simp_all [Nm.kept], rfl⟩
set_option maxHeartbeats 400000 in
theorem Name_any (s : ByteArray) (w : World) (hs : s.size ≤ maxLen) :
    Calls Tryz.prog 77 #[.string s] w fun e w' => e = .returned (.bool (Nm.name s.data.toList)) ∧ w' = w := by
  unfold maxLen at hs
  have hlen : s.data.toList.length = s.size := by simp
  by_cases h0 : s.size = 0
  · have hfin : Nm.name s.data.toList = false := Nm.no_empty _ (by omega)
    rw [hfin]
    have h0' : ((s.size : Int) == 0) = true := by simp [h0]
    clear hlen
    go_enter Tryz.func77, Tryz.ntmps77
    go_wp2_with fail
    go_ret
    exact ⟨rfl, rfl⟩
  have h0' : ((s.size : Int) == 0) = false := beq_eq_false_iff_ne.2 (by omega)
  by_cases h8 : 8 < s.size
  · have hfin : Nm.name s.data.toList = false := Nm.no_long _ (by omega)
    rw [hfin]
    have h8' : (8 : Int) < (s.size : Int) := by omega
    clear hlen
    go_enter Tryz.func77, Tryz.ntmps77
    go_wp2_with fail
    go_ret
    exact ⟨rfl, rfl⟩
  have h8' : ¬ (8 : Int) < (s.size : Int) := by omega
  have hpos : 0 < s.size := by omega
  cases hl : Nm.lo (s[0].toNat : Int) with
  | false =>
    have hfin : Nm.name s.data.toList = false := Nm.no_first _ (by rw [sign_byte s 0 hpos]; exact hl)
    rw [hfin]
    clear hlen
    go_enter Tryz.func77, Tryz.ntmps77
    go_wp2_with (go_at_call 107; refine (isLetter_any _ _).mono ?_; rintro e w' ⟨rfl, rfl⟩)
    go_ret
    exact ⟨rfl, rfl⟩
  | true =>
    have HL : Hid (s.data.toList.length = s.size) := hlen
    clear hlen
    go_enter Tryz.func77, Tryz.ntmps77
    go_wp2_with (go_at_call 107; refine (isLetter_any _ _).mono ?_; rintro e w' ⟨rfl, rfl⟩)
    go_loop [20] (fun i => ∃ k : Nat, k ≤ s.size ∧ i = .int .i64 k ∧ Nm.upto s.data.toList k = true) (fun i => s.size - (intOf i).toNat)
    case atStart => exact ⟨0, Nat.zero_le _, rfl, Nm.upto_zero _⟩
    case round =>
      obtain ⟨k, hk, rfl, hu⟩ := hrel
      have HU : Hid (Nm.upto s.data.toList k = true) := hu
      clear hu
      by_cases hlt : k < s.size
      · have HS : Hid (Nm.sign s.data.toList k = (s[k].toNat : Int)) := sign_byte s k hlt
        cases hn : Nm.nm (s[k].toNat : Int) with
        | false =>
          have HF : Hid (Nm.name s.data.toList = false) := Nm.no_sign _ k (by rw [HL.out]; exact hlt) (by rw [HS.out]; exact hn)
          have h3 : Nm.lo (s[k].toNat : Int) = false := by cases h : Nm.lo (s[k].toNat : Int) with | true => simp [Nm.nm, h] at hn | false => rfl
          have h4 : Nm.di (s[k].toNat : Int) = false := by cases h : Nm.di (s[k].toNat : Int) with | true => simp [Nm.nm, h] at hn | false => rfl
          have h5 : ((s[k].toNat : Int) != 95) = true := by rw [bne_iff_ne]; intro h; simp [Nm.nm, h] at hn
          clear hn
          go_wp2_with (first | (go_at_call 107; refine (isLetter_any _ _).mono ?_; rintro e w' ⟨rfl, rfl⟩) | (go_at_call 108; refine (isDigit_any _ _).mono ?_; rintro e w' ⟨rfl, rfl⟩))
          go_ret
          exact ⟨ret_bool HF.out.symm, rfl⟩
        | true =>
          have HN : Hid (Nm.upto s.data.toList (k + 1) = true) := by show _ = true; rw [Nm.upto_succ _ k (by rw [HL.out]; exact hlt), HU.out, HS.out, hn]; rfl
          cases h3 : Nm.lo (s[k].toNat : Int) with
          | true =>
            clear hn
            go_wp2_with (first | (go_at_call 107; refine (isLetter_any _ _).mono ?_; rintro e w' ⟨rfl, rfl⟩) | (go_at_call 108; refine (isDigit_any _ _).mono ?_; rintro e w' ⟨rfl, rfl⟩))
            go_round
            case rel => exact ⟨k + 1, by omega, by go_num, HN.out⟩
            case measure => simp [intOf]; omega
          | false =>
            cases h4 : Nm.di (s[k].toNat : Int) with
            | true =>
              clear hn
              go_wp2_with (first | (go_at_call 107; refine (isLetter_any _ _).mono ?_; rintro e w' ⟨rfl, rfl⟩) | (go_at_call 108; refine (isDigit_any _ _).mono ?_; rintro e w' ⟨rfl, rfl⟩))
              go_round
              case rel => exact ⟨k + 1, by omega, by go_num, HN.out⟩
              case measure => simp [intOf]; omega
            | false =>
              have h5 : ((s[k].toNat : Int) != 95) = false := by simpa [Nm.nm, h3, h4] using hn
              clear hn
              go_wp2_with (first | (go_at_call 107; refine (isLetter_any _ _).mono ?_; rintro e w' ⟨rfl, rfl⟩) | (go_at_call 108; refine (isDigit_any _ _).mono ?_; rintro e w' ⟨rfl, rfl⟩))
              go_round
              case rel => exact ⟨k + 1, by omega, by go_num, HN.out⟩
              case measure => simp [intOf]; omega
      · have hk' : k = s.size := by omega
        have HF : Hid (Nm.name s.data.toList = !(Nm.kept s.data.toList)) := by
          show _ = _
          have e1 : s.data.toList.isEmpty = false := by rw [List.isEmpty_eq_false_iff]; intro h; have := HL.out; rw [h] at this; simp at this; omega
          have e2 : decide (s.data.toList.length ≤ 8) = true := by rw [HL.out]; simp; omega
          have e3 : Nm.lo (Nm.sign s.data.toList 0) = true := by rw [sign_byte s 0 hpos]; exact hl
          have e4 : Nm.upto s.data.toList s.data.toList.length = true := by rw [HL.out, ← hk']; exact HU.out
          unfold Nm.name; rw [e1, e2, e3, e4]; rfl
        clear hk'
        go_wp2_with (go_at_call 109; refine (isKept_any _ _).mono ?_; rintro e w' ⟨rfl, rfl⟩)
        go_ret
        exact ⟨ret_bool HF.out.symm, rfl⟩
end
section
open Go.RowKit

/-- Memory is as it was, but for block b and what is new. -/
structure Keep (b : Nat) (w w' : World) : Prop where
  os : w'.os = w.os
  tape : w'.tape = w.tape
  output : w'.output = w.output
  size : w.heap.size ≤ w'.heap.size
  block : ∀ k, k < w.heap.size → k ≠ b → w'.heap[k]? = w.heap[k]?
namespace Keep
theorem refl (b : Nat) (w : World) : Keep b w w := ⟨rfl, rfl, rfl, Nat.le_refl _, fun _ _ _ => rfl⟩
theorem trans {b : Nat} {x y z : World} (h : Keep b x y) (k : Keep b y z) : Keep b x z :=
  ⟨k.os.trans h.os, k.tape.trans h.tape, k.output.trans h.output, Nat.le_trans h.size k.size, fun i hi hb => (k.block i (Nat.lt_of_lt_of_le hi h.size) hb).trans (h.block i hi hb)⟩
theorem drew {b : Nat} {a w : World} (h : Keep b a w) : Keep b a w.drew := ⟨h.os, h.tape, h.output, h.size, h.block⟩
theorem drewN {b : Nat} {a w : World} (n : Nat) (h : Keep b a w) : Keep b a (w.drewN n) := ⟨h.os, h.tape, h.output, h.size, h.block⟩
theorem alloc {b : Nat} {a w : World} (h : Keep b a w) (o : Obj) : Keep b a (w.alloc o) :=
  h.trans ⟨rfl, rfl, rfl, by simp, fun k hk _ => Below.heap_alloc w o k hk⟩
theorem setCell {b : Nat} {a w : World} (h : Keep b a w) {p : Addr} (hp : p.block = b) (u : Value) : Keep b a (w.setCell p u) :=
  h.trans ⟨by simp [World.setCell], by simp [World.setCell], by simp [World.setCell], by simp [World.setCell], fun k _ hb => Below.heap_setCell w p u k (by rw [hp]; exact hb)⟩
theorem setNew {b : Nat} {a w : World} (h : Keep b a w) {p : Addr} (hp : a.heap.size ≤ p.block) (u : Value) : Keep b a (w.setCell p u) :=
  ⟨by simpa [World.setCell] using h.os, by simpa [World.setCell] using h.tape, by simpa [World.setCell] using h.output, by simpa [World.setCell] using h.size, fun k hk hb => (Below.heap_setCell w p u k (by omega)).trans (h.block k hk hb)⟩
theorem of_below {b : Nat} {w w' : World} (h : Below w.heap.size w w') : Keep b w w' := ⟨h.os, h.tape, h.output, h.size, fun k hk _ => h.block k hk⟩
theorem cell {b : Nat} {w w' : World} (h : Keep b w w') {p : Addr} (hp : p.block < w.heap.size) (hb : p.block ≠ b) : w'.cell? p = w.cell? p := World.cell?_of_block (w := w) (h.block p.block hp hb)
theorem frozen {b : Nat} {w w' : World} (h : Keep b w w') {p : Addr} (hp : p.block < w.heap.size) (hb : p.block ≠ b) : w'.frozen? p = w.frozen? p := World.frozen?_of_block (w := w) (h.block p.block hp hb)
theorem below {b B : Nat} {w w' : World} (h : Keep b w w') (hB : B ≤ w.heap.size) (hb : B ≤ b) : Below B w w' := ⟨h.os, h.tape, h.output, h.size, fun k hk => h.block k (by omega) (by omega)⟩
end Keep

/-- The reader lies in block b: its text, where it is, how deep. -/
structure Rd (b : Nat) (s : ByteArray) (i d : Nat) (w : World) : Prop where
  c0 : w.cell? ⟨b, 0, none⟩ = some (.string s)
  c1 : w.cell? ⟨b, 1, none⟩ = some (.int .i64 (i : Int))
  c2 : w.cell? ⟨b, 2, none⟩ = some (.int .i64 (d : Int))
  f1 : w.frozen? ⟨b, 1, none⟩ = false
  f2 : w.frozen? ⟨b, 2, none⟩ = false
namespace Rd
theorem lt {b : Nat} {s : ByteArray} {i d : Nat} {w : World} (h : Rd b s i d w) : b < w.heap.size := World.block_lt_of_cell? _ _ h.c0
theorem drew {b : Nat} {s : ByteArray} {i d : Nat} {w : World} (h : Rd b s i d w) : Rd b s i d w.drew := ⟨h.c0, h.c1, h.c2, h.f1, h.f2⟩
theorem drewN {b : Nat} {s : ByteArray} {i d : Nat} {w : World} (n : Nat) (h : Rd b s i d w) : Rd b s i d (w.drewN n) := ⟨h.c0, h.c1, h.c2, h.f1, h.f2⟩
theorem below {b : Nat} {s : ByteArray} {i d : Nat} {w w' : World} (h : Rd b s i d w) (hb : Below w.heap.size w w') : Rd b s i d w' :=
  ⟨(hb.cell h.lt).trans h.c0, (hb.cell h.lt).trans h.c1, (hb.cell h.lt).trans h.c2, (hb.frozen h.lt).trans h.f1, (hb.frozen h.lt).trans h.f2⟩
theorem set1 {b : Nat} {s : ByteArray} {i d : Nat} {w : World} (h : Rd b s i d w) (j : Nat) : Rd b s j d (w.setCell ⟨b, 1, none⟩ (.int .i64 (j : Int))) :=
  ⟨(World.cell?_setCell_other w _ _ _ (by simp)).trans h.c0, World.cell?_setCell_same w _ _ h.c1, (World.cell?_setCell_other w _ _ _ (by simp)).trans h.c2, by simp [h.f1], by simp [h.f2]⟩
theorem set2 {b : Nat} {s : ByteArray} {i d : Nat} {w : World} (h : Rd b s i d w) (j : Nat) : Rd b s i j (w.setCell ⟨b, 2, none⟩ (.int .i64 (j : Int))) :=
  ⟨(World.cell?_setCell_other w _ _ _ (by simp)).trans h.c0, (World.cell?_setCell_other w _ _ _ (by simp)).trans h.c1, World.cell?_setCell_same w _ _ h.c2, by simp [h.f1], by simp [h.f2]⟩
end Rd
theorem ret_u8 {a b : Int} (h : a = b) : Ending.returned (.int .u8 a) = .returned (.int .u8 b) := by rw [h]
theorem sg_at (s : ByteArray) (i : Nat) (h : i < s.size) : Ex.sg s.data.toList i = s[i].toNat := by
  unfold Ex.sg
  have e : s.data.toList.length = s.size := by simp
  rw [if_pos (by rw [e]; exact h), getD_byte s i h]
theorem sg_end (s : ByteArray) (i : Nat) (h : ¬ i < s.size) : Ex.sg s.data.toList i = 32 := by
  unfold Ex.sg
  have e : s.data.toList.length = s.size := by simp
  rw [if_neg (by rw [e]; exact h)]
theorem blank_at (s : ByteArray) (i : Nat) (h : i < s.size) (hb : ((s[i].toNat : Int) == 32) = true) : s.data.toList.getD i 0 = 32 := by
  rw [getD_byte s i h, ← UInt8.toNat_inj]
  have := beq_iff_eq.1 hb
  show s[i].toNat = 32
  omega
theorem not_blank_at (s : ByteArray) (i : Nat) (h : i < s.size) (hb : ((s[i].toNat : Int) == 32) = false) : s.data.toList.getD i 0 ≠ 32 := by
  rw [getD_byte s i h]
  intro e
  have h2 := beq_eq_false_iff_ne.1 hb
  apply h2
  rw [e]; rfl
end
section
open Go.RowKit
/-- in block g lie, from its head on, values of which these hold -/
def Row (w : World) (g : Nat) (Ps : List (Value → Prop)) : Prop := ∀ i P, Ps[i]? = some P → ∃ u, w.cell? ⟨g, i, none⟩ = some u ∧ P u
/-- the value of a list of that type: a row of at least two -/
def IsList (ok : Nat → Prop) (w : World) (t : Nat) (n : Nat) (Ps : List (Value → Prop)) (v : Value) : Prop :=
  2 ≤ n ∧ n ≤ 9223372036854775807 ∧ ∃ g cap, v = .iface t (.slice (some ⟨g, 0, none⟩) n cap) ∧ n ≤ cap ∧ ok g ∧ Row w g Ps
def IsEx (ok : Nat → Prop) (w : World) : Ex → Value → Prop
  | ⟨0, nm, l⟩ => fun v => nm = [] ∧ l = [] ∧ v = .iface 219 (.bool false)
  | ⟨1, nm, l⟩ => fun v => nm = [] ∧ l = [] ∧ v = .iface 219 (.bool true)
  | ⟨2, nm, l⟩ => fun v => l = [] ∧ nm.length ≤ 8 ∧ v = .iface 179 (.string ⟨nm.toArray⟩)
  | ⟨3, nm, l⟩ => fun v => l = [] ∧ nm.length ≤ 8 ∧ v = .iface 180 (.string ⟨nm.toArray⟩)
  | ⟨4, nm, l⟩ => fun v => l = [] ∧ nm.length ≤ 8 ∧ v = .iface 181 (.string ⟨nm.toArray⟩)
  | ⟨5, nm, l⟩ => fun v => nm = [] ∧ l.length = 1 ∧ ∃ u, v = .iface 212 (.agg #[u]) ∧ ∀ P, (l.map fun x => IsEx ok w x)[0]? = some P → P u
  | ⟨6, nm, l⟩ => fun v => nm = [] ∧ IsList ok w 192 l.length (l.map fun x => IsEx ok w x) v
  | ⟨7, nm, l⟩ => fun v => nm = [] ∧ IsList ok w 150 l.length (l.map fun x => IsEx ok w x) v
  | ⟨_, _, _⟩ => fun _ => False
/-- cells in such blocks stand as they stood -/
def Stay (ok : Nat → Prop) (w w' : World) : Prop := ∀ g i u, ok g → w.cell? ⟨g, i, none⟩ = some u → w'.cell? ⟨g, i, none⟩ = some u
theorem Stay.trans {ok : Nat → Prop} {x y z : World} (h : Stay ok x y) (k : Stay ok y z) : Stay ok x z := fun g i u hg hc => k g i u hg (h g i u hg hc)
theorem Stay.keep {ok : Nat → Prop} {b : Nat} {w w' : World} (hk : Keep b w w') (hb : ∀ g, ok g → g ≠ b) : Stay ok w w' := fun g i u hg hc => by
  rw [hk.cell (p := ⟨g, i, none⟩) (World.block_lt_of_cell? _ _ hc) (hb g hg)]; exact hc
theorem Stay.below {ok : Nat → Prop} {w w' : World} (hk : Below w.heap.size w w') : Stay ok w w' := fun g i u _ hc => by
  rw [hk.cell (p := ⟨g, i, none⟩) (World.block_lt_of_cell? _ _ hc)]; exact hc
theorem Stay.grown {ok : Nat → Prop} {w w' : World} {row : Option Nat} (hk : w.grownBy w' row) (hb : ∀ g, ok g → some g ≠ row) : Stay ok w w' := fun g _ _ hg hc => hk.cell hc (hb g hg)
/-- an expression stands where its cells do; and what is asked of its blocks may be less -/
theorem IsEx.stay {ok ok' : Nat → Prop} {w w' : World} (hs : Stay ok w w') (hok : ∀ g, ok g → ok' g) : ∀ (x : Ex) (v : Value), IsEx ok w x v → IsEx ok' w' x v := by
  intro x
  induction x using Ex.ind with
  | h k nm l ih =>
    intro v h
    have hrow : ∀ g, ok g → Row w g (l.map fun x => IsEx ok w x) → Row w' g (l.map fun x => IsEx ok' w' x) := by
      intro g hg hr i P hP
      rw [List.getElem?_map] at hP
      cases hl : l[i]? with
      | none => rw [hl] at hP; simp at hP
      | some y =>
        rw [hl] at hP
        simp only [Option.map_some, Option.some.injEq] at hP
        obtain ⟨u, hu, hx⟩ := hr i (IsEx ok w y) (by rw [List.getElem?_map, hl]; rfl)
        exact ⟨u, hs g i u hg hu, by rw [← hP]; exact ih y (List.mem_of_getElem? hl) u hx⟩
    have hlist : ∀ t, IsList ok w t l.length (l.map fun x => IsEx ok w x) v → IsList ok' w' t l.length (l.map fun x => IsEx ok' w' x) v := by
      rintro t ⟨h1, h2, g, cap, h3, h4, h5, h6⟩
      exact ⟨h1, h2, g, cap, h3, h4, hok g h5, hrow g h5 h6⟩
    match k, h with
    | 0, h => simp only [IsEx] at h ⊢; exact h
    | 1, h => simp only [IsEx] at h ⊢; exact h
    | 2, h => simp only [IsEx] at h ⊢; exact h
    | 3, h => simp only [IsEx] at h ⊢; exact h
    | 4, h => simp only [IsEx] at h ⊢; exact h
    | 5, h =>
      simp only [IsEx] at h ⊢
      obtain ⟨h1, h2, u, h3, h4⟩ := h
      refine ⟨h1, h2, u, h3, ?_⟩
      intro P hP
      rw [List.getElem?_map] at hP
      cases hl : l[0]? with
      | none => rw [hl] at hP; simp at hP
      | some y =>
        rw [hl] at hP
        simp only [Option.map_some, Option.some.injEq] at hP
        rw [← hP]
        exact ih y (List.mem_of_getElem? hl) u (h4 _ (by rw [List.getElem?_map, hl]; rfl))
    | 6, h => simp only [IsEx] at h ⊢; exact ⟨h.1, hlist _ h.2⟩
    | 7, h => simp only [IsEx] at h ⊢; exact ⟨h.1, hlist _ h.2⟩
    | n + 8, h => simp only [IsEx] at h
/-- an error at a place: an At in a block that is not b -/
def IsErr (b : Nat) (w : World) (v : Value) (err p : Nat) : Prop :=
  ∃ a, a ≠ b ∧ v = .iface 126 (.pointer (some ⟨a, 0, none⟩)) ∧ w.cell? ⟨a, 0, none⟩ = some (.int .i64 (err : Int)) ∧ w.cell? ⟨a, 1, none⟩ = some (.int .i64 (p : Int))
theorem IsErr.stay {b : Nat} {w w' : World} {v : Value} {err p : Nat} (hs : Stay (fun g => g ≠ b) w w') (h : IsErr b w v err p) : IsErr b w' v err p := by
  obtain ⟨a, h1, h2, h3, h4⟩ := h
  exact ⟨a, h1, h2, hs a 0 _ h1 h3, hs a 1 _ h1 h4⟩
/-- What reading comes to in memory: an error, or what is read; the reader's place; all else is as it was. -/
def Read (b : Nat) (s : ByteArray) (d : Nat) (w : World) (r : Ex.Res Ex) (e : Ending) (w' : World) : Prop :=
  Keep b w w' ∧
  match r with
  | .inl (err, p) => ∃ v i, e = .returned (.tuple #[.nilIface, v]) ∧ IsErr b w' v err p ∧ Rd b s i d w'
  | .inr (x, m) => ∃ v, e = .returned (.tuple #[v, .nilIface]) ∧ IsEx (fun g => w.heap.size ≤ g) w' x v ∧ Rd b s m d w'
end
end Go.Proofs.YtglmpkpcbafgdaaGreatDoor
