/-
  The walk of package ladder's Check. Plain mathematics of chapter 2: a program's text (2.3), reading one (2.4). Nothing of the program is named here. The tables that package ladder reads: words, powers of ten. Plain mathematics of chapter 1: what is read is no greater than its text. Nothing of the program is named here. Plain mathematics of chapter 1: of which form an expression that was read is. Nothing of the program is named here. Plain mathematics of chapter 1: what an expression's text tells is that expression again. Nothing of the program is named here. Plain mathematics of chapter 1: pieces, parts and wholes are read again from their texts. Nothing of the program is named here.
-/
import Derived.Test.YtgldbliohpfljaaGreatDoorLdCheckAll
import Derived.Test.YtgldbliohpfljaaGreatDoorLdRepAll
import Derived.Lib.AtoiAll
import Derived.Lib.ItoaNum
import Derived.Test.YtgldbliohpfljaaGreatDoorShelf
import Derived.Deep.RegionWith
import Derived.Defers
import Derived.Laws.Externs
import Derived.Lib.AppendStr
import Derived.Lib.Builder
import Derived.Lib.OthersKept
import Derived.Lib.UnsafeStr
import Derived.Recover
import Derived.Lib.LaidTab
import Derived.Lib.ItoaMem
import Derived.WalkMore
namespace Go.Proofs.YtgldbliohpfljaaGreatDoor
section
open Go.RowKit
/-- what is answered where something is wrong, or nothing -/
def ErrIs (w : World) (er : Value) : Option (Nat × Option Nat) → Prop
  | none => er = .nilIface
  | some (e, none) => er = .iface 40 (.int .i64 (e : Int))
  | some (e, some p) => ∃ a, er = .iface 227 (.pointer (some ⟨a, 0, none⟩)) ∧ w.cell? ⟨a, 0, none⟩ = some (.int .i64 (e : Int)) ∧ w.cell? ⟨a, 1, none⟩ = some (.int .i64 (p : Int))
theorem ErrIs.below {w w' : World} {er : Value} {r : Option (Nat × Option Nat)} (h : ErrIs w er r) (hb : Below w.heap.size w w') : ErrIs w' er r := by
  match r, h with
  | none, h => exact h
  | some (e, none), h => exact h
  | some (e, some p), ⟨a, h1, h2, h3⟩ => exact ⟨a, h1, (hb.cell (World.block_lt_of_cell? _ _ h2)).trans h2, (hb.cell (World.block_lt_of_cell? _ _ h3)).trans h3⟩
namespace Ld
theorem check_many (p : Prg) (h : 12 < p.names.length ∨ 40 < p.rungs.length) : check p = some (4, none) := by rw [check, if_pos h]
theorem check_name (p : Prg) (h : ¬ (12 < p.names.length ∨ 40 < p.rungs.length)) (k : Nat) (hb : bad (nameAt p.names) k = none) (hk : k < p.names.length) (hw : nameAt p.names k ≠ 0) : check p = some (nameAt p.names k, some k) := by
  rw [check, if_neg h, bad_hit _ k _ hb hw hk]
theorem check_rung (p : Prg) (h : ¬ (12 < p.names.length ∨ 40 < p.rungs.length)) (hn : bad (nameAt p.names) p.names.length = none) (k : Nat) (hb : bad (rungAt p) k = none) (hk : k < p.rungs.length) (hw : rungAt p k ≠ 0) : check p = some (rungAt p k, some (p.names.length + k)) := by
  rw [check, if_neg h, hn, bad_hit _ k _ hb hw hk]
theorem check_none (p : Prg) (h : ¬ (12 < p.names.length ∨ 40 < p.rungs.length)) (hn : bad (nameAt p.names) p.names.length = none) (hr : bad (rungAt p) p.rungs.length = none) : check p = none := by
  rw [check, if_neg h, hn, hr]
end Ld
set_option maxHeartbeats 4000000 in
set_option maxRecDepth 100000 in
theorem Check_any (p : Ld.Prg) (v : Value) (w : World) (h : IsPrg w p v) :
    Calls Tryz.prog 73 #[v] w fun e w' => ∃ er, e = .returned er ∧ ErrIs w' er (Ld.check p) ∧ Below w.heap.size w w' := by
  obtain ⟨nv, rv, rfl, hn, hr⟩ := h
  have HNA := hide hn
  have HRA := hide hr
  obtain ⟨na, nc, rfl, hn1⟩ := hn.slice
  obtain ⟨ra, rc, rfl, hr1⟩ := hr.slice
  have HW1 := hide (fun (w : World) (i : Nat) (y : Ld.Nme) (h : NamesAt w (.slice na p.names.length nc) p.names) (hi : p.names[i]? = some y) => wrongName_any p.names _ (.slice ra p.rungs.length rc) i y w h ⟨_, _, _, rfl⟩ hi)
  have HW2 := hide (fun (w : World) (v : Value) (r : Ld.Rng) (h : NamesAt w (.slice na p.names.length nc) p.names) (hc : CondAt w r.cond v) (hl : r.name.length ≤ maxLen) => wrongRung_any p.names _ (.slice ra p.rungs.length rc) v r w h ⟨_, _, _, rfl⟩ hc hl)
  have HMANY := hide (Ld.check_many p)
  have HNM := hide (Ld.check_name p)
  have HRG := hide (Ld.check_rung p)
  have HNO := hide (Ld.check_none p)
  clear hn hr
  obtain ⟨n, hnn⟩ : ∃ n, n = p.names.length := ⟨_, rfl⟩
  obtain ⟨m, hmm⟩ : ∃ m, m = p.rungs.length := ⟨_, rfl⟩
  have HN := hide hnn
  have HM := hide hmm
  rw [← hnn] at HW1 HW2 HNA HMANY HNM HRG HNO hn1
  rw [← hmm] at HW1 HW2 HRA HMANY HNM HRG HNO hr1
  rw [← hnn, ← hmm]
  clear hnn hmm
  by_cases h12 : 12 < n
  · have HF := hide (HMANY.out (.inl h12))
    clear HNM HRG HNO HMANY HW1 HW2 HNA HRA
    go_enter Tryz.func73, Tryz.ntmps73
    go_wp2_with fail
    go_ret
    exact ⟨_, rfl, by rw [HF.out]; rfl, (Below.refl _ _).alloc (Nat.le_refl _) _⟩
  by_cases h40 : 40 < m
  · have HF := hide (HMANY.out (.inr h40))
    clear HNM HRG HNO HMANY HW1 HW2 HNA HRA
    go_enter Tryz.func73, Tryz.ntmps73
    go_wp2_with fail
    go_ret
    exact ⟨_, rfl, by rw [HF.out]; rfl, (Below.refl _ _).alloc (Nat.le_refl _) _⟩
  have hnot : ¬ (12 < n ∨ 40 < m) := by omega
  obtain ⟨wA, hwA⟩ : ∃ wA, wA = w.alloc (.cells #[.slice na n nc, .slice ra m rc] 83) := ⟨_, rfl⟩
  have hbA : Below w.heap.size w wA := by rw [hwA]; exact (Below.refl _ _).alloc (Nat.le_refl _) _
  have HBX : Hid (∀ W, Below wA.heap.size wA W → W.cell? ⟨w.heap.size, 0, none⟩ = some (.slice na n nc) ∧ W.cell? ⟨w.heap.size, 1, none⟩ = some (.slice ra m rc)) := by
    intro W hW
    have q1 : w.heap.size < wA.heap.size := by rw [hwA]; simp
    rw [hW.cell (p := ⟨w.heap.size, 0, none⟩) q1, hW.cell (p := ⟨w.heap.size, 1, none⟩) q1, hwA]
    simp [go_sem]
  have HBA := hide hbA
  have HWA := hide hwA
  have HNOT := hide hnot
  clear hbA hwA HMANY hnot
  go_enter Tryz.func73, Tryz.ntmps73
  go_wp2_with fail
  rw [← HWA.out]
  go_loopw [22] (fun i wr => ∃ k : Nat, k ≤ n ∧ i = .int .i64 (k : Int) ∧ Hid (Ld.bad (Ld.nameAt p.names) k = none) ∧ Hid (Below wA.heap.size wA wr)) (fun i _ => n - (intOf i).toNat)
  case atStart => exact ⟨0, Nat.zero_le _, rfl, rfl, Below.refl _ _⟩
  case round =>
    obtain ⟨k, hk, rfl, HBAD, HBr⟩ := hrel
    have HBw := hide (HBA.out.trans (HBr.out.mono HBA.out.size))
    obtain ⟨p0, p1⟩ := HBX.out wr HBr.out
    by_cases hlt : k < n
    · have hkl : k < p.names.length := by rw [← HN.out]; exact hlt
      have HC := hide (HW1.out wr k p.names[k] (HNA.out.below HBw.out) (List.getElem?_eq_getElem hkl))
      rw [← Ld.nameAt_at p.names k hkl] at HC
      have HHIT := hide (HNM.out HNOT.out k HBAD.out hlt)
      have HON := hide (Ld.bad_on (Ld.nameAt p.names) k HBAD.out)
      generalize Ld.nameAt p.names k = q at *
      go_wp2_with fail
      refine HC.out.mono ?_
      rintro e w2 ⟨rfl, hb2⟩
      have HB2 := hide (HBr.out.trans (hb2.mono HBr.out.size))
      clear hb2 HC
      by_cases hq : q = 0
      · have HON2 := hide (HON.out hq)
        subst hq
        go_wp2_with fail
        go_roundw
        case rel => exact ⟨k + 1, by omega, by go_num, HON2.out, HB2.out⟩
        case measure => simp [intOf]; omega
      · have hqb : ((q : Int) != 0) = true := by simpa using hq
        have HF := hide (HHIT.out hq)
        go_wp2_with fail
        go_ret
        refine ⟨_, rfl, ?_, ?_⟩
        · rw [HF.out]
          exact ⟨w2.heap.size, rfl, by simp [go_sem], by simp [go_sem]⟩
        · exact (HBA.out.trans (HB2.out.mono HBA.out.size)).alloc (Nat.le_trans HBA.out.size HB2.out.size) _
    · have hkn : k = n := by omega
      subst hkn
      have HBADN := HBAD
      clear HBAD HNM HW1 hlt hk
      go_wp2_with fail
      go_loopw [39] (fun i wr => ∃ j : Nat, j ≤ m ∧ i = .int .i64 (j : Int) ∧ Hid (Ld.bad (Ld.rungAt p) j = none) ∧ Hid (Below wA.heap.size wA wr)) (fun i _ => m - (intOf i).toNat)
      case atStart => exact ⟨0, Nat.zero_le _, rfl, rfl, HBr.out⟩
      case round =>
        obtain ⟨j, hj, rfl, HBAD, HBq⟩ := hrel
        have HBw2 := hide (HBA.out.trans (HBq.out.mono HBA.out.size))
        by_cases hlt : j < m
        · have hjl : j < p.rungs.length := by rw [← HM.out]; exact hlt
          obtain ⟨g, rfl, hca, u, e1, e2, e3, e4, e5, e6⟩ : ∃ g, ra = some ⟨g, 0, none⟩ ∧ m ≤ rc ∧ RungAt w g j p.rungs[j] := by
            rcases HRA.out with ⟨h0, _⟩ | ⟨g, cap, h1, h2, h3, h4⟩
            · rw [h0] at hjl; simp at hjl
            · simp only [Value.slice.injEq] at h1
              exact ⟨g, h1.1, by rw [h1.2.2, h1.2.1]; exact h2, h4 j _ (List.getElem?_eq_getElem hjl)⟩
          have c1 := (HBw2.out.cell (World.block_lt_of_cell? _ _ e1)).trans e1
          have c2 := (HBw2.out.cell (World.block_lt_of_cell? _ _ e2)).trans e2
          have c3 := (HBw2.out.cell (World.block_lt_of_cell? _ _ e3)).trans e3
          have hgw : g < wr.heap.size := World.block_lt_of_cell? _ _ c1
          have hu : u = .nilIface ∨ ∃ tu yu, u = .iface tu yu := by
            cases hcd : p.rungs[j].cond with
            | none => rw [hcd] at e6; exact .inl e6
            | some x => rw [hcd] at e6; obtain ⟨tu, yu, h⟩ := IsEx.iface x u e6.1; exact .inr ⟨tu, yu, h⟩
          obtain ⟨wB, hwB⟩ : ∃ wB, wB = wr.alloc (.cells #[.int .i64 p.rungs[j].kind, .string ⟨p.rungs[j].name.toArray⟩, u] 230) := ⟨_, rfl⟩
          have hbB : Below wA.heap.size wA wB := by rw [hwB]; exact HBq.out.alloc HBq.out.size _
          have hbBw : Below w.heap.size w wB := HBA.out.trans (hbB.mono HBA.out.size)
          have HC := hide (HW2.out wB u p.rungs[j] (HNA.out.below hbBw) (e6.below hbBw) e4)
          rw [← Ld.rungAt_at p j hjl] at HC
          obtain ⟨p0', p1'⟩ := HBX.out wr HBq.out
          have HHIT := hide (HRG.out HNOT.out HBADN.out j HBAD.out hlt)
          have HON := hide (Ld.bad_on (Ld.rungAt p) j HBAD.out)
          have HBB := hide hbB
          have HWB := hide hwB
          have hw0 : w.heap.size < wr.heap.size := World.block_lt_of_cell? _ _ p0'
          clear e1 e2 e3 e4 e5 e6 hbB hbBw hwB
          rw [HWB.out] at HC
          generalize Ld.rungAt p j = q at *
          generalize p.rungs[j] = y at *
          obtain ⟨yk, yn, yc⟩ := y
          simp only at c1 c2 HC HWB
          rcases hu with rfl | ⟨tu, yu, rfl⟩
          all_goals
            go_wp2_with fail
            refine HC.out.mono ?_
            rintro e w2 ⟨rfl, hb2⟩
            rw [← HWB.out] at hb2
            have HB2 := hide (HBB.out.trans (hb2.mono HBB.out.size))
            obtain ⟨p0'', p1''⟩ := HBX.out w2 HB2.out
            clear hb2 HC
            by_cases hq : q = 0
            · have HON2 := hide (HON.out hq)
              subst hq
              go_wp2_with fail
              go_roundw
              case rel => exact ⟨j + 1, by omega, by go_num, HON2.out, HB2.out⟩
              case measure => simp [intOf]; omega
            · have hqb : ((q : Int) != 0) = true := by simpa using hq
              have HF := hide (HHIT.out hq)
              go_wp2_with fail
              go_ret
              refine ⟨_, rfl, ?_, ?_⟩
              · rw [HF.out]
                exact ⟨w2.heap.size, rfl, by simp [go_sem], by simp [go_sem]⟩
              · exact (HBA.out.trans (HB2.out.mono HBA.out.size)).alloc (Nat.le_trans HBA.out.size HB2.out.size) _
        · have hjm : j = m := by omega
          have HF := hide (HNO.out HNOT.out HBADN.out (hjm ▸ HBAD.out))
          subst hjm
          go_wp2_with fail
          go_ret
          exact ⟨_, rfl, by rw [HF.out]; rfl, HBw2.out⟩
end
section
namespace Ld
/-- a text cut at each c -/
def split (c : UInt8) : List UInt8 → List (List UInt8)
  | [] => [[]]
  | a :: r => if a = c then [] :: split c r else match split c r with
    | [] => [[a]]
    | h :: t => (a :: h) :: t
def words (l : List UInt8) : List (List UInt8) := (split 32 l).filter fun w => !w.isEmpty
/-- each with the place of its first byte -/
def placed : Nat → List (List UInt8) → List (Nat × List UInt8)
  | _, [] => []
  | i, a :: r => (i, a) :: placed (i + a.length + 1) r
def isBlank (l : List UInt8) : Bool := l.all fun c => c == 32
def lns (l : List UInt8) : List (Nat × List UInt8) := (placed 0 (split 10 l)).filter fun p => !isBlank p.2
def nameW : Nat → List UInt8
  | 1 => [105, 110, 112, 117, 116]
  | 2 => [99, 111, 105, 108]
  | 3 => [116, 105, 109, 101, 114]
  | 4 => [99, 111, 117, 110, 116, 101, 114]
  | _ => []
def rungW : Nat → List UInt8
  | 2 => [115, 101, 116]
  | 3 => [114, 101, 115, 101, 116]
  | 4 => [114, 117, 110]
  | 5 => [99, 111, 117, 110, 116]
  | 6 => [122, 101, 114, 111]
  | _ => []
def kindN (w : List UInt8) : Nat := if w = nameW 1 then 1 else if w = nameW 2 then 2 else if w = nameW 3 then 3 else if w = nameW 4 then 4 else 0
def kindG (w : List UInt8) : Nat := if w = rungW 2 then 2 else if w = rungW 3 then 3 else if w = rungW 4 then 4 else if w = rungW 5 then 5 else if w = rungW 6 then 6 else 0
/-- a number, as it would be written -/
def rdCount (w : List UInt8) : Option Int := match Lib.atoiAll w with
  | .ok v => if Lib.itoa v = w then some v else none
  | _ => none
def rdName (l : List (List UInt8)) : Option Nme := match l with
  | [w, nm] => if kindN w = 1 ∨ kindN w = 2 then some ⟨nm, (kindN w : Int), 0⟩ else none
  | [w, nm, c] => if kindN w = 3 ∨ kindN w = 4 then (rdCount c).map fun n => ⟨nm, (kindN w : Int), n⟩ else none
  | _ => none
def rdHead (l : List (List UInt8)) : Option (Nat × List UInt8) := match l with
  | [nm] => some (1, nm)
  | [w, nm] => if kindG w = 0 then none else some (kindG w, nm)
  | _ => none
/-- a line's head, and what stands behind the first = -/
def cutE (l : List UInt8) : Option (List UInt8 × List UInt8) := if l.contains 61 then some (l.takeWhile (fun c => c != 61), (l.dropWhile fun c => c != 61).drop 1) else none
structure Rdg where
  names : List Nme
  rungs : List Rng
  starts : List Nat
def take (r : Rdg) (st : Nat) (line : List UInt8) : (Nat × Nat) ⊕ Rdg := match cutE line with
  | none => match rdName (words line) with
    | none => .inl (3, st)
    | some n => if r.rungs = [] then .inr ⟨r.names ++ [n], r.rungs, r.starts ++ [st]⟩ else .inl (3, st)
  | some (head, t) => match rdHead (words head) with
    | none => .inl (3, st)
    | some (k, nm) => match Ex.parse t with
      | .inl (e, pl) => .inl (e, st + head.length + 1 + pl.getD 0)
      | .inr x => .inr ⟨r.names, r.rungs ++ [⟨(k : Int), nm, some x⟩], r.starts ++ [st]⟩
def takes (r : Rdg) : List (Nat × List UInt8) → (Nat × Nat) ⊕ Rdg
  | [] => .inr r
  | p :: t => match take r p.1 p.2 with
    | .inl e => .inl e
    | .inr r' => takes r' t
/-- what a program that was read comes to -/
def checked (r : Rdg) : (Nat × Option Nat) ⊕ Prg := match check ⟨r.names, r.rungs⟩ with
  | none => .inr ⟨r.names, r.rungs⟩
  | some (e, none) => .inl (e, none)
  | some (e, some i) => .inl (e, some (r.starts.getD i 0))
def parse (l : List UInt8) : (Nat × Option Nat) ⊕ Prg :=
  if 20000 < l.length then .inl (4, none)
  else match takes ⟨[], [], []⟩ (lns l) with
    | .inl (e, p) => .inl (e, some p)
    | .inr r => checked r
def nameT (n : Nme) : List UInt8 := nameW n.kind.toNat ++ [32] ++ n.name ++ (if counted n.kind then 32 :: Lib.itoa n.count else [])
def condT : Option Ex → List UInt8
  | some x => x.text
  | none => []
def headT (r : Rng) : List UInt8 := (if r.kind = 1 then [] else rungW r.kind.toNat ++ [32]) ++ r.name ++ [32]
def rungT (r : Rng) : List UInt8 := headT r ++ [61, 32] ++ condT r.cond
def linesT (p : Prg) : List (List UInt8) := p.names.map nameT ++ p.rungs.map rungT
/-- lines, each with its end -/
def ended (l : List (List UInt8)) : List UInt8 := (l.map fun a => a ++ [10]).flatten
def text (p : Prg) : List UInt8 := if check p = none then ended (linesT p) else []
end Ld
end
section
open Go.RowKit
/-- the table of powers that strconv.Itoa reads -/
def Pows (w : World) : Prop := Lib.TabIs Tryz.prog w "internal/strconv.uint64pow10" .u64 Lib.pow10Tab
theorem gPows : Tryz.prog.globalNamed "internal/strconv.uint64pow10" = some 9 := by kernel_rfl
theorem Pows.block {w w' : World} (h : Pows w) (hb : w'.heap[9]? = w.heap[9]?) : Pows w' := by
  unfold Pows Lib.TabIs World.var? at *
  rw [gPows] at *
  simp only [Option.bind_some] at *
  rw [hb]
  exact h
/-- the words that lines begin with, as the program's text lays them -/
def Words (w : World) : Prop := (∀ i, i < 5 → w.cell? ⟨5, i, none⟩ = some (.string ⟨(Ld.nameW i).toArray⟩)) ∧ ∀ i, i < 7 → w.cell? ⟨6, i, none⟩ = some (.string ⟨(Ld.rungW i).toArray⟩)
theorem Words.low {w w' : World} {b : Nat} (h : Words w) (hb : Below b w w') (hG : 14 ≤ b) : Words w' :=
  ⟨fun i hi => (hb.cell (p := ⟨5, i, none⟩) (Nat.lt_of_lt_of_le (by decide : 5 < 14) hG)).trans (h.1 i hi), fun i hi => (hb.cell (p := ⟨6, i, none⟩) (Nat.lt_of_lt_of_le (by decide : 6 < 14) hG)).trans (h.2 i hi)⟩
theorem Pows.low {w w' : World} {b : Nat} (h : Pows w) (hb : Below b w w') (hG : 14 ≤ b) : Pows w' := h.block (hb.block _ (Nat.lt_of_lt_of_le (by decide : 9 < 14) hG))
theorem itoa_len (c : Int) (h : 0 ≤ c ∧ c ≤ 7) : (Lib.itoa c).length = 1 := by
  rw [Lib.itoa, if_neg (by omega), Lib.decDigits, dif_pos (by omega)]; rfl
theorem bgrow (w : World) (k : Nat) (os : Array Obj) : Below w.heap.size w (Go.Sort.grow (w.drewN k) os) := by
  refine ⟨rfl, rfl, rfl, by simp [Go.Sort.grow], fun j hj => ?_⟩
  show (w.heap ++ os)[j]? = _
  rw [Array.getElem?_append_left hj]
end
section
namespace Ex
theorem par_le (b : Bool) (l : List UInt8) : l.length ≤ (par b l).length ∧ (par b l).length ≤ l.length + 2 := by cases b <;> simp [par] <;> omega
theorem text5 (nm : List UInt8) (y : Ex) : text ⟨5, nm, [y]⟩ = 33 :: par (decide (6 ≤ y.kind)) y.text := by simp [text]
theorem text6 (nm : List UInt8) (l : List Ex) : text ⟨6, nm, l⟩ = join [32, 38, 32] (l.map fun x => par (decide (6 ≤ x.kind)) x.text) := by simp [text]
theorem text7 (nm : List UInt8) (l : List Ex) : text ⟨7, nm, l⟩ = join [32, 124, 32] (l.map fun x => par (decide (7 ≤ x.kind)) x.text) := by simp [text]
theorem size_def (k : Nat) (nm : List UInt8) (l : List Ex) : size ⟨k, nm, l⟩ = 1 + (l.map fun x => x.size).sum := by simp [size]
theorem join_len (sep : List UInt8) (hs : sep.length = 3) : ∀ l : List (List UInt8), l ≠ [] → (join sep l).length + 3 = (l.map List.length).sum + 3 * l.length
  | [], h => absurd rfl h
  | [a], _ => by simp [join]
  | a :: b :: r, _ => by
    have ih := join_len sep hs (b :: r) (by simp)
    simp only [join, List.length_append, List.map_cons, List.sum_cons, List.length_cons] at ih ⊢
    omega
/-- what is read, and its text in this form, is no greater than what it was read of -/
def Bnd (l : List UInt8) (t : Ex → List UInt8) (r : Nat → Res Ex) : Prop := ∀ i x m, i ≤ l.length → r i = .inr (x, m) → i + x.size ≤ m ∧ 3 * i + (t x).length ≤ 3 * m
theorem nameP_bnd (l : List UInt8) (k : Nat) (i : Nat) (x : Ex) (m : Nat) (hi : i ≤ l.length) (h : nameP l k i = .inr (x, m)) : x.kind = k ∧ x.of = [] ∧ Nm.name x.name = true ∧ i < m ∧ i + x.name.length ≤ m := by
  have ha := nameP_adv l k i x m hi h
  have h1 := skip_ge l i
  unfold nameP at h
  simp only at h
  by_cases c1 : sg l (skip l i) = 48 ∨ sg l (skip l i) = 49 ∨ ends (sg l (skip l i)) = true
  · rw [if_pos c1] at h; cases h
  · rw [if_neg c1] at h
    by_cases c2 : Nm.name (cut l (skip l i) (wend l (skip l i))) = true
    · rw [if_pos c2] at h
      simp only [Sum.inr.injEq, Prod.mk.injEq] at h
      obtain ⟨rfl, rfl⟩ := h
      refine ⟨rfl, rfl, c2, ha.1, ?_⟩
      show i + (cut l (skip l i) (wend l (skip l i))).length ≤ _
      unfold cut
      have h3 := wend_ge l (skip l i)
      simp only [List.length_drop, List.length_take]
      omega
    · rw [if_neg c2] at h; cases h
theorem listP_bnd (l : List UInt8) (sep : Nat) (hs : sep ≠ 32) (t : Ex → List UInt8) (r : Nat → Res Ex) (hr : Adv l r) (hb : Bnd l t r) :
    ∀ f i xs m, i ≤ l.length → listP l sep r f i = .inr (xs, m) → i + (xs.map fun x => x.size).sum + xs.length ≤ m + 1 ∧ 3 * i + ((xs.map t).map List.length).sum + 3 * xs.length ≤ 3 * m + 3 := by
  intro f
  induction f with
  | zero => intro i xs m _ h; simp [listP] at h
  | succ f ih =>
    intro i xs m hi h
    unfold listP at h
    cases hri : r i with
    | inl e => rw [hri] at h; simp at h
    | inr p =>
      obtain ⟨x, j⟩ := p
      have ha := hr i x j hi hri
      have hbb := hb i x j hi hri
      have h1 := skip_ge l j
      rw [hri] at h
      simp only at h
      by_cases c : sg l (skip l j) = sep
      · rw [if_pos c] at h
        have hlt := sg_lt l (skip l j) (by rw [c]; exact hs)
        cases hl : listP l sep r f (skip l j + 1) with
        | inl e => rw [hl] at h; simp at h
        | inr q =>
          obtain ⟨ys, k⟩ := q
          rw [hl] at h
          simp only [Sum.inr.injEq, Prod.mk.injEq] at h
          have h2 := ih (skip l j + 1) ys k (by omega) hl
          obtain ⟨rfl, rfl⟩ := h
          simp only [List.map_cons, List.sum_cons, List.length_cons]
          omega
      · rw [if_neg c] at h
        simp only [Sum.inr.injEq, Prod.mk.injEq] at h
        obtain ⟨rfl, rfl⟩ := h
        simp only [List.map_cons, List.sum_cons, List.length_cons, List.map_nil, List.sum_nil, List.length_nil]
        omega
/-- its text as a piece, as a part, as a whole -/
def tP (x : Ex) : List UInt8 := par (decide (6 ≤ x.kind)) x.text
def tQ (x : Ex) : List UInt8 := par (decide (7 ≤ x.kind)) x.text
theorem tQ_le (x : Ex) : (tQ x).length ≤ (tP x).length := by
  unfold tQ tP
  by_cases h7 : 7 ≤ x.kind
  · have h6 : 6 ≤ x.kind := by omega
    simp [h7, h6]
  · by_cases h6 : 6 ≤ x.kind
    · simp [h7, h6, par]; omega
    · simp [h7, h6, par]
theorem text_le_tQ (x : Ex) : x.text.length ≤ (tQ x).length := (par_le _ _).1
theorem made_cases (k : Nat) (r : Res (List Ex)) (x : Ex) (m : Nat) (h : made k r = .inr (x, m)) (hne : ∀ ys n, r = .inr (ys, n) → ys ≠ []) : r = .inr ([x], m) ∨ ∃ xs, 2 ≤ xs.length ∧ r = .inr (xs, m) ∧ x = ⟨k, [], xs⟩ := by
  match r, h with
  | .inr ([], n), _ => exact absurd rfl (hne [] n rfl)
  | .inr ([y], _), h => simp only [made, Sum.inr.injEq, Prod.mk.injEq] at h; obtain ⟨rfl, rfl⟩ := h; exact .inl rfl
  | .inr (a :: b :: r, _), h => simp only [made, Sum.inr.injEq, Prod.mk.injEq] at h; obtain ⟨rfl, rfl⟩ := h; exact .inr ⟨_, by simp, rfl, rfl⟩
theorem partP_bnd (l : List UInt8) (r : Nat → Res Ex) (hr : Adv l r) (hb : Bnd l tP r) : Bnd l tQ (partP l r) := by
  intro i x m hi h
  have hne : ∀ ys n, listP l 38 r (l.length + 1) i = .inr (ys, n) → ys ≠ [] := fun ys n hy => (listP_adv l 38 (by decide) r hr _ i ys n hi hy).2.2
  rcases made_cases 6 _ x m h hne with h1 | ⟨xs, h2, h1, rfl⟩
  · have := listP_bnd l 38 (by decide) tP r hr hb _ i [x] m hi h1
    have := tQ_le x
    simp at *
    omega
  · have h3 := listP_bnd l 38 (by decide) tP r hr hb _ i xs m hi h1
    have h4 := join_len [32, 38, 32] rfl (xs.map tP) (by intro e; have := congrArg List.length e; simp at this; rw [this] at h2; simp at h2)
    have e1 : tQ ⟨6, [], xs⟩ = join [32, 38, 32] (xs.map tP) := by unfold tQ; rw [text6]; rfl
    rw [e1, size_def]
    rw [List.length_map] at h4
    omega
theorem wholeP_bnd (l : List UInt8) (r : Nat → Res Ex) (hr : Adv l r) (hb : Bnd l tP r) : Bnd l text (wholeP l r) := by
  intro i x m hi h
  have hpa := partP_adv l r hr
  have hpb := partP_bnd l r hr hb
  have hne : ∀ ys n, listP l 124 (partP l r) (l.length + 1) i = .inr (ys, n) → ys ≠ [] := fun ys n hy => (listP_adv l 124 (by decide) _ hpa _ i ys n hi hy).2.2
  rcases made_cases 7 _ x m h hne with h1 | ⟨xs, h2, h1, rfl⟩
  · have := listP_bnd l 124 (by decide) tQ _ hpa hpb _ i [x] m hi h1
    have := text_le_tQ x
    simp at *
    omega
  · have h3 := listP_bnd l 124 (by decide) tQ _ hpa hpb _ i xs m hi h1
    have h4 := join_len [32, 124, 32] rfl (xs.map tQ) (by intro e; have := congrArg List.length e; simp at this; rw [this] at h2; simp at h2)
    have e1 : text ⟨7, [], xs⟩ = join [32, 124, 32] (xs.map tQ) := by rw [text7]; rfl
    rw [e1, size_def]
    rw [List.length_map] at h4
    omega
theorem leaf_bnd (k : Nat) (hk : k ≤ 4) (x : Ex) (hx : x.kind = k) (ho : x.of = []) : x.size = 1 ∧ (tP x).length ≤ x.name.length + 1 := by
  obtain ⟨k', nm, l⟩ := x
  simp only at hx ho
  subst hx ho
  refine ⟨by simp [size_def], ?_⟩
  match k', hk with
  | 0, _ => simp [tP, text, par]
  | 1, _ => simp [tP, text, par]
  | 2, _ => simp [tP, text, par]
  | 3, _ => simp [tP, text, par]
  | 4, _ => simp [tP, text, par]
theorem pieceP_bnd (l : List UInt8) : ∀ d, Bnd l tP (pieceP l d) := by
  intro d
  induction d with
  | zero => intro i x m _ h; simp [pieceP] at h
  | succ d ih =>
    intro i x m hi h
    have h1 := skip_ge l i
    have h2 := skip_le l i hi
    have low : sg l (skip l i) ≠ 32 → skip l i + 1 ≤ l.length := fun h => by have := sg_lt l _ h; omega
    unfold pieceP at h
    simp only at h
    by_cases c1 : sg l (skip l i) = 33
    · rw [if_pos c1] at h
      cases hp : pieceP l d (skip l i + 1) with
      | inl e => rw [hp] at h; simp [notP] at h
      | inr q =>
        obtain ⟨y, k⟩ := q
        rw [hp] at h
        simp only [notP, Sum.inr.injEq, Prod.mk.injEq] at h
        obtain ⟨rfl, rfl⟩ := h
        have := ih (skip l i + 1) y k (low (by omega)) hp
        have e1 : tP ⟨5, [], [y]⟩ = 33 :: tP y := by unfold tP; rw [text5]; rfl
        rw [e1, size_def]
        simp
        omega
    rw [if_neg c1] at h
    by_cases c2 : sg l (skip l i) = 40
    · rw [if_pos c2] at h
      cases hp : wholeP l (pieceP l d) (skip l i + 1) with
      | inl e => rw [hp] at h; simp [parP] at h
      | inr q =>
        obtain ⟨y, k⟩ := q
        rw [hp] at h
        have hb := wholeP_bnd l _ (pieceP_adv l d) ih (skip l i + 1) y k (low (by omega)) hp
        have h3 := skip_ge l k
        unfold parP at h
        simp only at h
        by_cases c : sg l (skip l k) = 41
        · rw [if_pos c] at h
          simp only [Sum.inr.injEq, Prod.mk.injEq] at h
          obtain ⟨rfl, rfl⟩ := h
          have := (par_le (decide (6 ≤ y.kind)) y.text).2
          unfold tP
          omega
        · rw [if_neg c] at h; simp at h
    rw [if_neg c2] at h
    by_cases c3 : sg l (skip l i) = 48
    · rw [if_pos c3] at h
      simp only [Sum.inr.injEq, Prod.mk.injEq] at h
      obtain ⟨rfl, rfl⟩ := h
      have := leaf_bnd 0 (by decide) ⟨0, [], []⟩ rfl rfl
      simp at this
      omega
    rw [if_neg c3] at h
    by_cases c4 : sg l (skip l i) = 49
    · rw [if_pos c4] at h
      simp only [Sum.inr.injEq, Prod.mk.injEq] at h
      obtain ⟨rfl, rfl⟩ := h
      have := leaf_bnd 1 (by decide) ⟨1, [], []⟩ rfl rfl
      simp at this
      omega
    rw [if_neg c4] at h
    by_cases c5 : sg l (skip l i) = 94
    · rw [if_pos c5] at h
      have hn := nameP_bnd l 3 _ x m (low (by omega)) h
      have := leaf_bnd 3 (by decide) x hn.1 hn.2.1
      omega
    rw [if_neg c5] at h
    by_cases c6 : sg l (skip l i) = 126
    · rw [if_pos c6] at h
      have hn := nameP_bnd l 4 _ x m (low (by omega)) h
      have := leaf_bnd 4 (by decide) x hn.1 hn.2.1
      omega
    rw [if_neg c6] at h
    have hn := nameP_bnd l 2 _ x m h2 h
    have := leaf_bnd 2 (by decide) x hn.1 hn.2.1
    omega
/-- an expression that was read: its size, and its text's length, by the text's -/
theorem parse_bnd (l : List UInt8) (x : Ex) (h : parse l = .inr x) : l.length ≤ 2000 ∧ x.size ≤ l.length ∧ x.text.length ≤ 3 * l.length := by
  unfold parse at h
  by_cases h1 : 2000 < l.length
  · rw [if_pos h1] at h; simp at h
  · rw [if_neg h1] at h
    cases hw : wholeP l (pieceP l 20) 0 with
    | inl e => rw [hw] at h; simp at h
    | inr q =>
      obtain ⟨y, m⟩ := q
      rw [hw] at h
      simp only at h
      by_cases c : skip l m < l.length
      · rw [if_pos c] at h; simp at h
      · rw [if_neg c] at h
        simp only [Sum.inr.injEq] at h
        subst h
        have ha := wholeP_adv l _ (pieceP_adv l 20) 0 y m (Nat.zero_le _) hw
        have hb := wholeP_bnd l _ (pieceP_adv l 20) (pieceP_bnd l 20) 0 y m (Nat.zero_le _) hw
        omega
end Ex
end
section
namespace Ex
/-- it may stand as a part: an And of such pieces, or such a piece -/
def FitQ (F : Ex → Prop) (x : Ex) : Prop := (x.kind = 6 ∧ x.name = [] ∧ 2 ≤ x.of.length ∧ ∀ y, y ∈ x.of → F y) ∨ (x.kind ≠ 6 ∧ F x)
/-- it may stand as a whole: an Or of such parts, or such a part -/
def FitW (F : Ex → Prop) (x : Ex) : Prop := (x.kind = 7 ∧ x.name = [] ∧ 2 ≤ x.of.length ∧ ∀ y, y ∈ x.of → FitQ F y) ∨ (x.kind ≠ 7 ∧ FitQ F x)
/-- it may stand as a piece, where so many may still stand around -/
def FitP : Nat → Ex → Prop
  | 0, _ => False
  | D + 1, x =>
    (x.kind ≤ 1 ∧ x.name = [] ∧ x.of = []) ∨ (2 ≤ x.kind ∧ x.kind ≤ 4 ∧ Nm.name x.name = true ∧ x.of = []) ∨ (x.kind = 5 ∧ x.name = [] ∧ ∃ y, x.of = [y] ∧ FitP D y) ∨
    (x.kind = 6 ∧ x.name = [] ∧ 2 ≤ x.of.length ∧ ∀ y, y ∈ x.of → FitP D y) ∨ (x.kind = 7 ∧ x.name = [] ∧ 2 ≤ x.of.length ∧ ∀ y, y ∈ x.of → FitQ (FitP D) y)
theorem FitQ.mono {F G : Ex → Prop} (h : ∀ x, F x → G x) (x : Ex) (hx : FitQ F x) : FitQ G x := by
  rcases hx with ⟨h1, h2, h3, h4⟩ | ⟨h1, h2⟩
  · exact .inl ⟨h1, h2, h3, fun y hy => h y (h4 y hy)⟩
  · exact .inr ⟨h1, h x h2⟩
theorem FitP.mono : ∀ (D : Nat) (x : Ex), FitP D x → FitP (D + 1) x := by
  intro D
  induction D with
  | zero => intro x h; exact absurd h (by simp [FitP])
  | succ D ih =>
    intro x h
    unfold FitP at h
    unfold FitP
    rcases h with h | h | ⟨h1, h2, y, h3, h4⟩ | ⟨h1, h2, h3, h4⟩ | ⟨h1, h2, h3, h4⟩
    · exact .inl h
    · exact .inr (.inl h)
    · exact .inr (.inr (.inl ⟨h1, h2, y, h3, ih y h4⟩))
    · exact .inr (.inr (.inr (.inl ⟨h1, h2, h3, fun y hy => ih y (h4 y hy)⟩)))
    · exact .inr (.inr (.inr (.inr ⟨h1, h2, h3, fun y hy => FitQ.mono ih y (h4 y hy)⟩)))
theorem FitP.le7 (D : Nat) (x : Ex) (h : FitP D x) : x.kind ≤ 7 := by
  cases D with
  | zero => exact absurd h (by simp [FitP])
  | succ D =>
    unfold FitP at h
    omega
/-- what may stand as a piece may stand as a part -/
theorem FitP.part (D : Nat) (x : Ex) (h : FitP D x) : FitQ (FitP D) x := by
  by_cases hk : x.kind = 6
  · cases D with
    | zero => exact absurd h (by simp [FitP])
    | succ D =>
      have h' := h
      unfold FitP at h'
      rcases h' with ⟨h1, _⟩ | ⟨_, h1, _⟩ | ⟨h1, _⟩ | ⟨h1, h2, h3, h4⟩ | ⟨h1, _⟩
      · omega
      · omega
      · omega
      · exact .inl ⟨h1, h2, h3, fun y hy => FitP.mono D y (h4 y hy)⟩
      · omega
  · exact .inr ⟨hk, h⟩
/-- what may stand as a part may stand as a whole -/
theorem FitQ.whole (D : Nat) (x : Ex) (h : FitQ (FitP D) x) : FitW (FitP D) x := by
  by_cases hk : x.kind = 7
  · rcases h with ⟨h1, _⟩ | ⟨_, h⟩
    · omega
    · cases D with
      | zero => exact absurd h (by simp [FitP])
      | succ D =>
        have h' := h
        unfold FitP at h'
        rcases h' with ⟨h1, _⟩ | ⟨_, h1, _⟩ | ⟨h1, _⟩ | ⟨h1, _⟩ | ⟨h1, h2, h3, h4⟩
        · omega
        · omega
        · omega
        · omega
        · exact .inl ⟨h1, h2, h3, fun y hy => FitQ.mono (FitP.mono D) y (h4 y hy)⟩
  · exact .inr ⟨hk, h⟩
/-- what may stand as a whole may stand as a piece, in parentheses -/
theorem FitW.piece (D : Nat) (x : Ex) (h : FitW (FitP D) x) : FitP (D + 1) x := by
  rcases h with ⟨h1, h2, h3, h4⟩ | ⟨_, ⟨h1, h2, h3, h4⟩ | ⟨_, h⟩⟩
  · unfold FitP; exact .inr (.inr (.inr (.inr ⟨h1, h2, h3, h4⟩)))
  · unfold FitP; exact .inr (.inr (.inr (.inl ⟨h1, h2, h3, h4⟩)))
  · exact FitP.mono D x h
theorem listP_all (l : List UInt8) (sep : Nat) (hs : sep ≠ 32) (F : Ex → Prop) (r : Nat → Res Ex) (hr : Adv l r) (hb : ∀ i x m, i ≤ l.length → r i = .inr (x, m) → F x) :
    ∀ f i xs m, i ≤ l.length → listP l sep r f i = .inr (xs, m) → ∀ x, x ∈ xs → F x := by
  intro f
  induction f with
  | zero => intro i xs m _ h; simp [listP] at h
  | succ f ih =>
    intro i xs m hi h
    unfold listP at h
    cases hri : r i with
    | inl e => rw [hri] at h; simp at h
    | inr p =>
      obtain ⟨x, j⟩ := p
      have ha := hr i x j hi hri
      have hx := hb i x j hi hri
      have h1 := skip_ge l j
      rw [hri] at h
      simp only at h
      by_cases c : sg l (skip l j) = sep
      · rw [if_pos c] at h
        have hlt := sg_lt l (skip l j) (by rw [c]; exact hs)
        cases hl : listP l sep r f (skip l j + 1) with
        | inl e => rw [hl] at h; simp at h
        | inr q =>
          obtain ⟨ys, k⟩ := q
          rw [hl] at h
          simp only [Sum.inr.injEq, Prod.mk.injEq] at h
          obtain ⟨rfl, rfl⟩ := h
          intro y hy
          rcases List.mem_cons.1 hy with rfl | hy
          · exact hx
          · exact ih (skip l j + 1) ys k (by omega) hl y hy
      · rw [if_neg c] at h
        simp only [Sum.inr.injEq, Prod.mk.injEq] at h
        obtain ⟨rfl, rfl⟩ := h
        intro y hy
        simp only [List.mem_singleton] at hy
        rw [hy]; exact hx
theorem partP_fit (l : List UInt8) (D : Nat) (r : Nat → Res Ex) (hr : Adv l r) (hb : ∀ i x m, i ≤ l.length → r i = .inr (x, m) → FitP D x) (i : Nat) (x : Ex) (m : Nat) (hi : i ≤ l.length) (h : partP l r i = .inr (x, m)) : FitQ (FitP D) x := by
  have hne : ∀ ys n, listP l 38 r (l.length + 1) i = .inr (ys, n) → ys ≠ [] := fun ys n hy => (listP_adv l 38 (by decide) r hr _ i ys n hi hy).2.2
  rcases made_cases 6 _ x m h hne with h1 | ⟨xs, h2, h1, rfl⟩
  · exact FitP.part D x (listP_all l 38 (by decide) _ r hr hb _ i [x] m hi h1 x (by simp))
  · exact .inl ⟨rfl, rfl, h2, listP_all l 38 (by decide) _ r hr hb _ i xs m hi h1⟩
theorem wholeP_fit (l : List UInt8) (D : Nat) (r : Nat → Res Ex) (hr : Adv l r) (hb : ∀ i x m, i ≤ l.length → r i = .inr (x, m) → FitP D x) (i : Nat) (x : Ex) (m : Nat) (hi : i ≤ l.length) (h : wholeP l r i = .inr (x, m)) : FitW (FitP D) x := by
  have hpa := partP_adv l r hr
  have hne : ∀ ys n, listP l 124 (partP l r) (l.length + 1) i = .inr (ys, n) → ys ≠ [] := fun ys n hy => (listP_adv l 124 (by decide) _ hpa _ i ys n hi hy).2.2
  have hall := listP_all l 124 (by decide) (FitQ (FitP D)) _ hpa (partP_fit l D r hr hb) (l.length + 1) i
  rcases made_cases 7 _ x m h hne with h1 | ⟨xs, h2, h1, rfl⟩
  · exact FitQ.whole D x (hall [x] m hi h1 x (by simp))
  · exact .inl ⟨rfl, rfl, h2, hall xs m hi h1⟩
theorem pieceP_fit (l : List UInt8) : ∀ d i x m, i ≤ l.length → pieceP l d i = .inr (x, m) → FitP d x := by
  intro d
  induction d with
  | zero => intro i x m _ h; simp [pieceP] at h
  | succ d ih =>
    intro i x m hi h
    have h2 := skip_le l i hi
    have low : sg l (skip l i) ≠ 32 → skip l i + 1 ≤ l.length := fun h => by have := sg_lt l _ h; omega
    have leaf : ∀ k, 2 ≤ k → k ≤ 4 → ∀ j, j ≤ l.length → nameP l k j = .inr (x, m) → FitP (d + 1) x := by
      intro k h3 h4 j hj hn
      have := nameP_bnd l k j x m hj hn
      unfold FitP
      exact .inr (.inl ⟨by omega, by omega, this.2.2.1, this.2.1⟩)
    unfold pieceP at h
    simp only at h
    by_cases c1 : sg l (skip l i) = 33
    · rw [if_pos c1] at h
      cases hp : pieceP l d (skip l i + 1) with
      | inl e => rw [hp] at h; simp [notP] at h
      | inr q =>
        obtain ⟨y, k⟩ := q
        rw [hp] at h
        simp only [notP, Sum.inr.injEq, Prod.mk.injEq] at h
        obtain ⟨rfl, rfl⟩ := h
        have := ih (skip l i + 1) y k (low (by omega)) hp
        unfold FitP
        exact .inr (.inr (.inl ⟨rfl, rfl, y, rfl, this⟩))
    rw [if_neg c1] at h
    by_cases c2 : sg l (skip l i) = 40
    · rw [if_pos c2] at h
      cases hp : wholeP l (pieceP l d) (skip l i + 1) with
      | inl e => rw [hp] at h; simp [parP] at h
      | inr q =>
        obtain ⟨y, k⟩ := q
        rw [hp] at h
        have hf := wholeP_fit l d _ (pieceP_adv l d) ih (skip l i + 1) y k (low (by omega)) hp
        unfold parP at h
        simp only at h
        by_cases c : sg l (skip l k) = 41
        · rw [if_pos c] at h
          simp only [Sum.inr.injEq, Prod.mk.injEq] at h
          obtain ⟨rfl, rfl⟩ := h
          exact FitW.piece d y hf
        · rw [if_neg c] at h; simp at h
    rw [if_neg c2] at h
    by_cases c3 : sg l (skip l i) = 48
    · rw [if_pos c3] at h
      simp only [Sum.inr.injEq, Prod.mk.injEq] at h
      obtain ⟨rfl, rfl⟩ := h
      unfold FitP; exact .inl ⟨by simp, rfl, rfl⟩
    rw [if_neg c3] at h
    by_cases c4 : sg l (skip l i) = 49
    · rw [if_pos c4] at h
      simp only [Sum.inr.injEq, Prod.mk.injEq] at h
      obtain ⟨rfl, rfl⟩ := h
      unfold FitP; exact .inl ⟨by simp, rfl, rfl⟩
    rw [if_neg c4] at h
    by_cases c5 : sg l (skip l i) = 94
    · rw [if_pos c5] at h; exact leaf 3 (by decide) (by decide) _ (low (by omega)) h
    rw [if_neg c5] at h
    by_cases c6 : sg l (skip l i) = 126
    · rw [if_pos c6] at h; exact leaf 4 (by decide) (by decide) _ (low (by omega)) h
    rw [if_neg c6] at h
    exact leaf 2 (by decide) (by decide) _ h2 h
theorem parse_fit (l : List UInt8) (x : Ex) (h : parse l = .inr x) : FitW (FitP 20) x := by
  unfold parse at h
  by_cases h1 : 2000 < l.length
  · rw [if_pos h1] at h; simp at h
  · rw [if_neg h1] at h
    cases hw : wholeP l (pieceP l 20) 0 with
    | inl e => rw [hw] at h; simp at h
    | inr q =>
      obtain ⟨y, m⟩ := q
      rw [hw] at h
      simp only at h
      by_cases c : skip l m < l.length
      · rw [if_pos c] at h; simp at h
      · rw [if_neg c] at h
        simp only [Sum.inr.injEq] at h
        subst h
        exact wholeP_fit l 20 _ (pieceP_adv l 20) (pieceP_fit l 20) 0 y m (Nat.zero_le _) hw
end Ex
namespace Ex
theorem skip_append (a b : List UInt8) (i : Nat) : skip (a ++ b) (a.length + i) = a.length + skip b i := by
  unfold skip
  have e : (a ++ b).drop (a.length + i) = b.drop i := by rw [List.drop_append]; simp
  rw [e]; omega
theorem sg_append (a b : List UInt8) (i : Nat) : sg (a ++ b) (a.length + i) = sg b i := by
  unfold sg
  have e : (a ++ b).getD (a.length + i) 0 = b.getD i 0 := by
    simp [List.getD_eq_getElem?_getD, List.getElem?_append_right]
  rw [e]
  by_cases h : i < b.length
  · rw [if_pos h, if_pos (by simp; omega)]
  · rw [if_neg h, if_neg (by simp; omega)]
theorem wend_append (a b : List UInt8) (i : Nat) : wend (a ++ b) (a.length + i) = a.length + wend b i := by
  unfold wend
  have e : (a ++ b).drop (a.length + i) = b.drop i := by rw [List.drop_append]; simp
  rw [e]; omega
/-- a word ends there -/
def Stop (post : List UInt8) : Prop := ends (sg post 0) = true
/-- the next sign -/
def nxt (post : List UInt8) : Nat := sg post (skip post 0)
theorem sg_cons (c : UInt8) (r : List UInt8) : sg (c :: r) 0 = c.toNat := by simp [sg]
theorem skip_cons (c : UInt8) (r : List UInt8) (h : c.toNat ≠ 32) : skip (c :: r) 0 = 0 := skip_stop _ 0 (by simp) (by intro e; apply h; simp at e; rw [e]; rfl)
/-- reading there gives this, up to the text's end -/
def Nice (L : List UInt8) (Q : List UInt8 → Prop) (R : Nat → Res Ex) (x : Ex) (t : List UInt8) : Prop :=
  ∀ pre post i, L = pre ++ t ++ post → Q post → i ≤ L.length → skip L i = pre.length → ∃ m, R i = .inr (x, m) ∧ m ≤ L.length ∧ skip L m = skip L (pre.length + t.length)
/-- a text that begins with a sign -/
def Head (t : List UInt8) : Prop := ∃ c r, t = c :: r ∧ c.toNat ≠ 32
theorem join_two (sep a b : List UInt8) (r : List (List UInt8)) : join sep (a :: b :: r) = a ++ sep ++ join sep (b :: r) := rfl
theorem list_back (L : List UInt8) (sep : Nat) (hs : sep < 256) (hs32 : sep ≠ 32) (Q Qe : List UInt8 → Prop) (R : Nat → Res Ex)
    (hsep : ∀ r, Qe ([32, sep.toUInt8, 32] ++ r)) (hlast : ∀ post, Q post → Qe post ∧ nxt post ≠ sep) :
    ∀ (xs : List Ex) (t : Ex → List UInt8), xs ≠ [] → (∀ x, x ∈ xs → Nice L Qe R x (t x) ∧ Head (t x)) →
    ∀ f pre post i, xs.length ≤ f → L = pre ++ join [32, sep.toUInt8, 32] (xs.map t) ++ post → Q post → i ≤ L.length → skip L i = pre.length →
    listP L sep R f i = .inr (xs, skip L (pre.length + (join [32, sep.toUInt8, 32] (xs.map t)).length)) := by
  have hsn : sep.toUInt8.toNat = sep := by simp; omega
  intro xs t
  induction xs with
  | nil => intro h; exact absurd rfl h
  | cons x r ih =>
    intro _ hx f pre post i hf hL hQ hi hsk
    obtain ⟨f, rfl⟩ : ∃ g, f = g + 1 := ⟨f - 1, by simp at hf; omega⟩
    cases r with
    | nil =>
      simp only [List.map_cons, List.map_nil, join] at hL ⊢
      obtain ⟨h1, h2⟩ := hlast post hQ
      obtain ⟨m, hm, hml, hms⟩ := (hx x (by simp)).1 pre post i hL h1 hi hsk
      have hn : sg L (skip L m) ≠ sep := by
        rw [hms]
        have e : skip L (pre.length + (t x).length) = (pre ++ t x).length + skip post 0 := by
          have := skip_append (pre ++ t x) post 0
          rw [Nat.add_zero, ← hL] at this
          rw [← this]; simp
        rw [e, hL, sg_append]
        exact h2
      unfold listP
      rw [hm]
      simp only [if_neg hn]
      rw [hms]
    | cons y r =>
      simp only [List.map_cons] at hL ⊢
      rw [join_two] at hL ⊢
      have hy := hx y (by simp)
      obtain ⟨c, rr, hty, hc⟩ := hy.2
      have hL2 : L = pre ++ t x ++ ([32, sep.toUInt8, 32] ++ (join [32, sep.toUInt8, 32] (t y :: r.map t) ++ post)) := by rw [hL]; simp
      obtain ⟨m, hm, hml, hms⟩ := (hx x (by simp)).1 pre _ i hL2 (hsep _) hi hsk
      have e1 : skip L (pre.length + (t x).length) = pre.length + (t x).length + 1 := by
        have := skip_append (pre ++ t x) ([32, sep.toUInt8, 32] ++ (join [32, sep.toUInt8, 32] (t y :: r.map t) ++ post)) 0
        rw [Nat.add_zero, ← hL2] at this
        have e2 : skip ([32, sep.toUInt8, 32] ++ (join [32, sep.toUInt8, 32] (t y :: r.map t) ++ post)) 0 = 1 := by
          rw [skip_blank _ 0 (by simp) (by simp)]
          exact skip_stop _ 1 (by simp) (by simp; intro e; have := congrArg UInt8.toNat e; rw [hsn] at this; exact hs32 this)
        rw [e2] at this
        simpa using this
      have hsg : sg L (skip L m) = sep := by
        rw [hms, e1]
        have := sg_append (pre ++ t x) ([32, sep.toUInt8, 32] ++ (join [32, sep.toUInt8, 32] (t y :: r.map t) ++ post)) 1
        rw [← hL2] at this
        simp only [List.length_append] at this
        rw [this]
        simp only [sg, List.cons_append, List.length_cons, List.nil_append]
        rw [if_pos (by omega)]
        simpa using hsn
      have hL3 : L = (pre ++ t x ++ [32, sep.toUInt8, 32]) ++ join [32, sep.toUInt8, 32] ((y :: r).map t) ++ post := by rw [hL]; simp
      have hjoin : ∃ r2, join [32, sep.toUInt8, 32] ((y :: r).map t) ++ post = c :: r2 := by
        cases r with
        | nil => exact ⟨rr ++ post, by simp [join, hty]⟩
        | cons z r => exact ⟨_, by simp only [List.map_cons]; rw [join_two, hty]; simp; rfl⟩
      obtain ⟨r2, hr2⟩ := hjoin
      have e3 : skip L (pre.length + (t x).length + 1 + 1) = (pre ++ t x ++ [32, sep.toUInt8, 32]).length := by
        have h3 : L = (pre ++ t x ++ [32, sep.toUInt8]) ++ (32 :: c :: r2) := by rw [hL3, List.append_assoc _ _ post, hr2]; simp
        have := skip_append (pre ++ t x ++ [32, sep.toUInt8]) (32 :: c :: r2) 0
        rw [Nat.add_zero, ← h3] at this
        have e4 : skip (32 :: c :: r2) 0 = 1 := by
          rw [skip_blank _ 0 (by simp) (by simp)]
          exact skip_stop _ 1 (by simp) (by simp; intro e; apply hc; rw [e]; rfl)
        rw [e4] at this
        simp only [List.length_append, List.length_cons, List.length_nil] at this ⊢
        rw [show pre.length + (t x).length + 1 + 1 = pre.length + (t x).length + (0 + 1 + 1) from by omega, this]
      have hlen : pre.length + (t x).length + 1 + 1 ≤ L.length := by rw [hL3]; simp; omega
      have hrec := ih (by simp) (fun z hz => hx z (List.mem_cons_of_mem x hz)) f (pre ++ t x ++ [32, sep.toUInt8, 32]) post (pre.length + (t x).length + 1 + 1) (by simp at hf ⊢; omega) hL3 hQ hlen e3
      unfold listP
      rw [hm]
      simp only [if_pos hsg]
      rw [hms, e1, hrec]
      simp only [List.map_cons]
      congr 3
      simp
      omega
end Ex
namespace Ex
theorem skip_twice (l : List UInt8) (i : Nat) (h : i ≤ l.length) : skip l (skip l i) = skip l i := by
  by_cases h1 : skip l i < l.length
  · have h2 : sg l (skip l i) ≠ 32 := fun e => by have := (sg_skip l i h).1 e; omega
    refine skip_stop l _ h1 (fun e => h2 ?_)
    simp only [sg, if_pos h1, e]; rfl
  · exact skip_end l _ (by omega)
theorem sg_head (pre : List UInt8) (c : UInt8) (r : List UInt8) : sg (pre ++ c :: r) pre.length = c.toNat := by
  have := sg_append pre (c :: r) 0
  rw [Nat.add_zero, sg_cons] at this
  exact this
theorem skip_head (pre : List UInt8) (c : UInt8) (r : List UInt8) (h : c.toNat ≠ 32) : skip (pre ++ c :: r) pre.length = pre.length := by
  have := skip_append pre (c :: r) 0
  rw [Nat.add_zero, skip_cons c r h, Nat.add_zero] at this
  exact this
theorem nm_not_end (c : UInt8) (h : Nm.nm (c.toNat : Int) = true) : ends c.toNat = false := by
  unfold Nm.nm Nm.lo Nm.di at h
  simp only [Bool.or_eq_true, Bool.and_eq_true, decide_eq_true_eq, beq_iff_eq] at h
  unfold ends
  simp only [List.contains_eq_mem, List.mem_cons, List.not_mem_nil, or_false, decide_eq_false_iff_not]
  omega
theorem name_signs (nm : List UInt8) (h : Nm.name nm = true) : (∀ c, c ∈ nm → ends c.toNat = false) ∧ ∃ c r, nm = c :: r ∧ 97 ≤ c.toNat ∧ c.toNat ≤ 122 := by
  unfold Nm.name at h
  simp only [Bool.and_eq_true, Bool.not_eq_true', decide_eq_true_eq] at h
  obtain ⟨⟨⟨⟨h1, _⟩, h3⟩, h4⟩, _⟩ := h
  refine ⟨?_, ?_⟩
  · intro c hc
    unfold Nm.upto at h4
    rw [List.take_length, List.all_eq_true] at h4
    exact nm_not_end c (h4 c hc)
  · cases nm with
    | nil => simp at h1
    | cons c r =>
      refine ⟨c, r, rfl, ?_⟩
      unfold Nm.lo Nm.sign at h3
      simp at h3
      omega
theorem takeWhile_stop (nm post : List UInt8) (h : ∀ c, c ∈ nm → ends c.toNat = false) (hp : Stop post) : ((nm ++ post).takeWhile fun c => !ends c.toNat) = nm := by
  induction nm with
  | nil =>
    cases post with
    | nil => rfl
    | cons c r =>
      unfold Stop at hp
      rw [sg_cons] at hp
      simp [hp]
  | cons c r ih =>
    have hc := h c (by simp)
    simp [hc, ih (fun d hd => h d (by simp [hd]))]
theorem name_back (L pre nm post : List UInt8) (k i : Nat) (hL : L = pre ++ nm ++ post) (hn : Nm.name nm = true) (hp : Stop post) (hsk : skip L i = pre.length) :
    nameP L k i = .inr (⟨k, nm, []⟩, pre.length + nm.length) := by
  obtain ⟨h1, c, r, hc, h2, h3⟩ := name_signs nm hn
  have hw : wend L pre.length = pre.length + nm.length := by
    have := wend_append pre (nm ++ post) 0
    rw [Nat.add_zero, ← List.append_assoc, ← hL] at this
    rw [this]
    unfold wend
    rw [List.drop_zero, takeWhile_stop nm post h1 hp]
    omega
  have hs : sg L pre.length = c.toNat := by rw [hL, hc, List.append_assoc]; exact sg_head pre c _
  have he : ends (sg L pre.length) = false := by rw [hs]; exact h1 c (by rw [hc]; simp)
  have hcut : cut L pre.length (pre.length + nm.length) = nm := by
    unfold cut
    rw [hL, List.append_assoc, List.take_append, List.drop_append]
    simp
  unfold nameP
  simp only [hsk]
  rw [if_neg (by rw [he, hs]; simp; omega), hw, hcut, if_pos hn]
def Qq (post : List UInt8) : Prop := Stop post ∧ nxt post ≠ 38
def Qw (post : List UInt8) : Prop := Stop post ∧ nxt post ≠ 38 ∧ nxt post ≠ 124
theorem stop_sep (s : UInt8) (r : List UInt8) : Stop ([32, s, 32] ++ r) := by unfold Stop; simp [sg, ends]
theorem nxt_sep (s : UInt8) (hs : s.toNat ≠ 32) (r : List UInt8) : nxt ([32, s, 32] ++ r) = s.toNat := by
  unfold nxt
  rw [skip_blank _ 0 (by simp) (by simp), skip_stop _ (0 + 1) (by simp) (by simp; intro e; apply hs; rw [e]; rfl)]
  simp [sg]
theorem join_head (sep : List UInt8) (a : List UInt8) (r : List (List UInt8)) (h : Head a) : Head (join sep (a :: r)) := by
  obtain ⟨c, s, rfl, hc⟩ := h
  cases r with
  | nil => exact ⟨c, s, rfl, hc⟩
  | cons b r => exact ⟨c, s ++ sep ++ join sep (b :: r), by rw [join_two]; simp, hc⟩
theorem eta (x : Ex) (k : Nat) (h1 : x.kind = k) (h2 : x.name = []) : x = ⟨k, [], x.of⟩ := by
  obtain ⟨a, b, c⟩ := x
  simp only at h1 h2
  rw [h1, h2]
theorem made_list (k : Nat) (xs : List Ex) (m : Nat) (h : 2 ≤ xs.length) : made k (.inr (xs, m)) = .inr (⟨k, [], xs⟩, m) := by
  match xs, h with
  | _ :: _ :: _, _ => rfl
theorem part_back (L : List UInt8) (D : Nat) (HP : ∀ x, FitP D x → Nice L Stop (pieceP L D) x (tP x) ∧ Head (tP x)) (x : Ex) (hx : FitQ (FitP D) x) : Nice L Qq (partP L (pieceP L D)) x (tQ x) ∧ Head (tQ x) := by
  have hsep : ∀ r, Stop ([32, (38 : Nat).toUInt8, 32] ++ r) := fun r => stop_sep _ r
  have hlast : ∀ post, Qq post → Stop post ∧ nxt post ≠ 38 := fun post h => h
  rcases hx with ⟨h1, h2, h3, h4⟩ | ⟨h1, h2⟩
  · have ht : tQ x = join [32, (38 : Nat).toUInt8, 32] (x.of.map tP) := by
      rw [eta x 6 h1 h2]; unfold tQ; rw [text6]; rfl
    have hne : x.of ≠ [] := by intro e; rw [e] at h3; simp at h3
    have hall : ∀ y, y ∈ x.of → Nice L Stop (pieceP L D) y (tP y) ∧ Head (tP y) := fun y hy => HP y (h4 y hy)
    refine ⟨?_, ?_⟩
    · intro pre post i hL hQ hi hsk
      rw [ht] at hL
      have hjl := join_len [32, (38 : Nat).toUInt8, 32] rfl (x.of.map tP) (by simpa using hne)
      have hf : x.of.length ≤ L.length + 1 := by
        rw [List.length_map] at hjl
        have : L.length = pre.length + (join [32, (38 : Nat).toUInt8, 32] (x.of.map tP)).length + post.length := by rw [hL]; simp; omega
        omega
      have := list_back L 38 (by decide) (by decide) Qq Stop (pieceP L D) hsep hlast x.of tP hne hall (L.length + 1) pre post i hf hL hQ hi hsk
      refine ⟨skip L (pre.length + (tQ x).length), ?_, ?_, ?_⟩
      · unfold partP
        rw [this, made_list 6 _ _ h3, ← eta x 6 h1 h2, ht]
      · exact skip_le L _ (by rw [ht, hL]; simp <;> omega)
      · exact skip_twice L _ (by rw [ht, hL]; simp <;> omega)
    · rw [ht]
      match hof : x.of, hne with
      | y :: r, _ =>
        simp only [List.map_cons]
        exact join_head _ _ _ (hall y (by rw [hof]; simp)).2
  · have ht : tQ x = tP x := by
      unfold tQ tP
      have : decide (7 ≤ x.kind) = decide (6 ≤ x.kind) := by
        by_cases h : 6 ≤ x.kind
        · have : 7 ≤ x.kind := by omega
          simp [h, this]
        · have : ¬ 7 ≤ x.kind := by omega
          simp [h, this]
      rw [this]
    have hn := HP x h2
    rw [ht]
    refine ⟨?_, hn.2⟩
    intro pre post i hL hQ hi hsk
    have := list_back L 38 (by decide) (by decide) Qq Stop (pieceP L D) hsep hlast [x] tP (by simp) (by simpa using hn) (L.length + 1) pre post i (by simp) (by simpa [join] using hL) hQ hi hsk
    simp only [List.map_cons, List.map_nil, join] at this
    refine ⟨skip L (pre.length + (tP x).length), ?_, ?_, ?_⟩
    · unfold partP
      rw [this]
      rfl
    · exact skip_le L _ (by rw [hL]; simp <;> omega)
    · exact skip_twice L _ (by rw [hL]; simp <;> omega)
theorem whole_back (L : List UInt8) (D : Nat) (HP : ∀ x, FitP D x → Nice L Stop (pieceP L D) x (tP x) ∧ Head (tP x)) (x : Ex) (hx : FitW (FitP D) x) : Nice L Qw (wholeP L (pieceP L D)) x x.text ∧ Head x.text := by
  have hq : ∀ y, FitQ (FitP D) y → Nice L Qq (partP L (pieceP L D)) y (tQ y) ∧ Head (tQ y) := part_back L D HP
  have hsep : ∀ r, Qq ([32, (124 : Nat).toUInt8, 32] ++ r) := fun r => ⟨stop_sep _ r, by rw [nxt_sep _ (by decide)]; decide⟩
  have hlast : ∀ post, Qw post → Qq post ∧ nxt post ≠ 124 := fun post h => ⟨⟨h.1, h.2.1⟩, h.2.2⟩
  rcases hx with ⟨h1, h2, h3, h4⟩ | ⟨h1, h2⟩
  · have ht : x.text = join [32, (124 : Nat).toUInt8, 32] (x.of.map tQ) := by
      conv => lhs; rw [eta x 7 h1 h2]
      rw [text7]; rfl
    have hne : x.of ≠ [] := by intro e; rw [e] at h3; simp at h3
    have hall : ∀ y, y ∈ x.of → Nice L Qq (partP L (pieceP L D)) y (tQ y) ∧ Head (tQ y) := fun y hy => hq y (h4 y hy)
    refine ⟨?_, ?_⟩
    · intro pre post i hL hQ hi hsk
      rw [ht] at hL
      have hjl := join_len [32, (124 : Nat).toUInt8, 32] rfl (x.of.map tQ) (by simpa using hne)
      have hf : x.of.length ≤ L.length + 1 := by
        rw [List.length_map] at hjl
        have : L.length = pre.length + (join [32, (124 : Nat).toUInt8, 32] (x.of.map tQ)).length + post.length := by rw [hL]; simp; omega
        omega
      have := list_back L 124 (by decide) (by decide) Qw Qq (partP L (pieceP L D)) hsep hlast x.of tQ hne hall (L.length + 1) pre post i hf hL hQ hi hsk
      refine ⟨skip L (pre.length + x.text.length), ?_, ?_, ?_⟩
      · unfold wholeP
        rw [this, made_list 7 _ _ h3, ← eta x 7 h1 h2, ht]
      · exact skip_le L _ (by rw [ht, hL]; simp <;> omega)
      · exact skip_twice L _ (by rw [ht, hL]; simp <;> omega)
    · rw [ht]
      match hof : x.of, hne with
      | y :: r, _ =>
        simp only [List.map_cons]
        exact join_head _ _ _ (hall y (by rw [hof]; simp)).2
  · have ht : tQ x = x.text := by
      have hk : x.kind ≤ 6 := by
        rcases h2 with ⟨h2, _⟩ | ⟨_, h2⟩
        · omega
        · have := FitP.le7 D x h2; omega
      unfold tQ
      have : ¬ 7 ≤ x.kind := by omega
      simp [this, par]
    have hn := hq x h2
    rw [ht] at hn
    refine ⟨?_, hn.2⟩
    intro pre post i hL hQ hi hsk
    have := list_back L 124 (by decide) (by decide) Qw Qq (partP L (pieceP L D)) hsep hlast [x] text (by simp) (by simpa using hn) (L.length + 1) pre post i (by simp) (by simpa [join] using hL) hQ hi hsk
    simp only [List.map_cons, List.map_nil, join] at this
    refine ⟨skip L (pre.length + x.text.length), ?_, ?_, ?_⟩
    · unfold wholeP
      rw [this]
      rfl
    · exact skip_le L _ (by rw [hL]; simp <;> omega)
    · exact skip_twice L _ (by rw [hL]; simp <;> omega)
theorem piece_step (L : List UInt8) (D i j c : Nat) (h1 : skip L i = j) (h2 : sg L j = c) : pieceP L (D + 1) i =
    if c = 33 then notP (pieceP L D (j + 1)) else if c = 40 then parP L (wholeP L (pieceP L D) (j + 1)) else if c = 48 then .inr (⟨0, [], []⟩, j + 1) else if c = 49 then .inr (⟨1, [], []⟩, j + 1)
    else if c = 94 then nameP L 3 (j + 1) else if c = 126 then nameP L 4 (j + 1) else nameP L 2 j := by
  subst h1 h2
  rfl
theorem tP_low (x : Ex) (h : ¬ 6 ≤ x.kind) : tP x = x.text := by unfold tP; simp [h, par]
theorem piece_back (L : List UInt8) : ∀ (D : Nat) (x : Ex), FitP D x → Nice L Stop (pieceP L D) x (tP x) ∧ Head (tP x) := by
  intro D
  induction D with
  | zero => intro x h; exact absurd h (by simp [FitP])
  | succ D ih =>
    intro x h
    have hFW : 6 ≤ x.kind → FitW (FitP D) x := by
      intro hk
      have h' := h
      unfold FitP at h'
      rcases h' with ⟨h1, _⟩ | ⟨_, h1, _⟩ | ⟨h1, _⟩ | ⟨h1, h2, h3, h4⟩ | ⟨h1, h2, h3, h4⟩
      · omega
      · omega
      · omega
      · exact .inr ⟨by omega, .inl ⟨h1, h2, h3, h4⟩⟩
      · exact .inl ⟨h1, h2, h3, h4⟩
    by_cases hk6 : 6 ≤ x.kind
    · have hW := whole_back L D ih x (hFW hk6)
      have ht : tP x = 40 :: (x.text ++ [41]) := by unfold tP; simp [hk6, par]
      rw [ht]
      refine ⟨?_, ⟨40, _, rfl, by decide⟩⟩
      intro pre post i hL hQ hi hsk
      have hL1 : L = pre ++ 40 :: (x.text ++ [41] ++ post) := by rw [hL]; simp
      have hs : sg L pre.length = 40 := by rw [hL1]; exact sg_head pre 40 _
      have hL2 : L = (pre ++ [40]) ++ x.text ++ (41 :: post) := by rw [hL]; simp
      obtain ⟨c, r, hc, hc32⟩ := hW.2
      have hsk2 : skip L (pre.length + 1) = (pre ++ [40]).length := by
        have h3 : L = (pre ++ [40]) ++ c :: (r ++ 41 :: post) := by rw [hL2, hc]; simp
        have := skip_head (pre ++ [40]) c (r ++ 41 :: post) hc32
        rw [← h3] at this
        simpa using this
      have hlen : pre.length + 1 ≤ L.length := by rw [hL1]; simp <;> omega
      obtain ⟨m, hm, hml, hms⟩ := hW.1 (pre ++ [40]) (41 :: post) (pre.length + 1) hL2 ⟨by simp [Stop, sg_cons, ends], by unfold nxt; rw [skip_cons _ _ (by decide), sg_cons]; decide, by unfold nxt; rw [skip_cons _ _ (by decide), sg_cons]; decide⟩ hlen hsk2
      have hL3 : L = ((pre ++ [40]) ++ x.text) ++ 41 :: post := hL2
      have e1 : skip L ((pre ++ [40]).length + x.text.length) = (pre ++ [40]).length + x.text.length := by
        have := skip_head ((pre ++ [40]) ++ x.text) 41 post (by decide)
        rw [← hL3, List.length_append] at this
        exact this
      have e2 : sg L ((pre ++ [40]).length + x.text.length) = 41 := by
        have := sg_head ((pre ++ [40]) ++ x.text) 41 post
        rw [← hL3, List.length_append] at this
        exact this
      refine ⟨(pre ++ [40]).length + x.text.length + 1, ?_, ?_, ?_⟩
      · rw [piece_step L D i _ 40 hsk hs, if_neg (by decide), if_pos rfl, hm]
        unfold parP
        simp only [hms, e1, e2, if_true]
      · rw [hL2]; simp <;> omega
      · congr 1; simp <;> omega
    · rw [tP_low x hk6]
      have h' := h
      unfold FitP at h'
      rcases h' with ⟨h1, h2, h3⟩ | ⟨h0, h1, h2, h3⟩ | ⟨h1, h2, y, h3, h4⟩ | ⟨h1, _⟩ | ⟨h1, _⟩
      · obtain ⟨k, nm, l⟩ := x
        simp only at h1 h2 h3
        subst h2 h3
        match k, h1 with
        | 0, _ =>
          have ht : text ⟨0, [], []⟩ = [48] := by simp [text]
          rw [ht]
          refine ⟨?_, ⟨48, [], rfl, by decide⟩⟩
          intro pre post i hL hQ hi hsk
          have hs : sg L pre.length = 48 := by rw [hL, List.append_assoc]; exact sg_head pre 48 _
          exact ⟨pre.length + 1, by rw [piece_step L D i _ 48 hsk hs, if_neg (by decide), if_neg (by decide), if_pos rfl], by rw [hL]; simp, rfl⟩
        | 1, _ =>
          have ht : text ⟨1, [], []⟩ = [49] := by simp [text]
          rw [ht]
          refine ⟨?_, ⟨49, [], rfl, by decide⟩⟩
          intro pre post i hL hQ hi hsk
          have hs : sg L pre.length = 49 := by rw [hL, List.append_assoc]; exact sg_head pre 49 _
          exact ⟨pre.length + 1, by rw [piece_step L D i _ 49 hsk hs, if_neg (by decide), if_neg (by decide), if_neg (by decide), if_pos rfl], by rw [hL]; simp, rfl⟩
      · obtain ⟨k, nm, l⟩ := x
        simp only at h0 h1 h2 h3
        subst h3
        obtain ⟨hns, c, r, hc, hc1, hc2⟩ := name_signs nm h2
        match k, h0, h1 with
        | 2, _, _ =>
          have ht : text ⟨2, nm, []⟩ = nm := by simp [text]
          rw [ht]
          refine ⟨?_, ⟨c, r, hc, by omega⟩⟩
          intro pre post i hL hQ hi hsk
          have hs : sg L pre.length = c.toNat := by rw [hL, hc, List.append_assoc]; exact sg_head pre c _
          have hsk2 : skip L pre.length = pre.length := by rw [← hsk]; exact skip_twice L i hi
          exact ⟨pre.length + nm.length, by rw [piece_step L D i _ _ hsk hs, if_neg (by omega), if_neg (by omega), if_neg (by omega), if_neg (by omega), if_neg (by omega), if_neg (by omega)]; exact name_back L pre nm post 2 _ hL h2 hQ hsk2, by rw [hL]; simp <;> omega, rfl⟩
        | 3, _, _ =>
          have ht : text ⟨3, nm, []⟩ = 94 :: nm := by simp [text]
          rw [ht]
          refine ⟨?_, ⟨94, nm, rfl, by decide⟩⟩
          intro pre post i hL hQ hi hsk
          have hs : sg L pre.length = 94 := by rw [hL, List.append_assoc]; exact sg_head pre 94 _
          have hL2 : L = (pre ++ [94]) ++ nm ++ post := by rw [hL]; simp
          have hsk2 : skip L (pre.length + 1) = (pre ++ [94]).length := by
            have := skip_head (pre ++ [94]) c (r ++ post) (by omega)
            rw [show (pre ++ [94]) ++ c :: (r ++ post) = L from by rw [hL2, hc]; simp] at this
            simpa using this
          exact ⟨pre.length + (94 :: nm).length, by rw [piece_step L D i _ 94 hsk hs, if_neg (by decide), if_neg (by decide), if_neg (by decide), if_neg (by decide), if_pos rfl, name_back L (pre ++ [94]) nm post 3 _ hL2 h2 hQ hsk2]; congr 2; simp <;> omega, by rw [hL]; simp <;> omega, rfl⟩
        | 4, _, _ =>
          have ht : text ⟨4, nm, []⟩ = 126 :: nm := by simp [text]
          rw [ht]
          refine ⟨?_, ⟨126, nm, rfl, by decide⟩⟩
          intro pre post i hL hQ hi hsk
          have hs : sg L pre.length = 126 := by rw [hL, List.append_assoc]; exact sg_head pre 126 _
          have hL2 : L = (pre ++ [126]) ++ nm ++ post := by rw [hL]; simp
          have hsk2 : skip L (pre.length + 1) = (pre ++ [126]).length := by
            have := skip_head (pre ++ [126]) c (r ++ post) (by omega)
            rw [show (pre ++ [126]) ++ c :: (r ++ post) = L from by rw [hL2, hc]; simp] at this
            simpa using this
          exact ⟨pre.length + (126 :: nm).length, by rw [piece_step L D i _ 126 hsk hs, if_neg (by decide), if_neg (by decide), if_neg (by decide), if_neg (by decide), if_neg (by decide), if_pos rfl, name_back L (pre ++ [126]) nm post 4 _ hL2 h2 hQ hsk2]; congr 2; simp <;> omega, by rw [hL]; simp <;> omega, rfl⟩
      · have ht : x.text = 33 :: tP y := by
          conv => lhs; rw [eta x 5 h1 h2, h3]
          rw [text5]; rfl
        have hy := ih y h4
        rw [ht]
        refine ⟨?_, ⟨33, _, rfl, by decide⟩⟩
        intro pre post i hL hQ hi hsk
        have hs : sg L pre.length = 33 := by rw [hL, List.append_assoc]; exact sg_head pre 33 _
        have hL2 : L = (pre ++ [33]) ++ tP y ++ post := by rw [hL]; simp
        obtain ⟨c, r, hc, hc32⟩ := hy.2
        have hsk2 : skip L (pre.length + 1) = (pre ++ [33]).length := by
          have := skip_head (pre ++ [33]) c (r ++ post) hc32
          rw [show (pre ++ [33]) ++ c :: (r ++ post) = L from by rw [hL2, hc]; simp] at this
          simpa using this
        have hlen : pre.length + 1 ≤ L.length := by rw [hL]; simp <;> omega
        obtain ⟨m, hm, hml, hms⟩ := hy.1 (pre ++ [33]) post (pre.length + 1) hL2 hQ hlen hsk2
        refine ⟨m, ?_, hml, ?_⟩
        · rw [piece_step L D i _ 33 hsk hs, if_pos rfl, hm]
          unfold notP
          simp only
          rw [eta x 5 h1 h2, h3]
        · rw [hms]; congr 1; simp; omega
      · omega
      · omega
/-- WHAT AN EXPRESSION's TEXT TELLS IS THAT EXPRESSION AGAIN -/
theorem parse_back (l : List UInt8) (x : Ex) (h : parse l = .inr x) (hlen : x.text.length ≤ 2000) : parse x.text = .inr x := by
  have hf := parse_fit l x h
  have hW := whole_back x.text 20 (piece_back x.text 20) x hf
  obtain ⟨c, r, hc, hc32⟩ := hW.2
  have hsk : skip x.text 0 = ([] : List UInt8).length := by rw [hc]; exact skip_cons c r hc32
  obtain ⟨m, hm, hml, hms⟩ := hW.1 [] [] 0 (by simp) ⟨by simp [Stop, sg, ends], by simp [nxt, sg, skip], by simp [nxt, sg, skip]⟩ (Nat.zero_le _) hsk
  unfold parse
  rw [if_neg (by omega), hm]
  simp only
  rw [hms]
  have : skip x.text (([] : List UInt8).length + x.text.length) = x.text.length := by simp [skip_end]
  rw [this, if_neg (by omega)]
end Ex
end
end Go.Proofs.YtgldbliohpfljaaGreatDoor
