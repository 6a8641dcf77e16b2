/-
  The walks of writeBetween, writeWithin and write: what is written is the plain function 'text'.
-/
import Derived.Test.YtmchohajfgemcaaDoorTxLeaf
namespace Go.Proofs.YtmchohajfgemcaaDoor
open Go.RowKit
theorem strCells_of (l : List UInt8) : Lib.strCells ⟨l.toArray⟩ = Lib.byteCells l := rfl
theorem byteCells_append (a b : List UInt8) : Lib.byteCells (a ++ b) = Lib.byteCells a ++ Lib.byteCells b := by simp [Lib.byteCells]
/-- writing these bytes: they stand behind what the builder holds; all else stands -/
def Writes (b : Nat) (l t : List UInt8) (w : World) (e : Ending) (w' : World) : Prop := e = .returned (.tuple #[]) ∧ Bld b (Lib.byteCells (l ++ t)) w' ∧ Kb b w w'
theorem between_any (b : Nat) (l : List UInt8) (i : Nat) (sgn : List UInt8) (w : World) (h : Bld b (Lib.byteCells l) w) (hlen : l.length + sgn.length ≤ 140737488355328) (hi : i ≤ 9223372036854775807) :
    Calls Tryd.prog 131 #[.pointer (some ⟨b, 0, none⟩), .int .i64 (i : Int), .string ⟨sgn.toArray⟩] w (Writes b l (if 0 < i then sgn else []) w) := by
  have H := hide h
  have HS : Hid ((⟨sgn.toArray⟩ : ByteArray).size = sgn.length) := by show _ = _; simp [ByteArray.size]
  clear h
  by_cases h0 : 0 < i
  · have h0' : (0 : Int) < (i : Int) := by omega
    rw [if_pos h0]
    go_enter Tryd.func131, Tryd.ntmps131
    go_wp2_with fail
    refine (WriteString_any b _ ⟨sgn.toArray⟩ w H.out (by rw [Lib.byteCells_length, HS.out]; exact hlen)).mono ?_
    rintro e w1 ⟨rfl, hb, hk⟩
    have HB := hide hb
    have HK := hide hk
    clear hb hk
    go_wp2_with fail
    go_end0
    exact ⟨rfl, by rw [byteCells_append, ← strCells_of sgn]; exact HB.out, HK.out⟩
  · have h0' : ¬ (0 : Int) < (i : Int) := by omega
    rw [if_neg h0]
    go_enter Tryd.func131, Tryd.ntmps131
    go_wp2_with fail
    go_end0
    exact ⟨rfl, by rw [List.append_nil]; exact H.out, Kb.refl _ _⟩
/-- an expression in blocks below b that are no rows of bytes -/
def Lies (b : Nat) (w : World) (x : Ex) (v : Value) : Prop := IsEx (fun g => g < b) w x v
theorem Lies.keep {b : Nat} {w w' : World} {x : Ex} {v : Value} (h : Lies b w x v) (hk : Kb b w w') : Lies b w' x v :=
  IsEx.stay (fun g i u hg hc => by rw [hk.1.cell (p := ⟨g, i, none⟩) hg]; exact hc) (fun g hg => hg) x v h
/-- writing an expression -/
def WriteOK (x : Ex) : Prop := ∀ (b : Nat) (v : Value) (l : List UInt8) (w : World), Lies b w x v → Bld b (Lib.byteCells l) w → l.length + x.text.length ≤ 1000000 →
  Calls Tryd.prog 127 #[.pointer (some ⟨b, 0, none⟩), v] w (Writes b l x.text w)
set_option maxHeartbeats 1000000 in
theorem within_any (x : Ex) (hx : WriteOK x) (b : Nat) (v : Value) (par : Bool) (l : List UInt8) (w : World) (hv : Lies b w x v) (h : Bld b (Lib.byteCells l) w) (hlen : l.length + (Ex.par par x.text).length ≤ 1000000) :
    Calls Tryd.prog 129 #[.pointer (some ⟨b, 0, none⟩), v, .bool par] w (Writes b l (Ex.par par x.text) w) := by
  have H := hide h
  have HV := hide hv
  have HX := hide hx
  clear h hv hx
  cases par with
  | false =>
    have hlen' : l.length + x.text.length ≤ 1000000 := by simpa [Ex.par] using hlen
    go_enter Tryd.func129, Tryd.ntmps129
    go_wp2_with fail
    refine (HX.out b v l w HV.out H.out hlen').mono ?_
    rintro e w1 ⟨rfl, hb, hk⟩
    have HB := hide hb
    have HK := hide hk
    clear hb hk
    go_wp2_with fail
    first | go_end0 | refine bodyPost_ret (results_none rfl _ _ _) rfl ?_
    exact ⟨rfl, HB.out, HK.out⟩
  | true =>
    have hlen' : l.length + x.text.length + 2 ≤ 1000000 := by have := hlen; simp [Ex.par] at this; omega
    go_enter Tryd.func129, Tryd.ntmps129
    go_wp2_with fail
    refine (WriteByte_any b _ 40 w H.out (by rw [Lib.byteCells_length]; omega)).mono ?_
    rintro e w1 ⟨rfl, hb1, hk1⟩
    have HB1 : Hid (Bld b (Lib.byteCells (l ++ [40])) w1) := by show Bld _ _ _; rw [byteCells_append]; exact hb1
    have HK1 := hide hk1
    clear hb1 hk1
    go_wp2_with fail
    refine (HX.out b v (l ++ [40]) w1 (HV.out.keep HK1.out) HB1.out (by simp; omega)).mono ?_
    rintro e w2 ⟨rfl, hb2, hk2⟩
    have HB2 := hide hb2
    have HK2 := hide hk2
    clear hb2 hk2
    go_wp2_with fail
    refine (WriteByte_any b _ 41 w2 HB2.out (by rw [Lib.byteCells_length]; simp; omega)).mono ?_
    rintro e w3 ⟨rfl, hb3, hk3⟩
    have HB3 := hide hb3
    have HK3 := hide hk3
    clear hb3 hk3
    go_wp2_with fail
    first | go_end0 | refine bodyPost_ret (results_none rfl _ _ _) rfl ?_
    refine ⟨rfl, ?_, (HK1.out.trans HK2.out).trans HK3.out⟩
    have e : l ++ Ex.par true x.text = (l ++ [40] ++ x.text) ++ [41] := by simp [Ex.par]
    rw [e, byteCells_append]
    exact HB3.out
end Go.Proofs.YtmchohajfgemcaaDoor
