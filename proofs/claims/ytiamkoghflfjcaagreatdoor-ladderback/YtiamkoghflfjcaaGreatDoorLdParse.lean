/-
  Plain mathematics of chapter 2: a program's text (2.3), reading one (2.4). Nothing of the program is named here.
-/
import Derived.Test.YtiamkoghflfjcaaGreatDoorLdMath
import Derived.Lib.AtoiAll
import Derived.Lib.ItoaNum
namespace Go.Proofs.YtiamkoghflfjcaaGreatDoor
namespace Ld
/-- a text cut at each c -/
def split (c : UInt8) : List UInt8 → List (List UInt8)
  | [] => [[]]
  | a :: r => if a = c then [] :: split c r else match split c r with
    | [] => [[a]]
    | h :: t => (a :: h) :: t
def words (l : List UInt8) : List (List UInt8) := (split 32 l).filter fun w => !w.isEmpty
/-- each with the place of its first byte -/
def placed : Nat → List (List UInt8) → List (Nat × List UInt8)
  | _, [] => []
  | i, a :: r => (i, a) :: placed (i + a.length + 1) r
def isBlank (l : List UInt8) : Bool := l.all fun c => c == 32
def lns (l : List UInt8) : List (Nat × List UInt8) := (placed 0 (split 10 l)).filter fun p => !isBlank p.2
def nameW : Nat → List UInt8
  | 1 => [105, 110, 112, 117, 116]
  | 2 => [99, 111, 105, 108]
  | 3 => [116, 105, 109, 101, 114]
  | 4 => [99, 111, 117, 110, 116, 101, 114]
  | _ => []
def rungW : Nat → List UInt8
  | 2 => [115, 101, 116]
  | 3 => [114, 101, 115, 101, 116]
  | 4 => [114, 117, 110]
  | 5 => [99, 111, 117, 110, 116]
  | 6 => [122, 101, 114, 111]
  | _ => []
def kindN (w : List UInt8) : Nat := if w = nameW 1 then 1 else if w = nameW 2 then 2 else if w = nameW 3 then 3 else if w = nameW 4 then 4 else 0
def kindG (w : List UInt8) : Nat := if w = rungW 2 then 2 else if w = rungW 3 then 3 else if w = rungW 4 then 4 else if w = rungW 5 then 5 else if w = rungW 6 then 6 else 0
/-- a number, as it would be written -/
def rdCount (w : List UInt8) : Option Int := match Lib.atoiAll w with
  | .ok v => if Lib.itoa v = w then some v else none
  | _ => none
def rdName (l : List (List UInt8)) : Option Nme := match l with
  | [w, nm] => if kindN w = 1 ∨ kindN w = 2 then some ⟨nm, (kindN w : Int), 0⟩ else none
  | [w, nm, c] => if kindN w = 3 ∨ kindN w = 4 then (rdCount c).map fun n => ⟨nm, (kindN w : Int), n⟩ else none
  | _ => none
def rdHead (l : List (List UInt8)) : Option (Nat × List UInt8) := match l with
  | [nm] => some (1, nm)
  | [w, nm] => if kindG w = 0 then none else some (kindG w, nm)
  | _ => none
/-- a line's head, and what stands behind the first = -/
def cutE (l : List UInt8) : Option (List UInt8 × List UInt8) := if l.contains 61 then some (l.takeWhile (fun c => c != 61), (l.dropWhile fun c => c != 61).drop 1) else none
structure Rdg where
  names : List Nme
  rungs : List Rng
  starts : List Nat
def take (r : Rdg) (st : Nat) (line : List UInt8) : (Nat × Nat) ⊕ Rdg := match cutE line with
  | none => match rdName (words line) with
    | none => .inl (3, st)
    | some n => if r.rungs = [] then .inr ⟨r.names ++ [n], r.rungs, r.starts ++ [st]⟩ else .inl (3, st)
  | some (head, t) => match rdHead (words head) with
    | none => .inl (3, st)
    | some (k, nm) => match Ex.parse t with
      | .inl (e, pl) => .inl (e, st + head.length + 1 + pl.getD 0)
      | .inr x => .inr ⟨r.names, r.rungs ++ [⟨(k : Int), nm, some x⟩], r.starts ++ [st]⟩
def takes (r : Rdg) : List (Nat × List UInt8) → (Nat × Nat) ⊕ Rdg
  | [] => .inr r
  | p :: t => match take r p.1 p.2 with
    | .inl e => .inl e
    | .inr r' => takes r' t
/-- what a program that was read comes to -/
def checked (r : Rdg) : (Nat × Option Nat) ⊕ Prg := match check ⟨r.names, r.rungs⟩ with
  | none => .inr ⟨r.names, r.rungs⟩
  | some (e, none) => .inl (e, none)
  | some (e, some i) => .inl (e, some (r.starts.getD i 0))
def parse (l : List UInt8) : (Nat × Option Nat) ⊕ Prg :=
  if 20000 < l.length then .inl (4, none)
  else match takes ⟨[], [], []⟩ (lns l) with
    | .inl (e, p) => .inl (e, some p)
    | .inr r => checked r
def nameT (n : Nme) : List UInt8 := nameW n.kind.toNat ++ [32] ++ n.name ++ (if counted n.kind then 32 :: Lib.itoa n.count else [])
def condT : Option Ex → List UInt8
  | some x => x.text
  | none => []
def headT (r : Rng) : List UInt8 := (if r.kind = 1 then [] else rungW r.kind.toNat ++ [32]) ++ r.name ++ [32]
def rungT (r : Rng) : List UInt8 := headT r ++ [61, 32] ++ condT r.cond
def linesT (p : Prg) : List (List UInt8) := p.names.map nameT ++ p.rungs.map rungT
/-- lines, each with its end -/
def ended (l : List (List UInt8)) : List UInt8 := (l.map fun a => a ++ [10]).flatten
def text (p : Prg) : List UInt8 := if check p = none then ended (linesT p) else []
end Ld
end Go.Proofs.YtiamkoghflfjcaaGreatDoor
