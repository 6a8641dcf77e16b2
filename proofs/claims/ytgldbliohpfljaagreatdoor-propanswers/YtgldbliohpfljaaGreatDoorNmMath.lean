/-
  Plain mathematics of chapter 1's names: which texts may be names (1.1). Nothing of the program is named here.
-/
namespace Go.Proofs.YtgldbliohpfljaaGreatDoor
namespace Nm
/-- a to z -/
def lo (c : Int) : Bool := decide (97 ≤ c) && decide (c ≤ 122)
/-- 0 to 9 -/
def di (c : Int) : Bool := decide (48 ≤ c) && decide (c ≤ 57)
/-- a sign that may stand in a name -/
def nm (c : Int) : Bool := lo c || di c || c == 95
/-- the words that programs are written with -/
def kept (l : List UInt8) : Bool := l == [105, 110, 112, 117, 116] || l == [99, 111, 105, 108] || l == [116, 105, 109, 101, 114] || l == [99, 111, 117, 110, 116, 101, 114] || l == [115, 101, 116] || l == [114, 101, 115, 101, 116] || l == [114, 117, 110] || l == [99, 111, 117, 110, 116] || l == [122, 101, 114, 111]
def sign (l : List UInt8) (i : Nat) : Int := ((l.getD i 0).toNat : Int)
/-- all of the first k signs may stand in a name -/
def upto (l : List UInt8) (k : Nat) : Bool := (l.take k).all fun c => nm (c.toNat : Int)
/-- a text is a name -/
def name (l : List UInt8) : Bool := !(l.isEmpty) && decide (l.length ≤ 8) && lo (sign l 0) && upto l l.length && !(kept l)

theorem upto_zero (l : List UInt8) : upto l 0 = true := by simp [upto]
theorem upto_succ (l : List UInt8) (k : Nat) (h : k < l.length) : upto l (k + 1) = (upto l k && nm (sign l k)) := by
  have e : l.take (k + 1) = l.take k ++ [l[k]] := by rw [List.take_succ_eq_append_getElem h]
  unfold upto
  rw [e, List.all_append]
  simp [sign, List.getD_eq_getElem?_getD, h]
theorem upto_le (l : List UInt8) (k : Nat) (h : upto l k = false) : upto l l.length = false := by
  unfold upto at *
  rw [List.all_eq_false] at *
  obtain ⟨x, hx, hn⟩ := h
  exact ⟨x, by rw [List.take_length]; exact List.mem_of_mem_take hx, hn⟩
/-- a sign that may not be there: the text is no name -/
theorem no_sign (l : List UInt8) (k : Nat) (h : k < l.length) (hn : nm (sign l k) = false) : name l = false := by
  have : upto l (k + 1) = false := by rw [upto_succ l k h, hn]; simp
  have := upto_le l (k + 1) this
  simp [name, this]
theorem no_first (l : List UInt8) (hn : lo (sign l 0) = false) : name l = false := by simp [name, hn]
theorem no_long (l : List UInt8) (h : 8 < l.length) : name l = false := by
  have : ¬ l.length ≤ 8 := by omega
  simp [name, this]
theorem no_empty (l : List UInt8) (h : l.length = 0) : name l = false := by
  have : l = [] := List.length_eq_zero_iff.1 h
  simp [name, this]
theorem lo_nm (c : Int) (h : lo c = true) : nm c = true := by simp [nm, h]
end Nm
end Go.Proofs.YtgldbliohpfljaaGreatDoor
