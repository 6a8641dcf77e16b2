/-
  The walks of strings.ContainsRune over the signs that end words, at each byte.
-/
import Derived.Test.YtmjlpcedeonhaaaDoorRpBase
import Derived.Test.YtmjlpcedeonhaaaDoorShelf
import Derived.WalkMore
namespace Go.Proofs.YtmjlpcedeonhaaaDoor
open Go.RowKit
def endSigns : ByteArray := ⟨#[32, 38, 124, 33, 94, 126, 40, 41, 61]⟩
theorem endSigns1 : (endSigns[1]'(by decide)).toNat = 38 := by decide
theorem encode_high : ∀ c : Fin 128, (Utf8.encode ((128 + c.val : Nat) : Int)).size = 2 ∧ 128 ≤ ((Utf8.encode ((128 + c.val : Nat) : Int)).get! 1).toNat ∧ Lib.indexByte (endSigns.extract 2 9).data.toList ((Utf8.encode ((128 + c.val : Nat) : Int)).get! 1) = -1 := by decide +kernel
set_option maxHeartbeats 2000000 in
set_option maxRecDepth 100000 in
theorem indexRune_walk (s rs : ByteArray) (c yn : Nat) (h1 : 128 ≤ c) (h2 : c < 256) (hsz : s.size = 9) (hs1 : (s[1]'(by omega)).toNat = 38) (hen : Utf8.encode (c : Int) = rs) (hrs : rs.size = 2) (hrs1 : (rs[1]'(by omega)).toNat = yn) (hy : 128 ≤ yn)
    (hx : Lib.indexByte (s.extract 2 9).data.toList (yn : Int).toNat.toUInt8 = -1) (w : World) :
    Calls Tryd.prog 72 #[.string s, .int .i32 (c : Int)] w fun e w' => e = .returned (.int .i64 (-1)) ∧ ∃ n, w' = w.drewN n := by
  have hv : Lib.validRune (c : Int) = true := by unfold Lib.validRune; simp; omega
  have e1 : ¬ (c : Int) < 128 := by omega
  have e2 : ((c : Int) == 65533) = false := beq_eq_false_iff_ne.2 (by omega)
  have e3 : ((38 : Int) != (yn : Int)) = true := by simp; omega
  have hw2 : IntKind.i64.wrap 2 = 2 := by decide
  clear hy
  go_enter Tryd.func72, Tryd.ntmps72
  go_wp2_with fail
  refine (Tryd.utf8_ValidRune (c : Int) w).mono ?_
  rintro e w1 ⟨rfl, rfl⟩
  rw [hv]
  go_wp2_with fail
  go_step3
  go_wp2_with fail
  go_loop [9] (fun i => i = .int .i64 1) (fun _ => 0)
  case atStart => exact rfl
  case round =>
    obtain rfl := hrel
    go_wp2_with fail
    go_step3
    go_wp2_with fail
    go_quiet (fail)
    go_wp2_with fail
    go_quiet ((go_at_call 84; refine (Tryd.strings_IndexByte _ _ _).mono ?_; rintro e w'' ⟨rfl, rfl⟩; exact ⟨rfl, _, rfl⟩))
    rw [hx]
    go_wp2_with fail
    rw [Exit.noGoto_ret]
    go_wp2_with fail
    first | rw [Exit.noGoto_ret] | skip
    go_ret
    exact ⟨rfl, _, rfl⟩
theorem indexRune_high (c : Nat) (h1 : 128 ≤ c) (h2 : c < 256) (w : World) :
    Calls Tryd.prog 72 #[.string ⟨#[32, 38, 124, 33, 94, 126, 40, 41, 61]⟩, .int .i32 (c : Int)] w fun e w' => e = .returned (.int .i64 (-1)) ∧ ∃ n, w' = w.drewN n := by
  have hen := encode_high ⟨c - 128, by omega⟩
  rw [show (128 + (⟨c - 128, by omega⟩ : Fin 128).val) = c from by show 128 + (c - 128) = c; omega] at hen
  obtain ⟨rs, hrs⟩ : ∃ rs, Utf8.encode (c : Int) = rs := ⟨_, rfl⟩
  rw [hrs] at hen
  obtain ⟨e1, e2, e3⟩ := hen
  have hg : rs.get! 1 = rs[1]'(by omega) := getElem!_pos rs.data 1 (by show 1 < rs.size; omega)
  rw [hg] at e2 e3
  refine indexRune_walk endSigns rs c _ h1 h2 (by decide) endSigns1 hrs e1 rfl e2 ?_ w
  generalize rs[1]'(by omega) = y at *
  have : ((y.toNat : Int).toNat.toUInt8) = y := by simp
  rw [this]
  exact e3
set_option maxHeartbeats 1000000 in
set_option maxRecDepth 100000 in
theorem containsRune_any (c : Nat) (hc : c < 256) (w : World) :
    Calls Tryd.prog 55 #[.string ⟨#[32, 38, 124, 33, 94, 126, 40, 41, 61]⟩, .int .i32 (c : Int)] w fun e w' => e = .returned (.bool (Ex.ends c)) ∧ ∃ n, w' = w.drewN n := by
  by_cases h1 : c < 128
  · refine (Tryd.strings_ContainsRune_ascii _ (c : Int) w (by omega) (by omega)).mono ?_
    rintro e w' ⟨rfl, rfl⟩
    exact ⟨ret_bool (ends_index c hc), 0, rfl⟩
  · have hx : Ex.ends c = false := by
      have : ∀ c : Fin 128, Ex.ends (128 + c.val) = false := by decide +kernel
      have := this ⟨c - 128, by omega⟩
      rwa [show (128 + (⟨c - 128, by omega⟩ : Fin 128).val) = c from by show 128 + (c - 128) = c; omega] at this
    rw [hx]
    have HX := hide (indexRune_high c (by omega) hc w)
    clear hx h1 hc
    generalize (⟨#[32, 38, 124, 33, 94, 126, 40, 41, 61]⟩ : ByteArray) = s at *
    go_enter Tryd.func55, Tryd.ntmps55
    go_wp2_with fail
    refine HX.out.mono ?_
    rintro e w1 ⟨rfl, n, rfl⟩
    go_wp2_with fail
    go_ret
    exact ⟨rfl, n, rfl⟩
end Go.Proofs.YtmjlpcedeonhaaaDoor
