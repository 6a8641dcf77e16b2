/-
  The walk of package route's Text.
-/
import Derived.Test.YtmniiclmimidjaaDoorRjTrack
import Derived.Test.YtmniiclmimidjaaDoorRoBld
import Derived.Test.YtmniiclmimidjaaDoorRoItoa
import Derived.Carry
namespace Go.Proofs.YtmniiclmimidjaaDoor
namespace Ro
open Go.RowKit Go.Maps
def dig (n : Int) : UInt8 := UInt8.ofNat (48 + n.toNat)
def sgn (b : Bool) : UInt8 := if b then 43 else 45
def secT (l : List Int) : List UInt8 := l.flatMap fun s => [32, dig s]
def ptT (l : List (Int × Bool)) : List UInt8 := l.flatMap fun p => [32, dig p.1, sgn p.2]
def rtT (r : Rt) : List UInt8 := [114, 111, 117, 116, 101] ++ secT r.secs ++ [32, 58] ++ ptT r.pts ++ [10]
def headT (s p : Int) : List UInt8 := [115, 101, 99, 116, 105, 111, 110, 115, 32] ++ [dig s] ++ [10] ++ ([112, 111, 105, 110, 116, 115, 32] ++ [dig p] ++ [10])
def rtsT (l : List Rt) : List UInt8 := l.flatMap rtT
theorem secT_snoc (l : List Int) (s : Int) : secT (l ++ [s]) = secT l ++ [32, dig s] := by unfold secT; simp
theorem ptT_snoc (l : List (Int × Bool)) (p : Int × Bool) : ptT (l ++ [p]) = (ptT l ++ [32, dig p.1]) ++ [sgn p.2] := by unfold ptT; simp
theorem rtsT_snoc (l : List Rt) (r : Rt) : rtsT (l ++ [r]) = rtsT l ++ rtT r := by unfold rtsT; simp
theorem secT_len : ∀ l, (secT l).length = 2 * l.length
  | [] => rfl
  | s :: l => by
    have h := secT_len l
    unfold secT at *
    rw [List.flatMap_cons, List.length_append, h, List.length_cons]
    simp
    omega
theorem ptT_len : ∀ l, (ptT l).length = 3 * l.length
  | [] => rfl
  | s :: l => by
    have h := ptT_len l
    unfold ptT at *
    rw [List.flatMap_cons, List.length_append, h, List.length_cons]
    simp
    omega
/-- tables whose text is short -/
structure Short (t : Tbl) : Prop where
  few : t.rts.length ≤ 8
  s0 : 0 ≤ t.secs ∧ t.secs < 4
  p0 : 0 ≤ t.pts ∧ t.pts < 4
  secs : ∀ r, r ∈ t.rts → r.secs.length ≤ 20 ∧ ∀ s, s ∈ r.secs → 0 ≤ s ∧ s < 4
  pts : ∀ r, r ∈ t.rts → r.pts.length ≤ 20 ∧ ∀ p, p ∈ r.pts → 0 ≤ p.1 ∧ p.1 < 4
theorem rtT_len (r : Rt) (h1 : r.secs.length ≤ 20) (h2 : r.pts.length ≤ 20) : (rtT r).length ≤ 200 := by
  unfold rtT
  simp only [List.length_append, secT_len, ptT_len, List.length_cons, List.length_nil]
  omega
theorem rtsT_len : ∀ (l : List Rt), (∀ r, r ∈ l → r.secs.length ≤ 20 ∧ r.pts.length ≤ 20) → (rtsT l).length ≤ 200 * l.length
  | [], _ => by simp [rtsT]
  | r :: l, h => by
    have ih := rtsT_len l fun x hx => h x (List.mem_cons_of_mem _ hx)
    have h1 := h r (by simp)
    have h2 := rtT_len r h1.1 h1.2
    unfold rtsT at *
    rw [List.flatMap_cons, List.length_append, List.length_cons]
    omega
theorem lawB : Keyed Tryd.prog 4 := bool_keyed Tryd.underlying4
theorem zeroY (w : World) : (zeroValue 5).run Tryd.prog w = .ok (.int .u8 0) w := by kernel_rfl
/-- the map of signs -/
def SMap (W : World) (b : Nat) : Prop := ∃ (n : Nat) (D : DataW Value), W.ownsMap Tryd.prog 4 heldR b n D ∧ ∀ x : Bool, D.atKey (.bool x) .nil = .held (.int .u8 ((sgn x).toNat : Int))
theorem SMap.kept {W W' : World} {b : Nat} (h : SMap W b) (hb : W'.heap[b]? = W.heap[b]?) : SMap W' b := by
  obtain ⟨n, D, ⟨es, clock, h1, h2⟩, h3⟩ := h
  exact ⟨n, D, ⟨es, clock, hb.trans h1, h2⟩, h3⟩
theorem SMap.lt {W : World} {b : Nat} (h : SMap W b) : b < W.heap.size := by obtain ⟨_, _, h, _⟩ := h; exact h.lt
theorem SMap.look {W : World} {b : Nat} (h : SMap W b) (x : Bool) : (Instr.lookup 65 (.map (some b)) (.bool x) false).run Tryd.prog W = .ok (.int .u8 ((sgn x).toNat : Int)) W := by
  obtain ⟨n, D, ⟨es, clock, hb, F, _, rfl⟩, h3⟩ := h
  have h4 := h3 x
  rcases Maps.fit_look false lawB Tryd.underlying65 (zeroY W) hb F (keyOf_bool_mk Tryd.underlying4 x) with ⟨hrun, _, hat⟩ | ⟨e0, y, _, _, hrun, hRv, hat, _⟩
  · rw [hat .nil] at h4
    cases h4
  · rw [hat .nil] at h4
    obtain rfl : y = (.held e0.val, []) := (Option.some.inj hRv).symm
    have h5 : e0.val = .int .u8 ((sgn x).toNat : Int) := DataW.held.inj h4
    rw [hrun, h5]; rfl
theorem signs_made (w : World) : ∃ W1 W2 : World,
    (Instr.mapUpdate 65 (.map (some w.heap.size)) (.bool true) (.int .u8 43)).run Tryd.prog (w.alloc (.map #[] 0)) = .ok () W1 ∧
    (Instr.mapUpdate 65 (.map (some w.heap.size)) (.bool false) (.int .u8 45)).run Tryd.prog W1 = .ok () W2 ∧ SMap W2 w.heap.size ∧ Below w.heap.size w W2 := by
  have h0 : (w.alloc (.map #[] 0)).ownsMap Tryd.prog 4 heldR w.heap.size 0 (.map []) := World.ownsMap_made _ _ _ _
  obtain ⟨W1, r1, h1, g1⟩ := h0.update lawB Tryd.underlying65 (by decide) (keyOf_bool_mk Tryd.underlying4 true) (show heldR (.int .u8 43) = some (.held (.int .u8 43), []) from rfl)
  obtain ⟨W2, r2, h2, g2⟩ := h1.update lawB Tryd.underlying65 (by decide) (keyOf_bool_mk Tryd.underlying4 false) (show heldR (.int .u8 45) = some (.held (.int .u8 45), []) from rfl)
  refine ⟨W1, W2, r1, r2, ⟨_, _, h2, fun x => ?_⟩, below_grown1 (below_grown1 (newB _ _) g1 (Nat.le_refl _)) g2 (Nat.le_refl _)⟩
  cases x with
  | false =>
    rw [atKey_put_same h1.isMap (lawB.key (keyOf_bool_mk Tryd.underlying4 false))]
    rfl
  | true =>
    rw [atKey_put_other (by simp), atKey_put_same h0.isMap (lawB.key (keyOf_bool_mk Tryd.underlying4 true))]
    rfl
theorem ws2_any (b : Nat) (l : List UInt8) (s : ByteArray) (w : World) (h : Bld b (Lib.byteCells l) w) (hlen : l.length + s.size ≤ 100000000) :
    Calls Tryd.prog 23 #[.pointer (some ⟨b, 0, none⟩), .string s] w fun e w' => e = .returned (.tuple #[.int .i64 (s.size : Int), .nilIface]) ∧ Bld b (Lib.byteCells (l ++ s.data.toList)) w' ∧ Kb b w w' := by
  refine (WriteString_any b _ s w h (by rw [Lib.byteCells_length]; omega)).mono ?_
  rintro e w1 ⟨rfl, hb, hk⟩
  exact ⟨rfl, by rw [byteCells_append]; exact hb, hk⟩
theorem wb2_any (b : Nat) (l : List UInt8) (c : UInt8) (w : World) (h : Bld b (Lib.byteCells l) w) (hlen : l.length ≤ 100000000) :
    Calls Tryd.prog 25 #[.pointer (some ⟨b, 0, none⟩), .int .u8 (c.toNat : Int)] w fun e w' => e = .returned .nilIface ∧ Bld b (Lib.byteCells (l ++ [c])) w' ∧ Kb b w w' := by
  refine (WriteByte_any b _ (c.toNat : Int) w h (by rw [Lib.byteCells_length]; omega)).mono ?_
  rintro e w1 ⟨rfl, hb, hk⟩
  exact ⟨rfl, by rw [byteCells_append]; exact hb, hk⟩
theorem itoaI_any (n : Int) (h0 : 0 ≤ n) (h4 : n < 4) (w : World) : Calls Tryd.prog 24 #[.int .i64 n] w fun e w' => e = .returned (.string ⟨#[dig n]⟩) ∧ w' = w := by
  have h := itoa_any n.toNat (by omega) w
  rw [show ((n.toNat : Nat) : Int) = n by omega] at h
  exact h
end Ro
end Go.Proofs.YtmniiclmimidjaaDoor
