/-
  Plain mathematics of promise 11.1 as the document's own check goes: points are told by one number each.
-/
import Derived.Test.YtmniiclmimidjaaDoorRoMath
namespace Go.Proofs.YtmniiclmimidjaaDoor
namespace Ro
/-- a point's number, cut at 1000 -/
def cutN (n : Int) : Int := if n < 0 ∨ 1000 < n then 1000 else n
/-- a point as one number: behind 0 where it lies over -/
def code (p : Int × Bool) : Int := if p.2 then cutN p.1 + 1 else -(cutN p.1 + 1)
def absI (n : Int) : Int := max n (-n)
theorem cutN_bd (n : Int) : 0 ≤ cutN n ∧ cutN n ≤ 1000 := by unfold cutN; split <;> omega
theorem abs_code (p : Int × Bool) : absI (code p) = cutN p.1 + 1 := by
  have := cutN_bd p.1
  unfold code absI
  split <;> omega
theorem code_bd (p : Int × Bool) : -1001 ≤ code p ∧ code p ≤ 1001 := by
  have := cutN_bd p.1
  unfold code
  split <;> omega
/-- a route as the document has it -/
structure Rr where
  secs : List Int
  pts : List Int
def refR (r : Rt) : Rr := ⟨r.secs, r.pts.map code⟩
def farS (s : Int) (l : List Int) : Bool := l.any fun n => !fromTo 0 (s - 1) n
def farP (p : Int) (l : List Int) : Bool := l.any fun n => !fromTo 1 p (absI n)
/-- what is wrong with a route -/
def wrongRr (s p : Int) (r : Rr) : Nat := if r.secs = [] then 8 else if farS s r.secs then 2 else if farP p r.pts then 2 else if twice r.secs then 9 else if twice (r.pts.map absI) then 9 else 0
theorem farP_code (p : Int) (hp : p ≤ 100) (l : List (Int × Bool)) : farP p (l.map code) = beyond (l.map fun x => x.1) p := by
  unfold farP beyond
  rw [List.any_map, List.any_map]
  congr 1
  funext x
  simp only [Function.comp]
  rw [abs_code]
  have := cutN_bd x.1
  unfold fromTo cutN at *
  congr 1
  rw [Bool.eq_iff_iff]
  simp only [Bool.and_eq_true, decide_eq_true_eq]
  split <;> omega
theorem nodup_map_inj {α β : Type} [DecidableEq α] [DecidableEq β] (f : α → β) : ∀ (l : List α), (∀ a, a ∈ l → ∀ b, b ∈ l → f a = f b → a = b) → ((l.map f).Nodup ↔ l.Nodup)
  | [], _ => by simp
  | a :: l, h => by
    rw [List.map_cons, List.nodup_cons, List.nodup_cons, nodup_map_inj f l fun x hx y hy => h x (List.mem_cons_of_mem _ hx) y (List.mem_cons_of_mem _ hy)]
    constructor
    · rintro ⟨h1, h2⟩
      exact ⟨fun hm => h1 (List.mem_map.2 ⟨a, hm, rfl⟩), h2⟩
    · rintro ⟨h1, h2⟩
      refine ⟨fun hm => ?_, h2⟩
      obtain ⟨b, hb, e⟩ := List.mem_map.1 hm
      have := h b (List.mem_cons_of_mem _ hb) a (by simp) e
      subst this
      exact h1 hb
theorem twice_code (p : Int) (hp : p ≤ 100) (l : List (Int × Bool)) (h : beyond (l.map fun x => x.1) p = false) : twice ((l.map code).map absI) = twice (l.map fun x => x.1) := by
  have e : (l.map code).map absI = (l.map fun x => x.1).map fun n => cutN n + 1 := by
    rw [List.map_map, List.map_map]
    congr 1
    funext x
    exact abs_code x
  rw [e]
  unfold twice
  have hin : ∀ a, a ∈ (l.map fun x => x.1) → 0 ≤ a ∧ a ≤ 100 := fun a ha => by
    unfold beyond at h
    rw [List.any_eq_false] at h
    have := h a ha
    unfold fromTo at this
    simp at this
    omega
  have hnd := nodup_map_inj (fun n => cutN n + 1) (l.map fun x => x.1) fun a ha b hb hab => by
    have h1 := hin a ha
    have h2 := hin b hb
    unfold cutN at hab
    rw [if_neg (by omega), if_neg (by omega)] at hab
    omega
  congr 1
  exact decide_eq_decide.2 hnd
theorem wrong_ref (s p : Int) (hp : p ≤ 100) (r : Rt) : wrongRr s p (refR r) = wrongR s p r := by
  unfold wrongRr wrongR refR nums farS
  simp only
  rw [farP_code p hp]
  by_cases h0 : r.secs = []
  · rw [if_pos h0, if_pos h0]
  rw [if_neg h0, if_neg h0]
  cases h1 : (r.secs.any fun n => !fromTo 0 (s - 1) n) with
  | true =>
    have : beyond r.secs s = true := h1
    rw [this]
    rfl
  | false =>
    have h1' : beyond r.secs s = false := h1
    rw [h1']
    cases h2 : beyond (r.pts.map fun x => x.1) p with
    | true => rfl
    | false =>
      rw [twice_code p hp r.pts h2]
      cases twice r.secs <;> cases twice (r.pts.map fun x => x.1) <;> rfl
/-- the document's clash -/
def clashR (a b : Rr) : Bool := (a.secs.any fun s => b.secs.any fun u => s == u) || (a.pts.any fun p => b.pts.any fun q => p == -q)
theorem clash_ref (a b : Rt) (ha : beyond (nums a) 100 = false) (hb : beyond (nums b) 100 = false) : clashR (refR a) (refR b) = clash a b := by
  have hin : ∀ (r : Rt), beyond (nums r) 100 = false → ∀ x, x ∈ r.pts → 0 ≤ x.1 ∧ x.1 ≤ 99 := fun r h x hx => by
    unfold beyond nums at h
    rw [List.any_eq_false] at h
    have := h x.1 (List.mem_map.2 ⟨x, hx, rfl⟩)
    unfold fromTo at this
    simp at this
    omega
  rw [Bool.eq_iff_iff, clash_iff]
  unfold clashR refR
  simp only [Bool.or_eq_true, List.any_eq_true]
  constructor
  · rintro (⟨s, hs, u, hu, e⟩ | ⟨p, hp, q, hq, e⟩)
    · obtain rfl : s = u := by simpa using e
      exact .inl ⟨s, hs, hu⟩
    · obtain ⟨x, hx, rfl⟩ := List.mem_map.1 hp
      obtain ⟨y, hy, rfl⟩ := List.mem_map.1 hq
      have e : code x = -code y := by simpa using e
      have h1 := hin a ha x hx
      have h2 := hin b hb y hy
      obtain ⟨x1, x2⟩ := x
      obtain ⟨y1, y2⟩ := y
      unfold code at e
      simp only at e h1 h2
      have cx : cutN x1 = x1 := by unfold cutN; rw [if_neg (by omega)]
      have cy : cutN y1 = y1 := by unfold cutN; rw [if_neg (by omega)]
      rw [cx, cy] at e
      refine .inr ⟨y1, y2, hy, ?_⟩
      cases x2 <;> cases y2 <;> simp at e
      · omega
      · obtain rfl : x1 = y1 := by omega
        exact hx
      · obtain rfl : x1 = y1 := by omega
        exact hx
      · omega
  · rintro (⟨s, h1, h2⟩ | ⟨n, o, h1, h2⟩)
    · exact .inl ⟨s, h1, s, h2, by simp⟩
    · have k1 := hin b hb _ h1
      refine .inr ⟨_, List.mem_map.2 ⟨_, h2, rfl⟩, _, List.mem_map.2 ⟨_, h1, rfl⟩, ?_⟩
      have : code (n, !o) = -code (n, o) := by unfold code; cases o <;> simp
      rw [this]
      simp
end Ro
end Go.Proofs.YtmniiclmimidjaaDoor
