/-
  Plain mathematics of chapter 9: the table of blocks tells what its states do, and no two of its states are alike.
-/
import Derived.Test.YtcbnihnbdhoclaaDoorBkLeast
namespace Go.Proofs.YtcbnihnbdhoclaaDoor
namespace Bk
theorem grp_id {al : Nat → Nat → Bool} : ∀ n, (∀ a b, a < n → b < n → (al a b = true ↔ a = b)) → grp al n = (List.range n, List.range n)
  | 0, _ => rfl
  | n + 1, h => by
    have ih := grp_id n (fun a b ha hb => h a b (by omega) (by omega))
    have hno : ((grp al n).2.findIdx? fun f => al f n) = none := by
      rw [ih, List.findIdx?_eq_none_iff]
      intro x hx
      have hx := List.mem_range.1 hx
      cases hb : al x n with
      | false => rfl
      | true => have := (h x n (by omega) (by omega)).1 hb; omega
    rw [grp_new al n hno, ih, List.range_succ]
    simp
section
variable {N T : List (List Int)} {d : Nat}
theorem least_len : (leastN N T d).length = (gd N T d).2.length := by simp [leastN]
theorem leastN_get (j f : Nat) (h : (gd N T d).2[j]? = some f) : (leastN N T d).getD j [] = (N.getD f []).map (ofI (gd N T d).1) := by
  rw [List.getD_eq_getElem?_getD, leastN, List.getElem?_map, h]; rfl
theorem leastT_get (j f : Nat) (h : (gd N T d).2[j]? = some f) : (leastT N T d).getD j [] = T.getD f [] := by
  rw [List.getD_eq_getElem?_getD, leastT, List.getElem?_map, h]; rfl
theorem gdI : GInv (eqB (tab N T) d) N.length (gd N T d).1 (gd N T d).2 := inv_grp (eqv_eqB (tab N T) d) N.length (Nat.le_refl _)
/-- the first of a state's block is alike -/
theorem first_alike (hs : Stable (tab N T) d) (s : Nat) (h : s < N.length) : ∃ f, (gd N T d).2[(gd N T d).1.getD s 0]? = some f ∧ f < N.length ∧ Alike (tab N T) f s := by
  obtain ⟨j, f, e1, e2, e3, e4⟩ := gdI.has s h
  refine ⟨f, by rw [List.getD_eq_getElem?_getD, e1]; exact e2, by omega, hs f s (by show f < N.length; omega) h e4⟩
theorem least_pos (hG : Good N T) : 0 < (gd N T d).2.length := by
  obtain ⟨j, f, _, e2, _⟩ := (gdI (N := N) (T := T) (d := d)).has 0 hG.pos
  have := (List.getElem?_eq_some_iff.1 e2).1
  omega
theorem least_ins (hG : Good N T) : ((leastN N T d).getD 0 []).length = (N.getD 0 []).length := by
  have h0 := List.getElem?_eq_getElem (least_pos (d := d) hG)
  rw [leastN_get 0 _ h0, List.length_map]
  exact (hG.rows _ (gdI.lt 0 _ h0).1).1
theorem least_good (hG : Good N T) (hs : Stable (tab N T) d) : Good (leastN N T d) (leastT N T d) := by
  have hl : (gd N T d).2.length ≤ N.length := firsts_le _
  have h5 := hG.few
  have hp := least_pos (d := d) hG
  refine ⟨by rw [least_len]; omega, by rw [least_len]; omega, by rw [least_ins hG]; exact hG.ins, by simp [leastN, leastT], fun j hj => ?_⟩
  rw [least_len] at hj
  have hf := List.getElem?_eq_getElem hj
  have hfN := (gdI.lt j _ hf).1
  obtain ⟨r1, r2, r3⟩ := hG.rows _ hfN
  rw [least_ins hG, leastN_get j _ hf, leastT_get j _ hf, List.length_map]
  refine ⟨r1, r2, fun x hx => ?_⟩
  obtain ⟨y, hy, rfl⟩ := List.mem_map.1 hx
  obtain ⟨y1, y2⟩ := r3 y hy
  obtain ⟨f', e1, _, _⟩ := first_alike hs y.toNat (by omega)
  have := (List.getElem?_eq_some_iff.1 e1).1
  rw [least_len]
  unfold ofI
  omega
theorem least_nx (hG : Good N T) (j f i : Nat) (hf : (gd N T d).2[j]? = some f) (hi : i < (N.getD 0 []).length) : (tab (leastN N T d) (leastT N T d)).nx j i = (gd N T d).1.getD ((tab N T).nx f i) 0 := by
  have hfN := (gdI.lt j f hf).1
  show (((leastN N T d).getD j []).getD i 0).toNat = _
  rw [leastN_get j f hf, List.getD_eq_getElem?_getD, List.getElem?_map, hG.next f hfN i hi]
  simp [ofI]
theorem least_tl (j f i : Nat) (hf : (gd N T d).2[j]? = some f) : (tab (leastN N T d) (leastT N T d)).tl j i = (tab N T).tl f i := by
  show ((leastT N T d).getD j []).getD i 0 = (T.getD f []).getD i 0
  rw [leastT_get j f hf]
theorem least_eqB (hG : Good N T) (hs : Stable (tab N T) d) : ∀ e j1 j2 f1 f2, (gd N T d).2[j1]? = some f1 → (gd N T d).2[j2]? = some f2 → (eqB (tab (leastN N T d) (leastT N T d)) e j1 j2 = true ↔ eqB (tab N T) e f1 f2 = true) := by
  intro e
  induction e with
  | zero => exact fun _ _ _ _ _ _ => ⟨fun _ => rfl, fun _ => rfl⟩
  | succ e ih =>
    intro j1 j2 f1 f2 h1 h2
    have l1 := (gdI.lt j1 f1 h1).1
    have l2 := (gdI.lt j2 f2 h2).1
    have hk : (tab (leastN N T d) (leastT N T d)).k = (tab N T).k := least_ins hG
    rw [eqB_succ, eqB_succ, hk]
    have each : ∀ i, i < (tab N T).k → (eqB (tab (leastN N T d) (leastT N T d)) e ((tab (leastN N T d) (leastT N T d)).nx j1 i) ((tab (leastN N T d) (leastT N T d)).nx j2 i) = true ↔ eqB (tab N T) e ((tab N T).nx f1 i) ((tab N T).nx f2 i) = true) := by
      intro i hi
      rw [least_nx hG j1 f1 i h1 hi, least_nx hG j2 f2 i h2 hi]
      obtain ⟨g1, a1, _, a3⟩ := first_alike hs ((tab N T).nx f1 i) (hG.ok f1 l1 i hi)
      obtain ⟨g2, b1, _, b3⟩ := first_alike hs ((tab N T).nx f2 i) (hG.ok f2 l2 i hi)
      rw [ih _ _ g1 g2 a1 b1]
      exact ⟨fun h => eqB_trans _ e _ _ _ (a3.symm e) (eqB_trans _ e _ _ _ h (b3 e)), fun h => eqB_trans _ e _ _ _ (a3 e) (eqB_trans _ e _ _ _ h (b3.symm e))⟩
    constructor
    · intro h i hi
      obtain ⟨x1, x2⟩ := h i hi
      rw [least_tl j1 f1 i h1, least_tl j2 f2 i h2] at x1
      exact ⟨x1, (each i hi).1 x2⟩
    · intro h i hi
      obtain ⟨x1, x2⟩ := h i hi
      refine ⟨?_, (each i hi).2 x2⟩
      rw [least_tl j1 f1 i h1, least_tl j2 f2 i h2]
      exact x1
/-- the blocks of the table of blocks are its states -/
theorem least_blocks (hG : Good N T) (hs : Stable (tab N T) d) (e : Nat) (he : Stable (tab (leastN N T d) (leastT N T d)) e) : (gd (leastN N T d) (leastT N T d) e).1 = List.range (gd N T d).2.length := by
  have key : ∀ a b, a < (leastN N T d).length → b < (leastN N T d).length → (eqB (tab (leastN N T d) (leastT N T d)) e a b = true ↔ a = b) := by
    intro a b ha hb
    constructor
    · intro h
      have ha2 := ha
      have hb2 := hb
      rw [least_len] at ha2 hb2
      have fa := List.getElem?_eq_getElem ha2
      have fb := List.getElem?_eq_getElem hb2
      have h2 := (least_eqB hG hs d a b _ _ fa fb).1 (he a b ha hb h d)
      rcases Nat.lt_trichotomy a b with hab | hab | hab
      · have := (gdI.apart a b _ _ hab fa fb).2; rw [h2] at this; cases this
      · exact hab
      · have := (gdI.apart b a _ _ hab fb fa).2; rw [eqB_symm _ _ _ _ h2] at this; cases this
    · rintro rfl; exact eqB_refl _ _ _
  show (grp (eqB (tab (leastN N T d) (leastT N T d)) e) (leastN N T d).length).1 = _
  rw [grp_id _ key, least_len]
/-- the table of blocks tells what its states do -/
theorem least_tell (hG : Good N T) (hs : Stable (tab N T) d) : ∀ (l : List Nat) (s : Nat), s < N.length → (∀ i, i ∈ l → i < (tab N T).k) → tell (tab (leastN N T d) (leastT N T d)) ((gd N T d).1.getD s 0) l = tell (tab N T) s l := by
  intro l
  induction l with
  | nil => exact fun _ _ _ => rfl
  | cons i r ih =>
    intro s hsN hl
    obtain ⟨f, e1, e2, e3⟩ := first_alike hs s hsN
    have hi := hl i (by simp)
    obtain ⟨x1, x2⟩ := e3.next i hi
    have hl2 : ∀ j, j ∈ r → j < (tab N T).k := fun j hj => hl j (by simp [hj])
    rw [tell, tell, least_tl _ f i e1, least_nx hG _ f i e1 hi, x1, ih _ (hG.ok f e2 i hi) hl2, x2.tell r hl2]
end
end Bk
end Go.Proofs.YtcbnihnbdhoclaaDoor
