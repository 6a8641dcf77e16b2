/-
  The walks of what the statements of chapter 10 ask themselves: sameBools, lassoed.
-/
import Derived.Test.YtdkfbnokbjliiaaDoorLsForm
namespace Go.Proofs.YtdkfbnokbjliiaaDoor
namespace Ls
open Go.RowKit
set_option maxHeartbeats 2000000 in
set_option maxRecDepth 100000 in
theorem sameB_any (n : Nat) (hn : n ≤ 1000) (f : Nat → Bool) (g1 g2 : Nat) (w : World) (h1 : BRow w g1 n f) (h2 : BRow w g2 n f) :
    Calls Tryd.prog 11 #[.slice (some ⟨g1, 0, none⟩) n n, .slice (some ⟨g2, 0, none⟩) n n] w fun e w' => e = .returned (.bool true) ∧ Below w.heap.size w w' := by
  have HU := hide h1
  have HV := hide h2
  clear h1 h2
  go_enter Tryd.func11, Tryd.ntmps11
  go_wp2_with fail
  go_loopw [5] (fun i wr => ∃ k : Nat, k ≤ n ∧ i = .int .i64 (k : Int) ∧ Hid (Below w.heap.size w wr)) (fun i _ => n - (intOf i).toNat)
  case atStart => exact ⟨0, Nat.zero_le _, rfl, Below.refl _ _⟩
  case round =>
    obtain ⟨k, hk, rfl, HB⟩ := hrel
    by_cases hlt : k < n
    · have d1 := (HU.out.below HB.out).cell k hlt
      have d2 := (HV.out.below HB.out).cell k hlt
      have hki : (k : Int) < (n : Int) := by omega
      generalize f k = y at *
      go_wp2_with fail
      go_quiet (fail)
      cases y
      all_goals
        go_wp2_with fail
        go_roundw
        case rel => exact ⟨k + 1, by omega, by go_num, HB.out.trans ⟨rfl, rfl, rfl, Nat.le_refl _, fun _ _ => rfl⟩⟩
        case measure => simp [intOf]; omega
    · have hkn : k = n := by omega
      subst hkn
      go_wp2_with fail
      go_ret
      exact ⟨rfl, HB.out⟩
/-- blocks that are laid one behind the other -/
theorem laid_at : ∀ (os : List Obj) (w : World) (i : Nat) (o : Obj), os[i]? = some o → (os.foldl World.alloc w).heap[w.heap.size + i]? = some o
  | [], _, _, _, h => by simp at h
  | o0 :: os, w, 0, o, h => by
    cases h
    have hb : ∀ (os : List Obj) (W : World), Below W.heap.size W (os.foldl World.alloc W) := fun os => by
      induction os with
      | nil => exact fun W => Below.refl _ _
      | cons x r ih => exact fun W => then_ (newB W x) (ih _)
    have h1 : w.heap.size < (w.alloc o0).heap.size := by simp
    exact ((hb os (w.alloc o0)).block _ h1).trans (heap_alloc_new w o0)
  | o0 :: os, w, i + 1, o, h => by
    have := laid_at os (w.alloc o0) i o (by simpa using h)
    have hs : (w.alloc o0).heap.size + i = w.heap.size + (i + 1) := by simp; omega
    rw [hs] at this
    exact this
theorem laid_below : ∀ (os : List Obj) (W : World), Below W.heap.size W (os.foldl World.alloc W)
  | [], _ => Below.refl _ _
  | x :: r, W => then_ (newB W x) (laid_below r _)
def lA : List (List (List UInt8)) := [[[97]]]
def lR : List (List (List UInt8)) := [[], [[98]]]
def lb : Fm := ⟨false, 1, [98], []⟩
def lf : Fm := ⟨false, 10, [], [⟨false, 9, [], [lb]⟩]⟩
theorem lb_sem : sem (lA ++ lR) 1 lb = fun t => ((lA ++ lR).getD t []).contains [98] := by funext t; exact sem_atom _ _ _ _ _
theorem lf_sem : sem (lA ++ lR) 1 lf = fun t => !unt 3 1 (fun _ => true) (fun t => !unt 3 1 (fun _ => true) (fun t => ((lA ++ lR).getD t []).contains [98]) t) t := by
  funext t
  have e : sem (lA ++ lR) 1 ⟨false, 9, [], [lb]⟩ = fun t => unt 3 1 (fun _ => true) (fun t => ((lA ++ lR).getD t []).contains [98]) t := by
    funext t
    rw [sem_ever, lb_sem]
    rfl
  unfold lf
  rw [sem_always, e]
  rfl
theorem lb_val : ∀ t, t < 3 → sem (lA ++ lR) 1 lb t = decide (t = 2) := by
  rw [lb_sem]
  intro t ht
  match t, ht with
  | 0, _ => rfl
  | 1, _ => rfl
  | 2, _ => rfl
theorem lf_val : ∀ t, t < 3 → sem (lA ++ lR) 1 lf t = true := by
  rw [lf_sem]
  intro t ht
  match t, ht with
  | 0, _ => rfl
  | 1, _ => rfl
  | 2, _ => rfl
theorem l_check : check lA lR = none := by decide
theorem lb_right : wrong2 lA lR lb = none := by
  unfold wrong2
  rw [l_check]
  refine (right_none lb).2 ⟨?_, ?_⟩
  · unfold lb; rw [ok_eq]; decide
  · unfold lb; rw [size_eq]; decide
theorem lf_right : wrong2 lA lR lf = none := by
  unfold wrong2
  rw [l_check]
  refine (right_none lf).2 ⟨?_, ?_⟩
  · unfold lf lb
    simp only [ok_eq, List.all_cons, List.all_nil]
    decide
  · unfold lf lb
    simp only [size_eq, List.map_cons, List.map_nil]
    decide
theorem strs_row {W : World} {g : Nat} {l : List (List UInt8)} {t : TypeId} (h : RowIs W g t (l.map fun x => Value.string ⟨x.toArray⟩)) (hl : l.length ≤ maxLen) (hb : ∀ x, x ∈ l → x.length ≤ maxLen) : Strs W (.slice (some ⟨g, 0, none⟩) l.length l.length) l :=
  ⟨_, _, rfl, hl, fun k x hx => ⟨g, 0, rfl, Nat.le_refl _, by rw [Nat.zero_add]; exact h.cell k _ (by rw [List.getElem?_map, hx]; rfl), hb x (List.mem_of_getElem? hx)⟩⟩
theorem errEql (w : World) : (binOp BinOp.eql 30 .nilIface .nilIface).run Tryd.prog w = .ok (.bool true) w := by kernel_rfl
def lObjs (w : World) : List Obj := [.cells #[.string ⟨#[97]⟩] 9,
  .cells #[.slice (some ⟨w.heap.size, 0, none⟩) 1 1] 34,
  .cells #[] 9,
  .cells #[.string ⟨#[98]⟩] 9,
  .cells #[.slice (some ⟨w.heap.size + 1 + 1, 0, none⟩) 0 0, .slice (some ⟨w.heap.size + 1 + 1 + 1, 0, none⟩) 1 1] 34,
  .cells #[.slice (some ⟨w.heap.size + 1, 0, none⟩) 1 1, .slice (some ⟨w.heap.size + 1 + 1 + 1 + 1, 0, none⟩) 2 2] 24,
  .cells #[.int .i64 1, .string ⟨#[98]⟩, .slice none 0 0] 43,
  .cells #[.pointer (some ⟨w.heap.size + 1 + 1 + 1 + 1 + 1 + 1, 0, none⟩)] 26,
  .cells #[.int .i64 9, .string ⟨#[]⟩, .slice (some ⟨w.heap.size + 1 + 1 + 1 + 1 + 1 + 1 + 1, 0, none⟩) 1 1] 43,
  .cells #[.pointer (some ⟨w.heap.size + 1 + 1 + 1 + 1 + 1 + 1 + 1 + 1, 0, none⟩)] 26,
  .cells #[.int .i64 10, .string ⟨#[]⟩, .slice (some ⟨w.heap.size + 1 + 1 + 1 + 1 + 1 + 1 + 1 + 1 + 1, 0, none⟩) 1 1] 43]
structure Lit (w : World) (W : World) : Prop where
  bel : Below w.heap.size w W
  a : Rows W (.slice (some ⟨w.heap.size + 1, 0, none⟩) 1 1) lA
  r : Rows W (.slice (some ⟨w.heap.size + 1 + 1 + 1 + 1, 0, none⟩) 2 2) lR
  b : IsF (fun _ => True) W lb (.pointer (some ⟨w.heap.size + 1 + 1 + 1 + 1 + 1 + 1, 0, none⟩))
  f : IsF (fun _ => True) W lf (.pointer (some ⟨w.heap.size + 1 + 1 + 1 + 1 + 1 + 1 + 1 + 1 + 1 + 1, 0, none⟩))
  c0 : W.cell? ⟨w.heap.size + 1 + 1 + 1 + 1 + 1, 0, none⟩ = some (.slice (some ⟨w.heap.size + 1, 0, none⟩) 1 1)
  c1 : W.cell? ⟨w.heap.size + 1 + 1 + 1 + 1 + 1, 1, none⟩ = some (.slice (some ⟨w.heap.size + 1 + 1 + 1 + 1, 0, none⟩) 2 2)
theorem lit_laid (w : World) : Lit w ((lObjs w).foldl World.alloc w) := by
  have hat := laid_at (lObjs w) w
  have hb := laid_below (lObjs w) w
  generalize (lObjs w).foldl World.alloc w = W at *
  have r0 : RowIs W (w.heap.size + 0) 9 [.string ⟨#[97]⟩] := hat 0 _ rfl
  have r1 : RowIs W (w.heap.size + 1) 34 [.slice (some ⟨w.heap.size, 0, none⟩) 1 1] := hat 1 _ rfl
  have r3 : RowIs W (w.heap.size + 3) 9 [.string ⟨#[98]⟩] := hat 3 _ rfl
  have r4 : RowIs W (w.heap.size + 4) 34 [.slice (some ⟨w.heap.size + 1 + 1, 0, none⟩) 0 0, .slice (some ⟨w.heap.size + 1 + 1 + 1, 0, none⟩) 1 1] := hat 4 _ rfl
  have r5 : RowIs W (w.heap.size + 5) 24 [.slice (some ⟨w.heap.size + 1, 0, none⟩) 1 1, .slice (some ⟨w.heap.size + 1 + 1 + 1 + 1, 0, none⟩) 2 2] := hat 5 _ rfl
  have r6 : RowIs W (w.heap.size + 6) 43 [.int .i64 1, .string ⟨#[98]⟩, .slice none 0 0] := hat 6 _ rfl
  have r7 : RowIs W (w.heap.size + 7) 26 [.pointer (some ⟨w.heap.size + 1 + 1 + 1 + 1 + 1 + 1, 0, none⟩)] := hat 7 _ rfl
  have r8 : RowIs W (w.heap.size + 8) 43 [.int .i64 9, .string ⟨#[]⟩, .slice (some ⟨w.heap.size + 1 + 1 + 1 + 1 + 1 + 1 + 1, 0, none⟩) 1 1] := hat 8 _ rfl
  have r9 : RowIs W (w.heap.size + 9) 26 [.pointer (some ⟨w.heap.size + 1 + 1 + 1 + 1 + 1 + 1 + 1 + 1, 0, none⟩)] := hat 9 _ rfl
  have r10 : RowIs W (w.heap.size + 10) 43 [.int .i64 10, .string ⟨#[]⟩, .slice (some ⟨w.heap.size + 1 + 1 + 1 + 1 + 1 + 1 + 1 + 1 + 1, 0, none⟩) 1 1] := hat 10 _ rfl
  have m1 : (1 : Nat) ≤ maxLen := by unfold maxLen; omega
  have m2 : (2 : Nat) ≤ maxLen := by unfold maxLen; omega
  have hb1 : IsF (fun _ => True) W lb (.pointer (some ⟨w.heap.size + 6, 0, none⟩)) := isF_node.2 ⟨by unfold I64; omega, m1, by simp, _, none, 0, trivial, rfl, r6.cell 0 _ rfl, r6.cell 1 _ rfl, r6.cell 2 _ rfl, fun i x hx => by simp at hx⟩
  have hb2 : IsF (fun _ => True) W ⟨false, 9, [], [lb]⟩ (.pointer (some ⟨w.heap.size + 8, 0, none⟩)) := isF_node.2 ⟨by unfold I64; omega, by simp, m1, _, _, _, trivial, rfl, r8.cell 0 _ rfl, r8.cell 1 _ rfl, r8.cell 2 _ rfl, fun i x hx => by
    match i, hx with
    | 0, hx => cases hx; exact ⟨w.heap.size + 7, 0, _, trivial, rfl, Nat.le_refl _, r7.cell 0 _ rfl, hb1⟩
    | i + 1, hx => simp at hx⟩
  have s0 : Strs W (.slice (some ⟨w.heap.size, 0, none⟩) 1 1) [[97]] := strs_row (l := [[97]]) r0 m1 (fun x hx => by obtain rfl := List.mem_singleton.1 hx; exact m1)
  have s3 : Strs W (.slice (some ⟨w.heap.size + 3, 0, none⟩) 1 1) [[98]] := strs_row (l := [[98]]) r3 m1 (fun x hx => by obtain rfl := List.mem_singleton.1 hx; exact m1)
  refine ⟨hb, ⟨_, _, rfl, m1, fun k r hk => ?_⟩, ⟨_, _, rfl, m2, fun k r hk => ?_⟩, hb1, ?_, r5.cell 0 _ rfl, r5.cell 1 _ rfl⟩
  · match k, hk with
    | 0, hk => cases hk; exact ⟨w.heap.size + 1, 0, _, rfl, Nat.le_refl _, r1.cell 0 _ rfl, s0⟩
    | k + 1, hk => simp [lA] at hk
  · match k, hk with
    | 0, hk => cases hk; exact ⟨w.heap.size + 4, 0, _, rfl, Nat.le_refl _, r4.cell 0 _ rfl, Strs.nil _ _ _⟩
    | 1, hk => cases hk; exact ⟨w.heap.size + 4, 0, _, rfl, Nat.le_refl _, r4.cell 1 _ rfl, s3⟩
    | k + 2, hk => simp [lR] at hk
  · exact isF_node.2 ⟨by unfold I64; omega, by simp, m1, w.heap.size + 10, _, _, trivial, rfl, r10.cell 0 _ rfl, r10.cell 1 _ rfl, r10.cell 2 _ rfl, fun i x hx => by
      match i, hx with
      | 0, hx => cases hx; exact ⟨w.heap.size + 9, 0, _, trivial, rfl, Nat.le_refl _, r9.cell 0 _ rfl, hb2⟩
      | i + 1, hx => simp at hx⟩
set_option maxHeartbeats 4000000 in
set_option maxRecDepth 100000 in
theorem lassoed_any (w : World) (hP : PT w) :
    Calls Tryd.prog 8 #[] w fun e w' => e = .returned (.bool true) ∧ Below w.heap.size w w' := by
  have qe := errEql
  have HL := hide (lit_laid w)
  obtain ⟨wA, hwA⟩ : ∃ wA, wA = ((((((((((w.alloc (.cells #[.string ⟨#[97]⟩] 9)).alloc (.cells #[.slice (some ⟨w.heap.size, 0, none⟩) 1 1] 34)).alloc (.cells #[] 9)).alloc (.cells #[.string ⟨#[98]⟩] 9)).alloc (.cells #[.slice (some ⟨w.heap.size + 1 + 1, 0, none⟩) 0 0, .slice (some ⟨w.heap.size + 1 + 1 + 1, 0, none⟩) 1 1] 34)).alloc (.cells #[.slice (some ⟨w.heap.size + 1, 0, none⟩) 1 1, .slice (some ⟨w.heap.size + 1 + 1 + 1 + 1, 0, none⟩) 2 2] 24)).alloc (.cells #[.int .i64 1, .string ⟨#[98]⟩, .slice none 0 0] 43)).alloc (.cells #[.pointer (some ⟨w.heap.size + 1 + 1 + 1 + 1 + 1 + 1, 0, none⟩)] 26)).alloc (.cells #[.int .i64 9, .string ⟨#[]⟩, .slice (some ⟨w.heap.size + 1 + 1 + 1 + 1 + 1 + 1 + 1, 0, none⟩) 1 1] 43)).alloc (.cells #[.pointer (some ⟨w.heap.size + 1 + 1 + 1 + 1 + 1 + 1 + 1 + 1, 0, none⟩)] 26)).alloc (.cells #[.int .i64 10, .string ⟨#[]⟩, .slice (some ⟨w.heap.size + 1 + 1 + 1 + 1 + 1 + 1 + 1 + 1 + 1, 0, none⟩) 1 1] 43) := ⟨_, rfl⟩
  have HLA : Hid (Lit w wA) := by rw [hwA]; exact HL.out
  have HWA := hide hwA
  have HPA := hide (hP.below HLA.out.bel)
  have HH1 := hide (Holds_any lA lR lf _ _ _ wA HLA.out.a HLA.out.r (by decide) (by decide) HLA.out.f HPA.out)
  have HH2 := hide (fun W (hW : Below wA.heap.size wA W) => Holds_any lA lR lb _ _ _ W (HLA.out.a.below hW) (HLA.out.r.below hW) (by decide) (by decide) (HLA.out.b.below hW) (HPA.out.below hW))
  have e3 : (lA ++ lR).length = 3 := rfl
  have HR1 : Hid (∀ e w', Held lA lR lf wA e w' → Below wA.heap.size wA w' ∧ ∃ g, e = .returned (.tuple #[.slice (some ⟨g, 0, none⟩) 3 3, .nilIface]) ∧ BRow w' g 3 (fun _ => true)) := fun e w' h => by
    obtain ⟨hb, h⟩ := h
    refine ⟨hb, ?_⟩
    rcases h with ⟨k, h1, _⟩ | ⟨_, g, h2, h3⟩
    · rw [lf_right] at h1; cases h1
    · exact ⟨g, h2, BRow.congr h3 (fun i hi => lf_val i hi)⟩
  have HR2 : Hid (∀ W e w', Held lA lR lb W e w' → Below W.heap.size W w' ∧ ∃ g, e = .returned (.tuple #[.slice (some ⟨g, 0, none⟩) 3 3, .nilIface]) ∧ BRow w' g 3 (fun t => decide (t = 2))) := fun W e w' h => by
    obtain ⟨hb, h⟩ := h
    refine ⟨hb, ?_⟩
    rcases h with ⟨k, h1, _⟩ | ⟨_, g, h2, h3⟩
    · rw [lb_right] at h1; cases h1
    · exact ⟨g, h2, BRow.congr h3 (fun i hi => lb_val i hi)⟩
  clear hwA hP HL e3
  go_enter Tryd.func8, Tryd.ntmps8
  go_wp2_with fail
  rw [← HWA.out]
  refine HH1.out.mono ?_
  rintro e w1 hres
  obtain ⟨hb1, g1, rfl, hr1⟩ := HR1.out _ _ hres
  have HB1 := hide hb1
  have HG1 := hide hr1
  have c0 := kept hb1 HLA.out.c0
  have c1 := kept hb1 HLA.out.c1
  have HC2 := hide (HH2.out w1 hb1)
  clear hres hb1 hr1 HH1 HH2 HR1 HWA
  go_wp2_with fail
  refine HC2.out.mono ?_
  rintro e w2 hres
  obtain ⟨hb2, g2, rfl, hr2⟩ := HR2.out _ _ _ hres
  have HB2 := hide (then_ HB1.out hb2)
  have HG12 := hide (HG1.out.below hb2)
  have HG2 := hide hr2
  clear hres hb2 hr2 HC2 HR2 c0 c1
  have HS1 := hide (sameB_any 3 (by omega) (fun _ => true) g1 w2.heap.size (w2.alloc (.cells #[.bool true, .bool true, .bool true] 4)) (HG12.out.below (newB _ _)) (RowIs.new w2 4 [.bool true, .bool true, .bool true]))
  have HS2 := hide (fun W (hW : Below w2.heap.size w2 W) => sameB_any 3 (by omega) (fun t => decide (t = 2)) g2 W.heap.size (W.alloc (.cells #[.bool false, .bool false, .bool true] 4)) ((HG2.out.below hW).below (newB _ _)) (RowIs.new W 4 [.bool false, .bool false, .bool true]))
  go_wp2_with fail
  refine HS1.out.mono ?_
  rintro e w3 ⟨rfl, hb3⟩
  have HB3 := hide (then_ (newB w2 (.cells #[.bool true, .bool true, .bool true] 4)) hb3)
  have HC3 := hide (HS2.out w3 HB3.out)
  clear hb3 HS1 HS2
  go_wp2_with fail
  refine HC3.out.mono ?_
  rintro e w4 ⟨rfl, hb4⟩
  have HB4 := hide (then_ HLA.out.bel (then_ HB2.out (then_ HB3.out (then_ (newB w3 (.cells #[.bool false, .bool false, .bool true] 4)) hb4))))
  clear hb4 HC3
  go_wp2_with fail
  go_ret
  exact ⟨rfl, HB4.out⟩
end Ls
end Go.Proofs.YtdkfbnokbjliiaaDoor
