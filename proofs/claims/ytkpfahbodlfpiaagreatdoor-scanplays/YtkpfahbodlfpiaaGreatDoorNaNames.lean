/-
  The walk of eachName: the names of an expression, as they are met.
-/
import Derived.Test.YtkpfahbodlfpiaaGreatDoorNaEachAll
namespace Go.Proofs.YtkpfahbodlfpiaaGreatDoor
open Go.RowKit
set_option linter.unusedVariables false
/-- eachName, at this expression, with a closure that gathers -/
def EachOK (K : Nat) (all : Bool) (x : Ex) : Prop := ∀ (p : Nat) (v : Value) (ns : List (List UInt8)) (w : World), IsEx (fun g => g < p) w x v → St p ns w → ns.length + x.size ≤ 1000000 →
  Calls Tryz.prog 144 #[v, .func (.func K) #[] #[.pointer (some ⟨p, 0, none⟩)]] w fun e w' => e = .returned (.tuple #[]) ∧ St p (ns ++ x.named all) w' ∧ Kn p w w'
namespace Ex
/-- the names of the first k -/
def nameds (all : Bool) (l : List Ex) (k : Nat) : List (List UInt8) := ((l.take k).map fun x => x.named all).flatten
theorem nameds_zero (all : Bool) (l : List Ex) : nameds all l 0 = [] := by simp [nameds]
theorem nameds_succ (all : Bool) (l : List Ex) (k : Nat) (h : k < l.length) : nameds all l (k + 1) = nameds all l k ++ l[k].named all := by
  unfold nameds
  rw [List.take_succ_eq_append_getElem h]
  simp only [List.map_append, List.flatten_append, List.map_cons, List.map_nil, List.flatten_cons, List.flatten_nil, List.append_nil]
theorem nameds_all (all : Bool) (l : List Ex) : nameds all l l.length = (l.map fun x => x.named all).flatten := by unfold nameds; rw [List.take_length]
theorem nameds_le (all : Bool) (l : List Ex) : ∀ (j k : Nat), k + j = l.length → (nameds all l k).length + ((l.drop k).map fun x => x.size).sum ≤ (l.map fun x => x.size).sum
  | j, 0, _ => by simp [nameds]
  | j, k + 1, h => by
    have ih := nameds_le all l (j + 1) k (by omega)
    have hk : k < l.length := by omega
    rw [nameds_succ all l k hk, List.length_append]
    rw [List.drop_eq_getElem_cons hk, List.map_cons, List.sum_cons] at ih
    have := named_le all l[k]
    omega
end Ex
set_option maxHeartbeats 4000000 in
set_option maxRecDepth 100000 in
/-- eachName, over an expression of this kind -/
theorem each_0 (K : Nat) (all : Bool) (pick : Bool → Bool) (hK : Gathers K pick) (hp0 : pick false = all) (hp1 : pick true = true) (nm : List UInt8) (l : List Ex) (ih : ∀ y, y ∈ l → EachOK K all y) : EachOK K all ⟨0, nm, l⟩ := by
  intro p v ns w h hst hlen
  obtain ⟨hent, hG⟩ := hK
  have hent' : ∀ (args : Array Value) (w : World), (callFunc K args).run Tryz.prog w = .ok (.enter K args) w := hent
  have HG := hide hG
  have HIH := hide ih
  have HSZ : Hid (ns.length + (1 + (l.map fun x => x.size).sum) ≤ 1000000) := by show _ ≤ _; have := hlen; simp only [Ex.size] at this; exact this
  have hnl : ns.length ≤ 1000000 := by omega
  clear hent hG ih hlen
  have hl0 : l = [] := by have := h; simp only [IsEx] at this; exact this.2.1
  subst hl0
  have HX := hide h
  have HS := hide hst
  simp only [IsEx] at h
  obtain ⟨_, _, rfl⟩ := h
  clear hst
  have HEQ : Hid (ns ++ Ex.named all ⟨0, nm, []⟩ = ns) := by show _ = _; rw [Ex.named_of _ _ _ _ (by decide)]; simp
  have HS0 := HS
  have HK0 := hide (Kn.refl p w)
  have HX0 := HX
  clear HS HX
  go_enter Tryz.func144, Tryz.ntmps144
  go_wp2_with fail
  refine (within_k p ⟨0, nm, []⟩ _ w (by have := HS0.out.lt; omega) HX0.out).mono ?_
  rintro e w1 ⟨sv, rfl, hp, hb⟩
  have HS1 := hide (HS0.out.below hb)
  have HK1 := hide (HK0.out.trans (Kn.of_below hb (by have := HS0.out.lt; omega)))
  obtain ⟨a, cap, hsv⟩ : ∃ a cap, sv = .slice a 0 cap := by
    rcases hp with ⟨_, h⟩ | ⟨g, cap, h, _⟩
    · exact ⟨_, _, h⟩
    · exact ⟨_, _, h⟩
  subst hsv
  clear hb HS0 HK0 HX0 hp
  go_wp2_with fail
  go_loopw [31] (fun i wr => i = .int .i64 0 ∧ wr = w1) (fun _ _ => 0)
  case atStart => exact ⟨rfl, rfl⟩
  case round =>
    obtain ⟨rfl, rfl⟩ := hrel
    go_wp2_with fail
    go_end0
    exact ⟨rfl, by rw [HEQ.out]; exact HS1.out, HK1.out⟩
set_option maxHeartbeats 4000000 in
set_option maxRecDepth 100000 in
/-- eachName, over an expression of this kind -/
theorem each_1 (K : Nat) (all : Bool) (pick : Bool → Bool) (hK : Gathers K pick) (hp0 : pick false = all) (hp1 : pick true = true) (nm : List UInt8) (l : List Ex) (ih : ∀ y, y ∈ l → EachOK K all y) : EachOK K all ⟨1, nm, l⟩ := by
  intro p v ns w h hst hlen
  obtain ⟨hent, hG⟩ := hK
  have hent' : ∀ (args : Array Value) (w : World), (callFunc K args).run Tryz.prog w = .ok (.enter K args) w := hent
  have HG := hide hG
  have HIH := hide ih
  have HSZ : Hid (ns.length + (1 + (l.map fun x => x.size).sum) ≤ 1000000) := by show _ ≤ _; have := hlen; simp only [Ex.size] at this; exact this
  have hnl : ns.length ≤ 1000000 := by omega
  clear hent hG ih hlen
  have hl0 : l = [] := by have := h; simp only [IsEx] at this; exact this.2.1
  subst hl0
  have HX := hide h
  have HS := hide hst
  simp only [IsEx] at h
  obtain ⟨_, _, rfl⟩ := h
  clear hst
  have HEQ : Hid (ns ++ Ex.named all ⟨1, nm, []⟩ = ns) := by show _ = _; rw [Ex.named_of _ _ _ _ (by decide)]; simp
  have HS0 := HS
  have HK0 := hide (Kn.refl p w)
  have HX0 := HX
  clear HS HX
  go_enter Tryz.func144, Tryz.ntmps144
  go_wp2_with fail
  refine (within_k p ⟨1, nm, []⟩ _ w (by have := HS0.out.lt; omega) HX0.out).mono ?_
  rintro e w1 ⟨sv, rfl, hp, hb⟩
  have HS1 := hide (HS0.out.below hb)
  have HK1 := hide (HK0.out.trans (Kn.of_below hb (by have := HS0.out.lt; omega)))
  obtain ⟨a, cap, hsv⟩ : ∃ a cap, sv = .slice a 0 cap := by
    rcases hp with ⟨_, h⟩ | ⟨g, cap, h, _⟩
    · exact ⟨_, _, h⟩
    · exact ⟨_, _, h⟩
  subst hsv
  clear hb HS0 HK0 HX0 hp
  go_wp2_with fail
  go_loopw [31] (fun i wr => i = .int .i64 0 ∧ wr = w1) (fun _ _ => 0)
  case atStart => exact ⟨rfl, rfl⟩
  case round =>
    obtain ⟨rfl, rfl⟩ := hrel
    go_wp2_with fail
    go_end0
    exact ⟨rfl, by rw [HEQ.out]; exact HS1.out, HK1.out⟩
set_option maxHeartbeats 4000000 in
set_option maxRecDepth 100000 in
/-- eachName, over an expression of this kind -/
theorem each_2 (K : Nat) (all : Bool) (pick : Bool → Bool) (hK : Gathers K pick) (hp0 : pick false = all) (hp1 : pick true = true) (nm : List UInt8) (l : List Ex) (ih : ∀ y, y ∈ l → EachOK K all y) : EachOK K all ⟨2, nm, l⟩ := by
  intro p v ns w h hst hlen
  obtain ⟨hent, hG⟩ := hK
  have hent' : ∀ (args : Array Value) (w : World), (callFunc K args).run Tryz.prog w = .ok (.enter K args) w := hent
  have HG := hide hG
  have HIH := hide ih
  have HSZ : Hid (ns.length + (1 + (l.map fun x => x.size).sum) ≤ 1000000) := by show _ ≤ _; have := hlen; simp only [Ex.size] at this; exact this
  have hnl : ns.length ≤ 1000000 := by omega
  clear hent hG ih hlen
  have hl0 : l = [] := by have := h; simp only [IsEx] at this; exact this.1
  subst hl0
  have HX := hide h
  have HS := hide hst
  simp only [IsEx] at h
  obtain ⟨_, _, rfl⟩ := h
  clear hst
  have HC := hide (HG.out p nm false ns w HS.out hnl)
  rw [hp0] at HC
  have HEQ : Hid (ns ++ Ex.named all ⟨2, nm, []⟩ = ns ++ (if all = true then [nm] else [])) := by show _ = _; rw [Ex.named2]; try rfl
  generalize ns ++ (if all = true then [nm] else []) = NS0 at *
  go_enter Tryz.func144, Tryz.ntmps144
  go_wp2_with fail
  refine HC.out.mono ?_
  rintro e w0 ⟨rfl, hs0, hk0⟩
  have HS0 := hide hs0
  have HK0 := hide hk0
  have HX0 := hide (HX.out.low hk0.1)
  clear hs0 hk0 HC HS HX
  go_wp2_with fail
  refine (within_k p ⟨2, nm, []⟩ _ w0 (by have := HS0.out.lt; omega) HX0.out).mono ?_
  rintro e w1 ⟨sv, rfl, hp, hb⟩
  have HS1 := hide (HS0.out.below hb)
  have HK1 := hide (HK0.out.trans (Kn.of_below hb (by have := HS0.out.lt; omega)))
  obtain ⟨a, cap, hsv⟩ : ∃ a cap, sv = .slice a 0 cap := by
    rcases hp with ⟨_, h⟩ | ⟨g, cap, h, _⟩
    · exact ⟨_, _, h⟩
    · exact ⟨_, _, h⟩
  subst hsv
  clear hb HS0 HK0 HX0 hp
  go_wp2_with fail
  go_loopw [31] (fun i wr => i = .int .i64 0 ∧ wr = w1) (fun _ _ => 0)
  case atStart => exact ⟨rfl, rfl⟩
  case round =>
    obtain ⟨rfl, rfl⟩ := hrel
    go_wp2_with fail
    go_end0
    exact ⟨rfl, by rw [HEQ.out]; exact HS1.out, HK1.out⟩
set_option maxHeartbeats 4000000 in
set_option maxRecDepth 100000 in
/-- eachName, over an expression of this kind -/
theorem each_3 (K : Nat) (all : Bool) (pick : Bool → Bool) (hK : Gathers K pick) (hp0 : pick false = all) (hp1 : pick true = true) (nm : List UInt8) (l : List Ex) (ih : ∀ y, y ∈ l → EachOK K all y) : EachOK K all ⟨3, nm, l⟩ := by
  intro p v ns w h hst hlen
  obtain ⟨hent, hG⟩ := hK
  have hent' : ∀ (args : Array Value) (w : World), (callFunc K args).run Tryz.prog w = .ok (.enter K args) w := hent
  have HG := hide hG
  have HIH := hide ih
  have HSZ : Hid (ns.length + (1 + (l.map fun x => x.size).sum) ≤ 1000000) := by show _ ≤ _; have := hlen; simp only [Ex.size] at this; exact this
  have hnl : ns.length ≤ 1000000 := by omega
  clear hent hG ih hlen
  have hl0 : l = [] := by have := h; simp only [IsEx] at this; exact this.1
  subst hl0
  have HX := hide h
  have HS := hide hst
  simp only [IsEx] at h
  obtain ⟨_, _, rfl⟩ := h
  clear hst
  have HC := hide (HG.out p nm true ns w HS.out hnl)
  rw [hp1] at HC
  have HEQ : Hid (ns ++ Ex.named all ⟨3, nm, []⟩ = ns ++ (if true = true then [nm] else [])) := by show _ = _; rw [Ex.named3]; try rfl
  generalize ns ++ (if true = true then [nm] else []) = NS0 at *
  go_enter Tryz.func144, Tryz.ntmps144
  go_wp2_with fail
  refine HC.out.mono ?_
  rintro e w0 ⟨rfl, hs0, hk0⟩
  have HS0 := hide hs0
  have HK0 := hide hk0
  have HX0 := hide (HX.out.low hk0.1)
  clear hs0 hk0 HC HS HX
  go_wp2_with fail
  refine (within_k p ⟨3, nm, []⟩ _ w0 (by have := HS0.out.lt; omega) HX0.out).mono ?_
  rintro e w1 ⟨sv, rfl, hp, hb⟩
  have HS1 := hide (HS0.out.below hb)
  have HK1 := hide (HK0.out.trans (Kn.of_below hb (by have := HS0.out.lt; omega)))
  obtain ⟨a, cap, hsv⟩ : ∃ a cap, sv = .slice a 0 cap := by
    rcases hp with ⟨_, h⟩ | ⟨g, cap, h, _⟩
    · exact ⟨_, _, h⟩
    · exact ⟨_, _, h⟩
  subst hsv
  clear hb HS0 HK0 HX0 hp
  go_wp2_with fail
  go_loopw [31] (fun i wr => i = .int .i64 0 ∧ wr = w1) (fun _ _ => 0)
  case atStart => exact ⟨rfl, rfl⟩
  case round =>
    obtain ⟨rfl, rfl⟩ := hrel
    go_wp2_with fail
    go_end0
    exact ⟨rfl, by rw [HEQ.out]; exact HS1.out, HK1.out⟩
set_option maxHeartbeats 4000000 in
set_option maxRecDepth 100000 in
/-- eachName, over an expression of this kind -/
theorem each_4 (K : Nat) (all : Bool) (pick : Bool → Bool) (hK : Gathers K pick) (hp0 : pick false = all) (hp1 : pick true = true) (nm : List UInt8) (l : List Ex) (ih : ∀ y, y ∈ l → EachOK K all y) : EachOK K all ⟨4, nm, l⟩ := by
  intro p v ns w h hst hlen
  obtain ⟨hent, hG⟩ := hK
  have hent' : ∀ (args : Array Value) (w : World), (callFunc K args).run Tryz.prog w = .ok (.enter K args) w := hent
  have HG := hide hG
  have HIH := hide ih
  have HSZ : Hid (ns.length + (1 + (l.map fun x => x.size).sum) ≤ 1000000) := by show _ ≤ _; have := hlen; simp only [Ex.size] at this; exact this
  have hnl : ns.length ≤ 1000000 := by omega
  clear hent hG ih hlen
  have hl0 : l = [] := by have := h; simp only [IsEx] at this; exact this.1
  subst hl0
  have HX := hide h
  have HS := hide hst
  simp only [IsEx] at h
  obtain ⟨_, _, rfl⟩ := h
  clear hst
  have HC := hide (HG.out p nm true ns w HS.out hnl)
  rw [hp1] at HC
  have HEQ : Hid (ns ++ Ex.named all ⟨4, nm, []⟩ = ns ++ (if true = true then [nm] else [])) := by show _ = _; rw [Ex.named4]; try rfl
  generalize ns ++ (if true = true then [nm] else []) = NS0 at *
  go_enter Tryz.func144, Tryz.ntmps144
  go_wp2_with fail
  refine HC.out.mono ?_
  rintro e w0 ⟨rfl, hs0, hk0⟩
  have HS0 := hide hs0
  have HK0 := hide hk0
  have HX0 := hide (HX.out.low hk0.1)
  clear hs0 hk0 HC HS HX
  go_wp2_with fail
  refine (within_k p ⟨4, nm, []⟩ _ w0 (by have := HS0.out.lt; omega) HX0.out).mono ?_
  rintro e w1 ⟨sv, rfl, hp, hb⟩
  have HS1 := hide (HS0.out.below hb)
  have HK1 := hide (HK0.out.trans (Kn.of_below hb (by have := HS0.out.lt; omega)))
  obtain ⟨a, cap, hsv⟩ : ∃ a cap, sv = .slice a 0 cap := by
    rcases hp with ⟨_, h⟩ | ⟨g, cap, h, _⟩
    · exact ⟨_, _, h⟩
    · exact ⟨_, _, h⟩
  subst hsv
  clear hb HS0 HK0 HX0 hp
  go_wp2_with fail
  go_loopw [31] (fun i wr => i = .int .i64 0 ∧ wr = w1) (fun _ _ => 0)
  case atStart => exact ⟨rfl, rfl⟩
  case round =>
    obtain ⟨rfl, rfl⟩ := hrel
    go_wp2_with fail
    go_end0
    exact ⟨rfl, by rw [HEQ.out]; exact HS1.out, HK1.out⟩
set_option maxHeartbeats 4000000 in
set_option maxRecDepth 100000 in
/-- eachName, over an expression of this kind -/
theorem each_5 (K : Nat) (all : Bool) (pick : Bool → Bool) (hK : Gathers K pick) (hp0 : pick false = all) (hp1 : pick true = true) (nm : List UInt8) (l : List Ex) (ih : ∀ y, y ∈ l → EachOK K all y) : EachOK K all ⟨5, nm, l⟩ := by
  intro p v ns w h hst hlen
  obtain ⟨hent, hG⟩ := hK
  have hent' : ∀ (args : Array Value) (w : World), (callFunc K args).run Tryz.prog w = .ok (.enter K args) w := hent
  have HG := hide hG
  have HIH := hide ih
  have HSZ : Hid (ns.length + (1 + (l.map fun x => x.size).sum) ≤ 1000000) := by show _ ≤ _; have := hlen; simp only [Ex.size] at this; exact this
  have hnl : ns.length ≤ 1000000 := by omega
  clear hent hG ih hlen
  have HX := hide h
  have HS := hide hst
  simp only [IsEx] at h
  obtain ⟨_, _, u, rfl, _⟩ := h
  clear hst
  have HEQ : Hid (ns ++ Ex.named all ⟨5, nm, l⟩ = ns ++ Ex.nameds all l l.length) := by show _ = _; rw [Ex.named_of _ _ _ _ (by decide), Ex.nameds_all]
  have HS0 := HS
  have HK0 := hide (Kn.refl p w)
  have HX0 := HX
  clear HS HX
  go_enter Tryz.func144, Tryz.ntmps144
  go_wp2_with fail
  refine (within_k p ⟨5, nm, l⟩ _ w (by have := HS0.out.lt; omega) HX0.out).mono ?_
  rintro e w1 ⟨sv, rfl, hp, hb⟩
  have HB := hide hb
  have HS1 := hide (HS0.out.below hb)
  have HK1 := hide (HK0.out.trans (Kn.of_below hb (by have := HS0.out.lt; omega)))
  have HP1 := hide hp
  clear hb HS0 HK0 HX0
  rcases hp with ⟨hl, rfl⟩ | ⟨g, cap, rfl, hcap, hmx, _, _⟩
  · change l = [] at hl
    subst hl
    go_wp2_with fail
    go_loopw [31] (fun i wr => i = .int .i64 0 ∧ wr = w1) (fun _ _ => 0)
    case atStart => exact ⟨rfl, rfl⟩
    case round =>
      obtain ⟨rfl, rfl⟩ := hrel
      go_wp2_with fail
      go_end0
      exact ⟨rfl, by rw [HEQ.out]; simpa [Ex.nameds] using HS1.out, HK1.out⟩
  · change l.length ≤ cap at hcap
    change l.length ≤ 9223372036854775807 at hmx
    have e0 : ({ kind := 5, name := nm, of := l } : Ex).of.length = l.length := rfl
    rw [e0]
    rw [e0] at HP1
    clear e0
    obtain ⟨n, hn⟩ : ∃ n, n = l.length := ⟨_, rfl⟩
    have HN := hide hn
    rw [← hn] at hcap hmx HP1
    rw [← hn]
    clear hn
    go_wp2_with fail
    go_loopw [31] (fun i wr => ∃ k : Nat, k ≤ n ∧ i = .int .i64 (k : Int) ∧ St p (ns ++ Ex.nameds all l k) wr ∧ Kn p w1 wr) (fun i _ => n - (intOf i).toNat)
    case atStart => exact ⟨0, Nat.zero_le _, rfl, by simpa [Ex.nameds] using HS1.out, Kn.refl _ _⟩
    case round =>
      obtain ⟨j, hj, rfl, hs, hkr⟩ := hrel
      have HSR := hide hs
      have HKR := hide hkr
      clear hs hkr
      by_cases hlt : j < n
      · have hjl : j < l.length := by rw [← HN.out]; exact hlt
        have hcell : ∀ x, l[j]? = some x → ∃ u, wr.cell? ⟨g, j, none⟩ = some u ∧ IsEx (fun g => g < p) wr x u := by
          rcases HP1.out.keep HKR.out with ⟨hl0, _⟩ | ⟨g', cap', hsv, _, _, _, hcell⟩
          · intro x hx; change l = [] at hl0; rw [hl0] at hx; simp at hx
          · simp only [Value.slice.injEq, Option.some.injEq, Addr.mk.injEq] at hsv
            obtain ⟨⟨rfl, _⟩, _⟩ := hsv
            exact fun x hx => hcell j x hx
        obtain ⟨u, hu, hxu⟩ := hcell l[j] (List.getElem?_eq_getElem hjl)
        clear hcell
        have hle := Ex.nameds_le all l (l.length - j) j (by omega)
        have hdr : ((l.drop j).map fun x => x.size).sum = l[j].size + ((l.drop (j + 1)).map fun x => x.size).sum := by
          rw [List.drop_eq_getElem_cons hjl, List.map_cons, List.sum_cons]
        have hsz := HSZ.out
        have HE := hide (HIH.out l[j] (List.getElem_mem hjl) p u (ns ++ Ex.nameds all l j) wr hxu HSR.out (by rw [List.length_append]; omega))
        have HJ := hide (Ex.nameds_succ all l j hjl)
        obtain ⟨tu2, yu2, hiu2⟩ := IsEx.iface _ u hxu
        subst hiu2
        clear hxu hle hdr hsz
        go_wp2_with fail
        refine HE.out.mono ?_
        rintro e w2 ⟨rfl, hs2, hk2⟩
        have HS2 := hide hs2
        have HK2 := hide hk2
        clear hs2 hk2
        go_wp2_with fail
        go_roundw
        case rel => exact ⟨j + 1, by omega, by go_num, by rw [HJ.out, ← List.append_assoc]; exact HS2.out, HKR.out.trans HK2.out⟩
        case measure => simp [intOf]; omega
      · have hjn : j = n := by omega
        subst hjn
        go_wp2_with fail
        go_end0
        refine ⟨rfl, ?_, HK1.out.trans HKR.out⟩
        rw [HEQ.out, ← HN.out]
        exact HSR.out
set_option maxHeartbeats 4000000 in
set_option maxRecDepth 100000 in
/-- eachName, over an expression of this kind -/
theorem each_6 (K : Nat) (all : Bool) (pick : Bool → Bool) (hK : Gathers K pick) (hp0 : pick false = all) (hp1 : pick true = true) (nm : List UInt8) (l : List Ex) (ih : ∀ y, y ∈ l → EachOK K all y) : EachOK K all ⟨6, nm, l⟩ := by
  intro p v ns w h hst hlen
  obtain ⟨hent, hG⟩ := hK
  have hent' : ∀ (args : Array Value) (w : World), (callFunc K args).run Tryz.prog w = .ok (.enter K args) w := hent
  have HG := hide hG
  have HIH := hide ih
  have HSZ : Hid (ns.length + (1 + (l.map fun x => x.size).sum) ≤ 1000000) := by show _ ≤ _; have := hlen; simp only [Ex.size] at this; exact this
  have hnl : ns.length ≤ 1000000 := by omega
  clear hent hG ih hlen
  have HX := hide h
  have HS := hide hst
  simp only [IsEx] at h
  obtain ⟨_, _, _, g0, cap0, rfl, _⟩ := h
  clear hst
  generalize hl0 : l.length = n0 at *
  clear hl0
  have HEQ : Hid (ns ++ Ex.named all ⟨6, nm, l⟩ = ns ++ Ex.nameds all l l.length) := by show _ = _; rw [Ex.named_of _ _ _ _ (by decide), Ex.nameds_all]
  have HS0 := HS
  have HK0 := hide (Kn.refl p w)
  have HX0 := HX
  clear HS HX
  go_enter Tryz.func144, Tryz.ntmps144
  go_wp2_with fail
  refine (within_k p ⟨6, nm, l⟩ _ w (by have := HS0.out.lt; omega) HX0.out).mono ?_
  rintro e w1 ⟨sv, rfl, hp, hb⟩
  have HB := hide hb
  have HS1 := hide (HS0.out.below hb)
  have HK1 := hide (HK0.out.trans (Kn.of_below hb (by have := HS0.out.lt; omega)))
  have HP1 := hide hp
  clear hb HS0 HK0 HX0
  rcases hp with ⟨hl, rfl⟩ | ⟨g, cap, rfl, hcap, hmx, _, _⟩
  · change l = [] at hl
    subst hl
    go_wp2_with fail
    go_loopw [31] (fun i wr => i = .int .i64 0 ∧ wr = w1) (fun _ _ => 0)
    case atStart => exact ⟨rfl, rfl⟩
    case round =>
      obtain ⟨rfl, rfl⟩ := hrel
      go_wp2_with fail
      go_end0
      exact ⟨rfl, by rw [HEQ.out]; simpa [Ex.nameds] using HS1.out, HK1.out⟩
  · change l.length ≤ cap at hcap
    change l.length ≤ 9223372036854775807 at hmx
    have e0 : ({ kind := 6, name := nm, of := l } : Ex).of.length = l.length := rfl
    rw [e0]
    rw [e0] at HP1
    clear e0
    obtain ⟨n, hn⟩ : ∃ n, n = l.length := ⟨_, rfl⟩
    have HN := hide hn
    rw [← hn] at hcap hmx HP1
    rw [← hn]
    clear hn
    go_wp2_with fail
    go_loopw [31] (fun i wr => ∃ k : Nat, k ≤ n ∧ i = .int .i64 (k : Int) ∧ St p (ns ++ Ex.nameds all l k) wr ∧ Kn p w1 wr) (fun i _ => n - (intOf i).toNat)
    case atStart => exact ⟨0, Nat.zero_le _, rfl, by simpa [Ex.nameds] using HS1.out, Kn.refl _ _⟩
    case round =>
      obtain ⟨j, hj, rfl, hs, hkr⟩ := hrel
      have HSR := hide hs
      have HKR := hide hkr
      clear hs hkr
      by_cases hlt : j < n
      · have hjl : j < l.length := by rw [← HN.out]; exact hlt
        have hcell : ∀ x, l[j]? = some x → ∃ u, wr.cell? ⟨g, j, none⟩ = some u ∧ IsEx (fun g => g < p) wr x u := by
          rcases HP1.out.keep HKR.out with ⟨hl0, _⟩ | ⟨g', cap', hsv, _, _, _, hcell⟩
          · intro x hx; change l = [] at hl0; rw [hl0] at hx; simp at hx
          · simp only [Value.slice.injEq, Option.some.injEq, Addr.mk.injEq] at hsv
            obtain ⟨⟨rfl, _⟩, _⟩ := hsv
            exact fun x hx => hcell j x hx
        obtain ⟨u, hu, hxu⟩ := hcell l[j] (List.getElem?_eq_getElem hjl)
        clear hcell
        have hle := Ex.nameds_le all l (l.length - j) j (by omega)
        have hdr : ((l.drop j).map fun x => x.size).sum = l[j].size + ((l.drop (j + 1)).map fun x => x.size).sum := by
          rw [List.drop_eq_getElem_cons hjl, List.map_cons, List.sum_cons]
        have hsz := HSZ.out
        have HE := hide (HIH.out l[j] (List.getElem_mem hjl) p u (ns ++ Ex.nameds all l j) wr hxu HSR.out (by rw [List.length_append]; omega))
        have HJ := hide (Ex.nameds_succ all l j hjl)
        obtain ⟨tu2, yu2, hiu2⟩ := IsEx.iface _ u hxu
        subst hiu2
        clear hxu hle hdr hsz
        go_wp2_with fail
        refine HE.out.mono ?_
        rintro e w2 ⟨rfl, hs2, hk2⟩
        have HS2 := hide hs2
        have HK2 := hide hk2
        clear hs2 hk2
        go_wp2_with fail
        go_roundw
        case rel => exact ⟨j + 1, by omega, by go_num, by rw [HJ.out, ← List.append_assoc]; exact HS2.out, HKR.out.trans HK2.out⟩
        case measure => simp [intOf]; omega
      · have hjn : j = n := by omega
        subst hjn
        go_wp2_with fail
        go_end0
        refine ⟨rfl, ?_, HK1.out.trans HKR.out⟩
        rw [HEQ.out, ← HN.out]
        exact HSR.out
set_option maxHeartbeats 4000000 in
set_option maxRecDepth 100000 in
/-- eachName, over an expression of this kind -/
theorem each_7 (K : Nat) (all : Bool) (pick : Bool → Bool) (hK : Gathers K pick) (hp0 : pick false = all) (hp1 : pick true = true) (nm : List UInt8) (l : List Ex) (ih : ∀ y, y ∈ l → EachOK K all y) : EachOK K all ⟨7, nm, l⟩ := by
  intro p v ns w h hst hlen
  obtain ⟨hent, hG⟩ := hK
  have hent' : ∀ (args : Array Value) (w : World), (callFunc K args).run Tryz.prog w = .ok (.enter K args) w := hent
  have HG := hide hG
  have HIH := hide ih
  have HSZ : Hid (ns.length + (1 + (l.map fun x => x.size).sum) ≤ 1000000) := by show _ ≤ _; have := hlen; simp only [Ex.size] at this; exact this
  have hnl : ns.length ≤ 1000000 := by omega
  clear hent hG ih hlen
  have HX := hide h
  have HS := hide hst
  simp only [IsEx] at h
  obtain ⟨_, _, _, g0, cap0, rfl, _⟩ := h
  clear hst
  generalize hl0 : l.length = n0 at *
  clear hl0
  have HEQ : Hid (ns ++ Ex.named all ⟨7, nm, l⟩ = ns ++ Ex.nameds all l l.length) := by show _ = _; rw [Ex.named_of _ _ _ _ (by decide), Ex.nameds_all]
  have HS0 := HS
  have HK0 := hide (Kn.refl p w)
  have HX0 := HX
  clear HS HX
  go_enter Tryz.func144, Tryz.ntmps144
  go_wp2_with fail
  refine (within_k p ⟨7, nm, l⟩ _ w (by have := HS0.out.lt; omega) HX0.out).mono ?_
  rintro e w1 ⟨sv, rfl, hp, hb⟩
  have HB := hide hb
  have HS1 := hide (HS0.out.below hb)
  have HK1 := hide (HK0.out.trans (Kn.of_below hb (by have := HS0.out.lt; omega)))
  have HP1 := hide hp
  clear hb HS0 HK0 HX0
  rcases hp with ⟨hl, rfl⟩ | ⟨g, cap, rfl, hcap, hmx, _, _⟩
  · change l = [] at hl
    subst hl
    go_wp2_with fail
    go_loopw [31] (fun i wr => i = .int .i64 0 ∧ wr = w1) (fun _ _ => 0)
    case atStart => exact ⟨rfl, rfl⟩
    case round =>
      obtain ⟨rfl, rfl⟩ := hrel
      go_wp2_with fail
      go_end0
      exact ⟨rfl, by rw [HEQ.out]; simpa [Ex.nameds] using HS1.out, HK1.out⟩
  · change l.length ≤ cap at hcap
    change l.length ≤ 9223372036854775807 at hmx
    have e0 : ({ kind := 7, name := nm, of := l } : Ex).of.length = l.length := rfl
    rw [e0]
    rw [e0] at HP1
    clear e0
    obtain ⟨n, hn⟩ : ∃ n, n = l.length := ⟨_, rfl⟩
    have HN := hide hn
    rw [← hn] at hcap hmx HP1
    rw [← hn]
    clear hn
    go_wp2_with fail
    go_loopw [31] (fun i wr => ∃ k : Nat, k ≤ n ∧ i = .int .i64 (k : Int) ∧ St p (ns ++ Ex.nameds all l k) wr ∧ Kn p w1 wr) (fun i _ => n - (intOf i).toNat)
    case atStart => exact ⟨0, Nat.zero_le _, rfl, by simpa [Ex.nameds] using HS1.out, Kn.refl _ _⟩
    case round =>
      obtain ⟨j, hj, rfl, hs, hkr⟩ := hrel
      have HSR := hide hs
      have HKR := hide hkr
      clear hs hkr
      by_cases hlt : j < n
      · have hjl : j < l.length := by rw [← HN.out]; exact hlt
        have hcell : ∀ x, l[j]? = some x → ∃ u, wr.cell? ⟨g, j, none⟩ = some u ∧ IsEx (fun g => g < p) wr x u := by
          rcases HP1.out.keep HKR.out with ⟨hl0, _⟩ | ⟨g', cap', hsv, _, _, _, hcell⟩
          · intro x hx; change l = [] at hl0; rw [hl0] at hx; simp at hx
          · simp only [Value.slice.injEq, Option.some.injEq, Addr.mk.injEq] at hsv
            obtain ⟨⟨rfl, _⟩, _⟩ := hsv
            exact fun x hx => hcell j x hx
        obtain ⟨u, hu, hxu⟩ := hcell l[j] (List.getElem?_eq_getElem hjl)
        clear hcell
        have hle := Ex.nameds_le all l (l.length - j) j (by omega)
        have hdr : ((l.drop j).map fun x => x.size).sum = l[j].size + ((l.drop (j + 1)).map fun x => x.size).sum := by
          rw [List.drop_eq_getElem_cons hjl, List.map_cons, List.sum_cons]
        have hsz := HSZ.out
        have HE := hide (HIH.out l[j] (List.getElem_mem hjl) p u (ns ++ Ex.nameds all l j) wr hxu HSR.out (by rw [List.length_append]; omega))
        have HJ := hide (Ex.nameds_succ all l j hjl)
        obtain ⟨tu2, yu2, hiu2⟩ := IsEx.iface _ u hxu
        subst hiu2
        clear hxu hle hdr hsz
        go_wp2_with fail
        refine HE.out.mono ?_
        rintro e w2 ⟨rfl, hs2, hk2⟩
        have HS2 := hide hs2
        have HK2 := hide hk2
        clear hs2 hk2
        go_wp2_with fail
        go_roundw
        case rel => exact ⟨j + 1, by omega, by go_num, by rw [HJ.out, ← List.append_assoc]; exact HS2.out, HKR.out.trans HK2.out⟩
        case measure => simp [intOf]; omega
      · have hjn : j = n := by omega
        subst hjn
        go_wp2_with fail
        go_end0
        refine ⟨rfl, ?_, HK1.out.trans HKR.out⟩
        rw [HEQ.out, ← HN.out]
        exact HSR.out
/-- eachName, at every expression -/
theorem each_any (K : Nat) (all : Bool) (pick : Bool → Bool) (hK : Gathers K pick) (hp0 : pick false = all) (hp1 : pick true = true) (x : Ex) : EachOK K all x := by
  induction x using Ex.ind with
  | h k nm l ih =>
    match k with
    | 0 => exact each_0 K all pick hK hp0 hp1 nm l ih
    | 1 => exact each_1 K all pick hK hp0 hp1 nm l ih
    | 2 => exact each_2 K all pick hK hp0 hp1 nm l ih
    | 3 => exact each_3 K all pick hK hp0 hp1 nm l ih
    | 4 => exact each_4 K all pick hK hp0 hp1 nm l ih
    | 5 => exact each_5 K all pick hK hp0 hp1 nm l ih
    | 6 => exact each_6 K all pick hK hp0 hp1 nm l ih
    | 7 => exact each_7 K all pick hK hp0 hp1 nm l ih
    | n + 8 => intro p v ns w h; simp only [IsEx] at h
end Go.Proofs.YtkpfahbodlfpiaaGreatDoor
