/-
  The walk of the document's named: each name is put where it belongs.
-/
import Derived.Test.YtblfeahbpklgiaaGreatDoorNdMath
import Derived.Test.YtblfeahbpklgiaaGreatDoorEvWithinAll
import Derived.Laws.CopyOwn
import Derived.Deep.RegionLaw
import Derived.WalkMore
namespace Go.Proofs.YtblfeahbpklgiaaGreatDoor
open Go.RowKit
/-- the three variables that the closure holds: the kinds, the names so far, the closure itself -/
structure Sn (p : Nat) (kd : List UInt8) (ns : List (List UInt8)) (w : World) : Prop where
  k : w.heap[p]? = some (.cells #[.string ⟨kd.toArray⟩] 9 (0, 0))
  o : ∃ v, w.heap[p + 1]? = some (.cells #[v] 34 (0, 0)) ∧ w.ownsRow (p + 3) 9 1 v ns.length (ns.map strV)
  f : w.heap[p + 2]? = some (.cells #[.func (.func 38) #[] #[.pointer (some ⟨p, 0, none⟩), .pointer (some ⟨p + 1, 0, none⟩), .pointer (some ⟨p + 2, 0, none⟩)]] 77 (0, 0))
theorem Sn.drewN {p : Nat} {kd : List UInt8} {ns : List (List UInt8)} {w : World} (h : Sn p kd ns w) (n : Nat) : Sn p kd ns (w.drewN n) := by
  obtain ⟨v, h1, h2⟩ := h.o
  refine ⟨by rw [World.heap_drewN]; exact h.k, ⟨v, by rw [World.heap_drewN]; exact h1, ?_⟩, by rw [World.heap_drewN]; exact h.f⟩
  rcases h2 with ⟨h3, h4⟩
  refine ⟨h3, ?_⟩
  rw [World.heap_drewN]
  exact h4
theorem _root_.Go.RowKit.Below.drewM {p : Nat} {a w : World} (h : Below p a w) (n : Nat) : Below p a (w.drewN n) := ⟨h.os, h.tape, h.output, h.size, h.block⟩
theorem IsRx.low {p : Nat} {w w' : World} {x : Ex} {g : Nat} (h : IsRx (fun g => g < p) w x g) (hb : Below p w w') : IsRx (fun g => g < p) w' x g :=
  IsRx.stay (fun g i u hg hc => by rw [hb.cell (p := ⟨g, i, none⟩) hg]; exact hc) (fun g hg => hg) x g h
/-- the kinds of which names are asked for -/
def kindsOf (all : Bool) : List UInt8 := if all then [98, 105, 116, 94, 126] else [94, 126]
/-- the closure, at this expression -/
def NamedOK (x : Ex) : Prop := ∀ (all : Bool) (p g : Nat) (m : Int) (ns : List (List UInt8)) (w : World), IsRx (fun g => g < p) w x g → Sn p (kindsOf all) ns w → 2 < p → w.cell? ⟨2, 0, none⟩ = some (.int .i64 m) → ns.length + x.size ≤ 1000000 →
  Calls Tryz.prog 38 #[.pointer (some ⟨g, 0, none⟩), .pointer (some ⟨p, 0, none⟩), .pointer (some ⟨p + 1, 0, none⟩), .pointer (some ⟨p + 2, 0, none⟩)] w fun e w' => e = .returned (.tuple #[]) ∧ Sn p (kindsOf all) (insAll ns (x.named all)) w' ∧ Below p w w'
/-- what the world is, behind the names -/
theorem Sn.cells {p : Nat} {kd : List UInt8} {ns : List (List UInt8)} {w : World} (h : Sn p kd ns w) : w.cell? ⟨p, 0, none⟩ = some (.string ⟨kd.toArray⟩) ∧ w.cell? ⟨p + 2, 0, none⟩ = some (.func (.func 38) #[] #[.pointer (some ⟨p, 0, none⟩), .pointer (some ⟨p + 1, 0, none⟩), .pointer (some ⟨p + 2, 0, none⟩)]) :=
  ⟨by rw [Lib.cell_of_heap h.k]; rfl, by rw [Lib.cell_of_heap h.f]; rfl⟩
set_option maxHeartbeats 1000000 in
set_option maxRecDepth 100000 in
theorem named_none (k : Nat) (l : List Ex) (hk2 : k ≠ 2 ∧ k ≠ 3 ∧ k ≠ 4) (ih : ∀ y, y ∈ l → NamedOK y) : NamedOK ⟨k, [], l⟩ := by
  intro all p g m ns w h hs hmp hm hsz
  have HIH := hide ih
  have HS := hide hs
  have HM := hide hm
  have HNM := hide (Ex.named_of all k [] l hk2)
  rw [IsRx.def] at h
  obtain ⟨_, _, hl6, _, hn, sv, hsv, hof⟩ := h
  rw [Ex.size_eq] at hsz
  clear ih hs hm hk2
  rcases hof with ⟨h0, rfl⟩ | ⟨hpos, b, cap, rfl, hcap, hbp, hrow⟩
  · have hl : l = [] := List.length_eq_zero_iff.1 h0
    subst hl
    go_enter Tryz.func38, Tryz.ntmps38
    go_wp2_with fail
    go_quiet (fail)
    go_wp2_with fail
    go_loopw [76] (fun i wr => i = .int .i64 0 ∧ wr = w.drewN nq) (fun _ _ => 0)
    case atStart => exact ⟨rfl, rfl⟩
    case round =>
      obtain ⟨rfl, rfl⟩ := hrel
      go_wp2_with fail
      go_end0
      refine ⟨rfl, ?_, (Below.refl _ _).drewM nq⟩
      rw [HNM.out]
      exact HS.out.drewN nq
  · obtain ⟨n, hn'⟩ : ∃ n, n = l.length := ⟨_, rfl⟩
    have HN := hide hn'
    have HROW := hide hrow
    have HSZ := hide hsz
    rw [← hn'] at hcap hl6 hsv
    clear hn' hrow hsz hpos
    go_enter Tryz.func38, Tryz.ntmps38
    go_wp2_with fail
    go_quiet (fail)
    go_wp2_with fail
    go_loopw [76] (fun i wr => ∃ k : Nat, k ≤ n ∧ i = .int .i64 (k : Int) ∧ Sn p (kindsOf all) (insAll ns (Ex.nameds all l k)) wr ∧ Below p w wr) (fun i _ => n - (intOf i).toNat)
    case atStart => exact ⟨0, Nat.zero_le _, rfl, by simpa [Ex.nameds, insAll] using HS.out.drewN nq, (Below.refl _ _).drewM nq⟩
    case round =>
      obtain ⟨j, hj, rfl, hs, hb⟩ := hrel
      have HSR := hide hs
      have HB := hide hb
      have c3 := hs.cells.2
      clear hs hb
      by_cases hlt : j < n
      · have hjl : j < l.length := by rw [← HN.out]; exact hlt
        obtain ⟨gy, hcell0, hxu⟩ := HROW.out j (IsRx (fun g => g < p) w l[j]) (by rw [List.getElem?_map, List.getElem?_eq_getElem hjl]; rfl)
        have hcell : wr.cell? ⟨b, j, none⟩ = some (.pointer (some ⟨gy, 0, none⟩)) := by rw [HB.out.cell (p := ⟨b, j, none⟩) hbp]; exact hcell0
        have hle := Ex.nameds_le all l (l.length - j) j (by omega)
        have hdr : ((l.drop j).map fun x => x.size).sum = l[j].size + ((l.drop (j + 1)).map fun x => x.size).sum := by
          rw [List.drop_eq_getElem_cons hjl, List.map_cons, List.sum_cons]
        have hsz := HSZ.out
        have hil := insAll_len (Ex.nameds all l j) ns
        have HE := hide (HIH.out l[j] (List.getElem_mem hjl) all p gy m _ wr (hxu.low HB.out) HSR.out hmp (by rw [HB.out.cell (p := ⟨2, 0, none⟩) hmp]; exact HM.out) (by omega))
        have HJ := hide (Ex.nameds_succ all l j hjl)
        clear hxu hle hdr hsz hcell0 hil
        go_wp2_with fail
        refine HE.out.mono ?_
        rintro e w2 ⟨rfl, hs2, hb2⟩
        have HS2 := hide hs2
        have HB2 := hide hb2
        clear hs2 hb2
        go_wp2_with fail
        go_roundw
        case rel => exact ⟨j + 1, by omega, by go_num, by rw [HJ.out, insAll_append]; exact HS2.out, HB.out.trans HB2.out⟩
        case measure => simp [intOf]; omega
      · have hjn : j = n := by omega
        subst hjn
        go_wp2_with fail
        go_end0
        refine ⟨rfl, ?_, HB.out⟩
        rw [HNM.out]
        have := HSR.out
        rw [HN.out, Ex.nameds_all] at this
        exact this
theorem contains_not : Lib.contains (⟨(kindsOf false).toArray⟩ : ByteArray).data.toList (⟨(kindS 2).toArray⟩ : ByteArray).data.toList = false := by decide
theorem contains_is (all : Bool) (k : Nat) (h : (k = 2 ∧ all = true) ∨ k = 3 ∨ k = 4) : Lib.contains (⟨(kindsOf all).toArray⟩ : ByteArray).data.toList (⟨(kindS k).toArray⟩ : ByteArray).data.toList = true := by
  rcases h with ⟨rfl, rfl⟩ | rfl | rfl
  · decide
  · cases all <;> decide
  · cases all <;> decide
set_option maxHeartbeats 1000000 in
set_option maxRecDepth 100000 in
theorem named_not (nm : List UInt8) (hnm : nm ≠ []) (g p : Nat) (m : Int) (ns : List (List UInt8)) (w : World) (h : IsRx (fun g => g < p) w ⟨2, nm, []⟩ g) (hs : Sn p (kindsOf false) ns w) (hm : w.cell? ⟨2, 0, none⟩ = some (.int .i64 m)) :
    Calls Tryz.prog 38 #[.pointer (some ⟨g, 0, none⟩), .pointer (some ⟨p, 0, none⟩), .pointer (some ⟨p + 1, 0, none⟩), .pointer (some ⟨p + 2, 0, none⟩)] w fun e w' => e = .returned (.tuple #[]) ∧ Sn p (kindsOf false) ns w' ∧ Below p w w' := by
  have HS := hide hs
  have HM := hide hm
  rw [IsRx.def] at h
  obtain ⟨_, _, _, hk, hn, sv, hsv, hof⟩ := h
  have hc := hs.cells.1
  have HC := hide (fun n => Tryz.strings_Contains ⟨(kindsOf false).toArray⟩ ⟨(kindS 2).toArray⟩ m (w.drewN n) (by decide) (by rw [World.cell?_drewN]; exact hm))
  rw [contains_not] at HC
  generalize kindS 2 = kk at *
  generalize kindsOf false = kd at *
  have hne : ((⟨nm.toArray⟩ : ByteArray).toList.isEmpty) = false := by rw [ByteArray.toList_eq]; cases nm <;> simp_all
  clear hs hm hnm
  rcases hof with ⟨h0, rfl⟩ | ⟨hpos, b, cap, rfl, hcap, hbp, hrow⟩
  · generalize (⟨nm.toArray⟩ : ByteArray) = nb at *
    go_enter Tryz.func38, Tryz.ntmps38
    go_wp2_with fail
    go_quiet ((go_at_call 39; refine (HC.out _).mono ?_; rintro e w'' ⟨rfl, rfl⟩; exact ⟨rfl, _, rfl⟩))
    go_wp2_with fail
    go_loopw [76] (fun i wr => i = .int .i64 0 ∧ wr = w.drewN nq) (fun _ _ => 0)
    case atStart => exact ⟨rfl, rfl⟩
    case round =>
      obtain ⟨rfl, rfl⟩ := hrel
      go_wp2_with fail
      go_end0
      exact ⟨rfl, HS.out.drewN nq, (Below.refl _ _).drewM nq⟩
  · simp at hpos
end Go.Proofs.YtblfeahbpklgiaaGreatDoor
