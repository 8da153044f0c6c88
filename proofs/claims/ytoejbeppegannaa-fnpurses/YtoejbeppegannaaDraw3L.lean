/-
  What the draws of chapter 3 give a law, and 'likeFolk'.
-/
import Derived.Test.YtoejbeppegannaaDraw3
namespace Go.Proofs.Ytoejbeppegannaa
open Go.ChangeShapes Go.WideShapes Go.ChangeAt Go.RowKit

/-- What is known of purses that were drawn. -/
structure Few (w : World) (g : Nat) (ps : List Pur) : Prop where
  lies : Purs w (some ⟨g, 0, none⟩) ps
  few : ps.length ≤ 9
  short : Sized (pnames ps)
theorem Few.below {w w' : World} {g : Nat} {ps : List Pur} (h : Few w g ps) (hb : Below w.heap.size w w') : Few w' g ps := ⟨h.lies.below hb, h.few, h.short⟩
theorem OwnD.few_ {C : Nat} {a : Option Addr} {len cap : Nat} {w : World} {g c : Nat} {ps : List Pur} {w' : World} (h : OwnD C a len cap w g c ps w') : Few w' g ps :=
  ⟨h.lies, h.few, Sized.of (n := 7) (fun s hs => by obtain ⟨p, hp, rfl⟩ := List.mem_map.1 hs; exact h.short p hp) (by unfold maxLen; omega)⟩

/-- Purses, a name and a number. -/
def GivesPSN (w : World) (e : Ending) (w' : World) : Prop :=
  ∃ (g c : Nat) (ps : List Pur) (s : ByteArray) (n : Int), e = .returned (.tuple #[.slice (some ⟨g, 0, none⟩) ps.length c, .string s, .int .i64 n]) ∧ Few w' g ps ∧ (-1 ≤ n ∧ n ≤ 1000001) ∧ Below w.heap.size w w'
/-- Purses and a name. -/
def GivesPS (w : World) (e : Ending) (w' : World) : Prop :=
  ∃ (g c : Nat) (ps : List Pur) (s : ByteArray), e = .returned (.tuple #[.slice (some ⟨g, 0, none⟩) ps.length c, .string s]) ∧ Few w' g ps ∧ Below w.heap.size w w'

set_option maxHeartbeats 1000000 in
theorem drawPaid_any {a : Option Addr} {len cap : Nat} {w : World} (h : Src w a len) : Calls Try.prog 10 #[.slice a len cap] w (GivesPSN w) := by
  go_enter Try.func10, Try.ntmps10
  go_wp2_with fail
  refine (l1New_any h.row h.small).mono ?_
  rintro e w0 ⟨rfl, hc0, hb0⟩
  have hC : w.heap.size < w0.heap.size := lt_of_cell hc0.c0
  have HB0 := Lib.hid hb0
  clear hb0
  go_wp2_with fail
  refine (l3DrawAny_any hc0).mono ?_
  rintro e w1 ⟨g, c, ps, rfl, hw1⟩
  have HW1 := Lib.hid hw1
  clear hw1 hc0
  go_wp2_with fail
  refine (l2DrawAny_any HW1.out.cur).mono ?_
  rintro e w2 ⟨s, hs, rfl, hc2, hg2⟩
  have HW2 := Lib.hid (HW1.out.draw hC hc2 hg2)
  clear hc2 hg2 HW1
  go_wp2_with fail
  refine (l1DrawAmount_any HW2.out.cur).mono ?_
  rintro e w3 ⟨n, hn, rfl, hc3, hg3⟩
  have hw3 := HW2.out.draw hC hc3 hg3
  have HD := Lib.hid (show GivesPSN w (.returned (.tuple #[.slice (some ⟨g, 0, none⟩) ps.length c, .string s, .int .i64 n])) w3 from ⟨g, c, ps, s, n, rfl, hw3.few_, hn, below_of HB0.out hw3.grown⟩)
  clear hw3 hc3 hg3 HW2 hn
  go_wp2
  exact bodyPost_ret (v := .tuple #[.slice (some ⟨g, 0, none⟩) ps.length c, .string s, .int .i64 n]) (by simp [results, Try.results10, go_sem]) rfl HD.out

set_option maxHeartbeats 1000000 in
theorem drawFreeOf_any {a : Option Addr} {len cap : Nat} {w : World} (h : Src w a len) : Calls Try.prog 13 #[.slice a len cap] w (GivesPS w) := by
  go_enter Try.func13, Try.ntmps13
  go_wp2_with fail
  refine (l1New_any h.row h.small).mono ?_
  rintro e w0 ⟨rfl, hc0, hb0⟩
  have hC : w.heap.size < w0.heap.size := lt_of_cell hc0.c0
  have HB0 := Lib.hid hb0
  clear hb0
  go_wp2_with fail
  refine (l3DrawAny_any hc0).mono ?_
  rintro e w1 ⟨g, c, ps, rfl, hw1⟩
  have HW1 := Lib.hid hw1
  clear hw1 hc0
  go_wp2_with fail
  refine (l2DrawAny_any HW1.out.cur).mono ?_
  rintro e w2 ⟨s, hs, rfl, hc2, hg2⟩
  have hw2 := HW1.out.draw hC hc2 hg2
  have HD := Lib.hid (show GivesPS w (.returned (.tuple #[.slice (some ⟨g, 0, none⟩) ps.length c, .string s])) w2 from ⟨g, c, ps, s, rfl, hw2.few_, below_of HB0.out hw2.grown⟩)
  clear hw2 hc2 hg2 HW1
  go_wp2
  go_ret2
  exact HD.out

set_option maxHeartbeats 1000000 in
/-- Both lists hold the same purses: it says so. -/
theorem likeFolk_same {w : World} {a a' : Option Addr} {ps : List Pur} (cap cap' : Nat) (h : Purs w a ps) (h' : Purs w a' ps) (hl : ps.length ≤ 1048576) :
    Calls Try.prog 15 #[.slice a ps.length cap, .slice a' ps.length cap'] w fun e w' => e = .returned (.bool true) ∧ ∃ n, w' = w.drewN n := by
  have H := Lib.hid h
  have H' := Lib.hid h'
  clear h h'
  go_enter Try.func15, Try.ntmps15
  go_wp2
  go_loopw [5] (fun i w' => ∃ (k n : Nat), k ≤ ps.length ∧ i = .int .i64 k ∧ w' = w.drewN n) (fun i _ => ps.length - (intOf i).toNat)
  case atStart => exact ⟨0, 0, Nat.zero_le _, rfl, rfl⟩
  case round =>
    obtain ⟨k, n, hk, rfl, rfl⟩ := hrel
    by_cases hlt : k < ps.length
    · obtain ⟨b, off, rfl, _, hc, hc1⟩ := H.out.at k hlt
      obtain ⟨b', off', rfl, _, hc', hc1'⟩ := H'.out.at k hlt
      go_wp2
      go_quiet (fail)
      go_wp2
      go_roundw
      case rel => exact ⟨k + 1, _, by omega, by go_num, rfl⟩
      case measure => simp [intOf]; omega
    · go_wp2
      go_ret
      exact ⟨rfl, n, rfl⟩
end Go.Proofs.Ytoejbeppegannaa
