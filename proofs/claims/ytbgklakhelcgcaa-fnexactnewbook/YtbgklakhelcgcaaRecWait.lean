/-
  Wait: its records in memory, and what the laws' own helpers do with them. (Written by wip/tools/rec.py.)
-/
import Derived.Test.YtbgklakhelcgcaaRecs
import Derived.Test.YtbgklakhelcgcaaMark
import Derived.Test.YtbgklakhelcgcaaGrow
import Derived.StillTailTactics
import Derived.Deep.RegionHeld3
namespace Go.Proofs.Ytbgklakhelcgcaa
open Go.ChangeShapes Go.WideShapes Go.ChangeAt Go.RowKit

/-- A Wait. -/
structure Wai where
  who : ByteArray
  mill : ByteArray
  amount : Int
  ripe : Int
def Wai.cs (x : Wai) : List Value := [.string x.who, .string x.mill, .int .i64 x.amount, .int .i64 x.ripe]
theorem Wai.len (x : Wai) : x.cs.length = 4 := rfl
theorem Wai.one (x : Wai) : ∀ v ∈ x.cs, v.oneCell' = true := by
  intro v hv
  simp only [Wai.cs, List.mem_cons, List.not_mem_nil, or_false] at hv
  rcases hv with rfl | rfl | rfl | rfl <;> rfl
/-- The bytes of its strings. -/
def Wai.bytes (x : Wai) : Nat := x.who.size + x.mill.size
/-- Its strings are no longer than a machine's. -/
def Wai.fits (x : Wai) : Prop := x.who.size ≤ 9223372036854775807 ∧ x.mill.size ≤ 9223372036854775807
theorem Wai.at {w : World} {a : Option Addr} {xs : List Wai} (h : Recs Wai.cs w a xs) (k : Nat) (hk : k < xs.length) :
    ∃ b off, a = some ⟨b, off, none⟩ ∧ b < w.heap.size ∧ w.cell? ⟨b, off + k * 4, none⟩ = some (.string xs[k].who) ∧ w.cell? ⟨b, off + k * 4 + 1, none⟩ = some (.string xs[k].mill) ∧ w.cell? ⟨b, off + k * 4 + 2, none⟩ = some (.int .i64 xs[k].amount) ∧ w.cell? ⟨b, off + k * 4 + 3, none⟩ = some (.int .i64 xs[k].ripe) := by
  obtain ⟨b, off, e, hb, hc⟩ := h.cell Wai.len (by omega) k hk
  exact ⟨b, off, e, hb, hc 0 _ rfl, hc 1 _ rfl, hc 2 _ rfl, hc 3 _ rfl⟩

theorem info_Wait : (Try.prog.info? 68).map (fun i => (i.zero, i.size, i.bytes)) = some (some (.agg #[.string ByteArray.empty, .string ByteArray.empty, .int .i64 0, .int .i64 0]), 4, 48) := by kernel_rfl

theorem size_Wait : (Try.prog.info? 68).map (·.size) = some 4 := by kernel_rfl

/-- What is left behind one: -1 where it is too much. -/
def Wai.left (x : Wai) (left : Int) : Int := if (x.bytes : Int) ≤ left then left - x.bytes else -1

/-- What 'toWaitS' leaves: the same records, in the block behind all that was there. -/
def ToWait (xs : List Wai) (w : World) (e : Ending) (w' : World) : Prop :=
  e = .returned (.slice (some ⟨w.heap.size, 0, none⟩) xs.length xs.length) ∧ Recs Wai.cs w' (some ⟨w.heap.size, 0, none⟩) xs ∧ Below w.heap.size w w' ∧ Mine w' w.heap.size 0 (xs.length * 4) ∧ w.heap.size < w'.heap.size

theorem room_Wait {w w' : World} {n k : Nat} {xs : List Wai} (h : Room w n (xs.flatMap Wai.cs) (k * 4) w') (hk : k < xs.length) (hn : n = xs.length * 4) :
    Room w n (xs.flatMap Wai.cs) ((k + 1) * 4) ((((w'.setCell ⟨w.heap.size, k * 4, none⟩ (.string xs[k].who)).setCell ⟨w.heap.size, k * 4 + 1, none⟩ (.string xs[k].mill)).setCell ⟨w.heap.size, k * 4 + 2, none⟩ (.int .i64 xs[k].amount)).setCell ⟨w.heap.size, k * 4 + 3, none⟩ (.int .i64 xs[k].ripe)) := by
  rw [show (k + 1) * 4 = k * 4 + 1 + 1 + 1 + 1 by omega]
  exact ((((h.set (by omega) ((flat_at Wai.len xs k 0 hk (by omega)).trans rfl)).set (by omega) ((flat_at Wai.len xs k 1 hk (by omega)).trans rfl)).set (by omega) ((flat_at Wai.len xs k 2 hk (by omega)).trans rfl)).set (by omega) ((flat_at Wai.len xs k 3 hk (by omega)).trans rfl))

set_option maxHeartbeats 1000000 in
set_option maxRecDepth 100000 in
theorem eqWait_same (v0 : ByteArray) (v1 : ByteArray) (v2 : Int) (v3 : Int) (w : World) :
    Calls Try.prog 42 #[.agg #[.string v0, .string v1, .int .i64 v2, .int .i64 v3], .agg #[.string v0, .string v1, .int .i64 v2, .int .i64 v3]] w fun e w' => e = .returned (.bool true) ∧ Below w.heap.size w w' := by
  go_enter Try.func42, Try.ntmps42
  go_wp2
  go_ret
  exact ⟨rfl, ((Below.refl _ _).alloc (Nat.le_refl _) _).alloc (by simp) _⟩

set_option maxHeartbeats 1000000 in
set_option maxRecDepth 100000 in
/-- Both lists hold the same records: it says so. -/
theorem eqWaitS_same {w : World} {a a' : Option Addr} {xs : List Wai} (cap cap' : Nat) (h : Recs Wai.cs w a xs) (h' : Recs Wai.cs w a' xs) (hl : xs.length ≤ 1048576) :
    Calls Try.prog 23 #[.slice a xs.length cap, .slice a' xs.length cap'] w fun e w' => e = .returned (.bool true) ∧ Below w.heap.size w w' := by
  have H := Lib.hid h
  have H' := Lib.hid h'
  clear h h'
  go_enter Try.func23, Try.ntmps23
  go_wp2
  go_loopw [5] (fun i w' => ∃ (k : Nat), k ≤ xs.length ∧ i = .int .i64 k ∧ Below w.heap.size w w') (fun i _ => xs.length - (intOf i).toNat)
  case atStart => exact ⟨0, Nat.zero_le _, rfl, Below.refl _ _⟩
  case round =>
    obtain ⟨k, hk, rfl, hb⟩ := hrel
    have HB := Lib.hid hb
    clear hb
    by_cases hlt : k < xs.length
    · obtain ⟨b, off, rfl, _, hc0, hc1, hc2, hc3⟩ := Wai.at (H.out.below HB.out) k hlt
      obtain ⟨b', off', rfl, _, hd0, hd1, hd2, hd3⟩ := Wai.at (H'.out.below HB.out) k hlt
      go_wp2
      go_still_tail 8, (by kernel_rfl)
      change wpList _ _ _ _ _ wr.drew
      go_wp2_with fail
      refine (eqWait_same _ _ _ _ _).mono ?_
      rintro e w2 ⟨rfl, hb2⟩
      have HB2 := Lib.hid (below_trans (show Below w.heap.size w wr.drew from below_draws HB.out 1) hb2)
      clear hb2
      go_wp2
      go_roundw
      case rel => exact ⟨k + 1, by omega, by go_num, HB2.out⟩
      case measure => simp [intOf]; omega
    · go_wp2
      go_ret
      exact ⟨rfl, HB.out⟩

/-- The record of marks from k on. -/
def Wai.mark (k : Nat) : Wai := ⟨markB (k), markB (k + 1), ((k + 2 : Nat) : Int), ((k + 3 : Nat) : Int)⟩

set_option maxHeartbeats 2000000 in
set_option maxRecDepth 100000 in
theorem markWaitS_any {w : World} {b off n : Nat} (cap k : Nat) (h : Mine w b off (n * 4)) (hb : b < w.heap.size) (h0 : 0 < k) (hl : k + n * 4 ≤ 10000000) :
    Calls Try.prog 28 #[.slice (some ⟨b, off, none⟩) n cap, .int .i64 k] w fun e w' => e = .returned (.int .i64 ((k + n * 4 : Nat) : Int)) ∧ Wrote w b off (n * 4) ((marksR Wai.mark 4 k n).flatMap Wai.cs) (n * 4) w' := by
  have HM := Lib.hid h
  clear h
  go_enter Try.func28, Try.ntmps28
  go_wp2
  go_loopw [1, 5] (fun t i w' => ∃ j : Nat, j ≤ n ∧ i = .int .i64 j ∧ t = .int .i64 ((k + j * 4 : Nat) : Int) ∧ Wrote w b off (n * 4) ((marksR Wai.mark 4 k n).flatMap Wai.cs) (j * 4) w') (fun _ i _ => n - (intOf i).toNat)
  case atStart => exact ⟨0, Nat.zero_le _, rfl, by simp, Wrote.start HM.out _⟩
  case round =>
    obtain ⟨j, hj, rfl, rfl, hw⟩ := hrel
    by_cases hlt : j < n
    · have HW := Lib.hid hw
      have hjm : j < (marksR Wai.mark 4 k n).length := by rw [marksR_length]; exact hlt
      have HA := Lib.hid (marksR_at Wai.mark 4 k n j hlt)
      clear hw
      go_wp2_with fail
      refine (markText_any (k + j * 4) (by omega) (by omega) _).mono ?_
      rintro e m0 ⟨rfl, hb0⟩
      have hw0 := HW.out.below hb hb0
      have hv0 : ((marksR Wai.mark 4 k n).flatMap Wai.cs)[j * 4 + 0]? = some (.string (markB (k + j * 4))) := by rw [flat_at Wai.len _ j 0 hjm (by omega), HA.out]; rfl
      have hs0 := hw0.put (p := off + j * 4) (q := j * 4 + 1) (by omega) hv0 (by omega) (by omega)
      obtain ⟨u0, hu0⟩ := hw0.mine.all (j * 4 + 0) (by omega)
      have hf0 := hw0.mine.free (off + j * 4)
      rw [Nat.add_zero] at hu0
      have HW0 := Lib.hid hs0
      clear hs0 hv0 hw0 HW hb0
      go_wp2_with fail
      refine (markText_any (k + j * 4 + 1) (by omega) (by omega) _).mono ?_
      rintro e m1 ⟨rfl, hb1⟩
      have hw1 := HW0.out.below hb hb1
      have hv1 : ((marksR Wai.mark 4 k n).flatMap Wai.cs)[j * 4 + 1]? = some (.string (markB (k + j * 4 + 1))) := by rw [flat_at Wai.len _ j 1 hjm (by omega), HA.out]; rfl
      have hs1 := hw1.put (p := off + j * 4 + 1) (q := j * 4 + 2) (by omega) hv1 (by omega) (by omega)
      obtain ⟨u1, hu1⟩ := hw1.mine.all (j * 4 + 1) (by omega)
      have hf1 := hw1.mine.free (off + j * 4 + 1)
      rw [← Nat.add_assoc] at hu1
      have HW1 := Lib.hid hs1
      clear hs1 hv1 hw1 HW0 hb1
      have hw2 := HW1.out
      have hv2 : ((marksR Wai.mark 4 k n).flatMap Wai.cs)[j * 4 + 2]? = some (.int .i64 (((k + j * 4 + 1 + 1 : Nat) : Int))) := by rw [flat_at Wai.len _ j 2 hjm (by omega), HA.out]; rfl
      rw [show ((k + j * 4 + 1 + 1 : Nat) : Int) = (k : Int) + (j : Int) * 4 + 1 + 1 by omega] at hv2
      have hs2 := hw2.put (p := off + j * 4 + 2) (q := j * 4 + 3) (by omega) hv2 (by omega) (by omega)
      obtain ⟨u2, hu2⟩ := hw2.mine.all (j * 4 + 2) (by omega)
      have hf2 := hw2.mine.free (off + j * 4 + 2)
      rw [← Nat.add_assoc] at hu2
      have HW2 := Lib.hid hs2
      clear hs2 hv2 hw2 HW1 
      have hw3 := HW2.out
      have hv3 : ((marksR Wai.mark 4 k n).flatMap Wai.cs)[j * 4 + 3]? = some (.int .i64 (((k + j * 4 + 1 + 1 + 1 : Nat) : Int))) := by rw [flat_at Wai.len _ j 3 hjm (by omega), HA.out]; rfl
      rw [show ((k + j * 4 + 1 + 1 + 1 : Nat) : Int) = (k : Int) + (j : Int) * 4 + 1 + 1 + 1 by omega] at hv3
      have hs3 := hw3.put (p := off + j * 4 + 3) (q := j * 4 + 4) (by omega) hv3 (by omega) (by omega)
      obtain ⟨u3, hu3⟩ := hw3.mine.all (j * 4 + 3) (by omega)
      have hf3 := hw3.mine.free (off + j * 4 + 3)
      rw [← Nat.add_assoc] at hu3
      have HW3 := Lib.hid hs3
      clear hs3 hv3 hw3 HW2 
      have HE := Lib.hid (show Wrote w b off (n * 4) ((marksR Wai.mark 4 k n).flatMap Wai.cs) ((j + 1) * 4) _ from by have := HW3.out; rw [show j * 4 + 4 = (j + 1) * 4 by omega] at this; exact this)
      clear HW3
      go_wp2
      go_roundw
      case rel => exact ⟨j + 1, by omega, by go_num, by go_num, HE.out⟩
      case measure => simp [intOf]; omega
    · obtain rfl : j = n := by omega
      have HW := Lib.hid hw
      clear hw
      go_wp2
      go_ret
      exact ⟨rfl, HW.out⟩

set_option maxHeartbeats 2000000 in
set_option maxRecDepth 100000 in
theorem heldWaitS_any {w : World} {a : Option Addr} {n : Nat} (cap k : Nat) (h : Recs Wai.cs w a (marksR Wai.mark 4 k n)) (h0 : 0 < k) (hl : k + n * 4 ≤ 10000000) :
    Calls Try.prog 32 #[.slice a n cap, .int .i64 k] w fun e w' => e = .returned (.int .i64 ((k + n * 4 : Nat) : Int)) ∧ Below w.heap.size w w' := by
  have H := Lib.hid h
  clear h
  go_enter Try.func32, Try.ntmps32
  go_wp2
  go_loopw [1, 5] (fun t i w' => ∃ j : Nat, j ≤ n ∧ i = .int .i64 j ∧ t = .int .i64 ((k + j * 4 : Nat) : Int) ∧ Below w.heap.size w w') (fun _ i _ => n - (intOf i).toNat)
  case atStart => exact ⟨0, Nat.zero_le _, rfl, by simp, Below.refl _ _⟩
  case round =>
    obtain ⟨j, hj, rfl, rfl, hb⟩ := hrel
    have HB := Lib.hid hb
    clear hb
    by_cases hlt : j < n
    · obtain ⟨b, off, rfl, _, g0, g1, g2, g3⟩ := Wai.at (H.out.below HB.out) j (by rw [marksR_length]; exact hlt)
      rw [marksR_at Wai.mark 4 k n j hlt] at g0 g1 g2 g3
      have hc0 : wr.cell? ⟨b, off + j * 4, none⟩ = some (.string (markB (k + j * 4))) := g0
      have hc1 : wr.cell? ⟨b, off + j * 4 + 1, none⟩ = some (.string (markB (k + j * 4 + 1))) := g1
      have hc2 : wr.cell? ⟨b, off + j * 4 + 2, none⟩ = some (.int .i64 (((k + j * 4 + 1 + 1 : Nat) : Int))) := g2
      have hc3 : wr.cell? ⟨b, off + j * 4 + 3, none⟩ = some (.int .i64 (((k + j * 4 + 1 + 1 + 1 : Nat) : Int))) := g3
      clear g0 g1 g2 g3
      have e0_0 := Grow.cell hc0
      have e0_1 := Grow.cell hc1
      have e0_2 := Grow.cell hc2
      have e0_3 := Grow.cell hc3
      go_wp2
      refine wp_region_grow (by kernel_rfl) (by kernel_rfl) ?_
      repeat (go_big_quiet_step ((go_at_call 25; exact grow_call rfl (markText_any (k + j * 4) (by omega) (by omega) _))))
      refine wpQuiet_nil ?_
      intro _ hw0
      obtain ⟨gr0, rfl⟩ := hw0
      have HB0 := Lib.hid (below_trans HB.out gr0.ok)
      have d1_1 := e0_1 gr0
      have d1_2 := e0_2 gr0
      have d1_3 := e0_3 gr0
      clear e0_0 e0_1 e0_2 e0_3
      have e1_1 := Grow.cell d1_1
      have e1_2 := Grow.cell d1_2
      have e1_3 := Grow.cell d1_3
      go_wp2
      refine wp_region_grow (by kernel_rfl) (by kernel_rfl) ?_
      repeat (go_big_quiet_step ((go_at_call 25; exact grow_call rfl (markText_any (k + j * 4 + 1) (by omega) (by omega) _))))
      refine wpQuiet_nil ?_
      intro _ hw1
      obtain ⟨gr1, rfl⟩ := hw1
      have HB1 := Lib.hid (below_trans HB0.out gr1.ok)
      have d2_2 := e1_2 gr1
      have d2_3 := e1_3 gr1
      clear e1_1 e1_2 e1_3
      go_wp2
      go_roundw
      case rel => exact ⟨j + 1, by omega, by go_num, by go_num, HB1.out⟩
      case measure => simp [intOf]; omega
    · obtain rfl : j = n := by omega
      go_wp2
      go_ret
      exact ⟨rfl, HB.out⟩

set_option maxHeartbeats 1000000 in
set_option maxRecDepth 100000 in
theorem markWaitS_none {w : World} (a : Option Addr) (cap k : Nat) : Calls Try.prog 28 #[.slice a 0 cap, .int .i64 k] w fun e w' => e = .returned (.int .i64 (k : Int)) ∧ w = w' := by
  go_enter Try.func28, Try.ntmps28
  go_wp2
  go_loop [1, 5] (fun t i => t = .int .i64 k ∧ i = .int .i64 0) (fun _ _ => 0)
  case atStart => exact ⟨rfl, rfl⟩
  case round =>
    obtain ⟨rfl, rfl⟩ := hrel
    go_wp2
    go_ret
    exact ⟨rfl, rfl⟩

/-- What marks leave of a list of the call's own. -/
def MarkWait (w : World) (B : Nat) (a : Option Addr) (k n : Nat) (e : Ending) (w' : World) : Prop := e = .returned (.int .i64 ((k + n * 4 : Nat) : Int)) ∧ Recs Wai.cs w' a (marksR Wai.mark 4 k n) ∧ Below B w w'

theorem markWait_own {w : World} {B : Nat} {a : Option Addr} {xs : List Wai} (cap k : Nat) (h : OwnR Wai.cs 4 w B a xs) (h0 : 0 < k) (hl : k + xs.length * 4 ≤ 10000000) :
    Calls Try.prog 28 #[.slice a xs.length cap, .int .i64 k] w (MarkWait w B a k xs.length) := by
  rcases h.2 with rfl | ⟨b, rfl, h1, h2, hm⟩
  · refine (markWaitS_none a cap k).mono ?_
    rintro e w' ⟨rfl, rfl⟩
    exact ⟨by simp, Lies.nil _ _, Below.refl _ _⟩
  · refine (markWaitS_any cap k hm h2 h0 hl).mono ?_
    rintro e w' ⟨rfl, hw⟩
    refine ⟨rfl, hw.lies (by rw [flat_length Wai.len, marksR_length]; exact Nat.le_refl _), ?_⟩
    exact ⟨hw.grown.os, hw.grown.tape, hw.grown.output, hw.grown.size, fun i hi => hw.grown.block i (by omega) (by intro e; injection e with e; omega)⟩

theorem markFst_Wait {w : World} {b n : Nat} (cap : Nat) (h : Mine w b 0 (n * 4)) (hb : b < w.heap.size) (hl : n ≤ 1048576) :
    Calls Try.prog 28 #[.slice (some ⟨b, 0, none⟩) n cap, .int .i64 1] w fun e w' => e = .returned (.int .i64 (markTo 4 n)) ∧ w.grownBy w' (some b) :=
  (markWaitS_any cap 1 h hb (by omega) (by omega)).mono fun _ _ ⟨he, hw⟩ => ⟨he, hw.grown⟩

theorem markOwn_Wait {w : World} {B : Nat} {a : Option Addr} {xs : List Wai} (cap : Nat) (h : OwnR Wai.cs 4 w B a xs) (hl : xs.length ≤ 1048576) :
    Calls Try.prog 28 #[.slice a xs.length cap, .int .i64 1] w fun e w' => e = .returned (.int .i64 (markTo 4 xs.length)) ∧ Recs Wai.cs w' a (marksR Wai.mark 4 1 xs.length) ∧ Below B w w' :=
  markWait_own cap 1 h (by omega) (by omega)

theorem heldOwn_Wait {w : World} {a : Option Addr} {n : Nat} (cap : Nat) (h : Recs Wai.cs w a (marksR Wai.mark 4 1 n)) (hl : n ≤ 1048576) :
    Calls Try.prog 32 #[.slice a n cap, .int .i64 1] w fun e w' => e = .returned (.int .i64 (markTo 4 n)) ∧ Below w.heap.size w w' :=
  heldWaitS_any cap 1 h (by omega) (by omega)

end Go.Proofs.Ytbgklakhelcgcaa
