/-
  Mill: its records in memory, and what the laws' own helpers do with them. (Written by wip/tools/rec.py.)
-/
import Derived.Test.YtbgklakhelcgcaaRecs
import Derived.Test.YtbgklakhelcgcaaMark
import Derived.Test.YtbgklakhelcgcaaGrow
import Derived.StillTailTactics
import Derived.Deep.RegionHeld3
namespace Go.Proofs.Ytbgklakhelcgcaa
open Go.ChangeShapes Go.WideShapes Go.ChangeAt Go.RowKit

/-- A Mill. -/
structure Mil where
  name : ByteArray
  stake : Int
  shares : Int
  cut : Int
  shut : Bool
def Mil.cs (x : Mil) : List Value := [.string x.name, .int .i64 x.stake, .int .i64 x.shares, .int .i64 x.cut, .bool x.shut]
theorem Mil.len (x : Mil) : x.cs.length = 5 := rfl
theorem Mil.one (x : Mil) : ∀ v ∈ x.cs, v.oneCell' = true := by
  intro v hv
  simp only [Mil.cs, List.mem_cons, List.not_mem_nil, or_false] at hv
  rcases hv with rfl | rfl | rfl | rfl | rfl <;> rfl
/-- The bytes of its strings. -/
def Mil.bytes (x : Mil) : Nat := x.name.size
/-- Its strings are no longer than a machine's. -/
def Mil.fits (x : Mil) : Prop := x.name.size ≤ 9223372036854775807
theorem Mil.at {w : World} {a : Option Addr} {xs : List Mil} (h : Recs Mil.cs w a xs) (k : Nat) (hk : k < xs.length) :
    ∃ b off, a = some ⟨b, off, none⟩ ∧ b < w.heap.size ∧ w.cell? ⟨b, off + k * 5, none⟩ = some (.string xs[k].name) ∧ w.cell? ⟨b, off + k * 5 + 1, none⟩ = some (.int .i64 xs[k].stake) ∧ w.cell? ⟨b, off + k * 5 + 2, none⟩ = some (.int .i64 xs[k].shares) ∧ w.cell? ⟨b, off + k * 5 + 3, none⟩ = some (.int .i64 xs[k].cut) ∧ w.cell? ⟨b, off + k * 5 + 4, none⟩ = some (.bool xs[k].shut) := by
  obtain ⟨b, off, e, hb, hc⟩ := h.cell Mil.len (by omega) k hk
  exact ⟨b, off, e, hb, hc 0 _ rfl, hc 1 _ rfl, hc 2 _ rfl, hc 3 _ rfl, hc 4 _ rfl⟩

theorem info_Mill : (Try.prog.info? 62).map (fun i => (i.zero, i.size, i.bytes)) = some (some (.agg #[.string ByteArray.empty, .int .i64 0, .int .i64 0, .int .i64 0, .bool false]), 5, 48) := by kernel_rfl

theorem size_Mill : (Try.prog.info? 62).map (·.size) = some 5 := by kernel_rfl

/-- What is left behind one: -1 where it is too much. -/
def Mil.left (x : Mil) (left : Int) : Int := if (x.bytes : Int) ≤ left then left - x.bytes else -1

/-- What 'toMillS' leaves: the same records, in the block behind all that was there. -/
def ToMill (xs : List Mil) (w : World) (e : Ending) (w' : World) : Prop :=
  e = .returned (.slice (some ⟨w.heap.size, 0, none⟩) xs.length xs.length) ∧ Recs Mil.cs w' (some ⟨w.heap.size, 0, none⟩) xs ∧ Below w.heap.size w w' ∧ Mine w' w.heap.size 0 (xs.length * 5) ∧ w.heap.size < w'.heap.size

theorem room_Mill {w w' : World} {n k : Nat} {xs : List Mil} (h : Room w n (xs.flatMap Mil.cs) (k * 5) w') (hk : k < xs.length) (hn : n = xs.length * 5) :
    Room w n (xs.flatMap Mil.cs) ((k + 1) * 5) (((((w'.setCell ⟨w.heap.size, k * 5, none⟩ (.string xs[k].name)).setCell ⟨w.heap.size, k * 5 + 1, none⟩ (.int .i64 xs[k].stake)).setCell ⟨w.heap.size, k * 5 + 2, none⟩ (.int .i64 xs[k].shares)).setCell ⟨w.heap.size, k * 5 + 3, none⟩ (.int .i64 xs[k].cut)).setCell ⟨w.heap.size, k * 5 + 4, none⟩ (.bool xs[k].shut)) := by
  rw [show (k + 1) * 5 = k * 5 + 1 + 1 + 1 + 1 + 1 by omega]
  exact (((((h.set (by omega) ((flat_at Mil.len xs k 0 hk (by omega)).trans rfl)).set (by omega) ((flat_at Mil.len xs k 1 hk (by omega)).trans rfl)).set (by omega) ((flat_at Mil.len xs k 2 hk (by omega)).trans rfl)).set (by omega) ((flat_at Mil.len xs k 3 hk (by omega)).trans rfl)).set (by omega) ((flat_at Mil.len xs k 4 hk (by omega)).trans rfl))

set_option maxHeartbeats 1000000 in
set_option maxRecDepth 100000 in
theorem eqMill_same (v0 : ByteArray) (v1 : Int) (v2 : Int) (v3 : Int) (v4 : Bool) (w : World) :
    Calls Try.prog 40 #[.agg #[.string v0, .int .i64 v1, .int .i64 v2, .int .i64 v3, .bool v4], .agg #[.string v0, .int .i64 v1, .int .i64 v2, .int .i64 v3, .bool v4]] w fun e w' => e = .returned (.bool true) ∧ Below w.heap.size w w' := by
  go_enter Try.func40, Try.ntmps40
  go_wp2
  go_ret
  exact ⟨rfl, ((Below.refl _ _).alloc (Nat.le_refl _) _).alloc (by simp) _⟩

set_option maxHeartbeats 1000000 in
set_option maxRecDepth 100000 in
/-- Both lists hold the same records: it says so. -/
theorem eqMillS_same {w : World} {a a' : Option Addr} {xs : List Mil} (cap cap' : Nat) (h : Recs Mil.cs w a xs) (h' : Recs Mil.cs w a' xs) (hl : xs.length ≤ 1048576) :
    Calls Try.prog 21 #[.slice a xs.length cap, .slice a' xs.length cap'] w fun e w' => e = .returned (.bool true) ∧ Below w.heap.size w w' := by
  have H := Lib.hid h
  have H' := Lib.hid h'
  clear h h'
  go_enter Try.func21, Try.ntmps21
  go_wp2
  go_loopw [5] (fun i w' => ∃ (k : Nat), k ≤ xs.length ∧ i = .int .i64 k ∧ Below w.heap.size w w') (fun i _ => xs.length - (intOf i).toNat)
  case atStart => exact ⟨0, Nat.zero_le _, rfl, Below.refl _ _⟩
  case round =>
    obtain ⟨k, hk, rfl, hb⟩ := hrel
    have HB := Lib.hid hb
    clear hb
    by_cases hlt : k < xs.length
    · obtain ⟨b, off, rfl, _, hc0, hc1, hc2, hc3, hc4⟩ := Mil.at (H.out.below HB.out) k hlt
      obtain ⟨b', off', rfl, _, hd0, hd1, hd2, hd3, hd4⟩ := Mil.at (H'.out.below HB.out) k hlt
      go_wp2
      go_still_tail 8, (by kernel_rfl)
      change wpList _ _ _ _ _ wr.drew
      go_wp2_with fail
      refine (eqMill_same _ _ _ _ _ _).mono ?_
      rintro e w2 ⟨rfl, hb2⟩
      have HB2 := Lib.hid (below_trans (show Below w.heap.size w wr.drew from below_draws HB.out 1) hb2)
      clear hb2
      go_wp2
      go_roundw
      case rel => exact ⟨k + 1, by omega, by go_num, HB2.out⟩
      case measure => simp [intOf]; omega
    · go_wp2
      go_ret
      exact ⟨rfl, HB.out⟩

/-- The record of marks from k on. -/
def Mil.mark (k : Nat) : Mil := ⟨markB (k), ((k + 1 : Nat) : Int), ((k + 2 : Nat) : Int), ((k + 3 : Nat) : Int), (((k + 4 : Nat) : Int) % 3 == 0)⟩

set_option maxHeartbeats 2000000 in
set_option maxRecDepth 100000 in
theorem markMillS_any {w : World} {b off n : Nat} (cap k : Nat) (h : Mine w b off (n * 5)) (hb : b < w.heap.size) (h0 : 0 < k) (hl : k + n * 5 ≤ 10000000) :
    Calls Try.prog 26 #[.slice (some ⟨b, off, none⟩) n cap, .int .i64 k] w fun e w' => e = .returned (.int .i64 ((k + n * 5 : Nat) : Int)) ∧ Wrote w b off (n * 5) ((marksR Mil.mark 5 k n).flatMap Mil.cs) (n * 5) w' := by
  have HM := Lib.hid h
  clear h
  go_enter Try.func26, Try.ntmps26
  go_wp2
  go_loopw [1, 5] (fun t i w' => ∃ j : Nat, j ≤ n ∧ i = .int .i64 j ∧ t = .int .i64 ((k + j * 5 : Nat) : Int) ∧ Wrote w b off (n * 5) ((marksR Mil.mark 5 k n).flatMap Mil.cs) (j * 5) w') (fun _ i _ => n - (intOf i).toNat)
  case atStart => exact ⟨0, Nat.zero_le _, rfl, by simp, Wrote.start HM.out _⟩
  case round =>
    obtain ⟨j, hj, rfl, rfl, hw⟩ := hrel
    by_cases hlt : j < n
    · have HW := Lib.hid hw
      have hjm : j < (marksR Mil.mark 5 k n).length := by rw [marksR_length]; exact hlt
      have HA := Lib.hid (marksR_at Mil.mark 5 k n j hlt)
      clear hw
      go_wp2_with fail
      refine (markText_any (k + j * 5) (by omega) (by omega) _).mono ?_
      rintro e m0 ⟨rfl, hb0⟩
      have hw0 := HW.out.below hb hb0
      have hv0 : ((marksR Mil.mark 5 k n).flatMap Mil.cs)[j * 5 + 0]? = some (.string (markB (k + j * 5))) := by rw [flat_at Mil.len _ j 0 hjm (by omega), HA.out]; rfl
      have hs0 := hw0.put (p := off + j * 5) (q := j * 5 + 1) (by omega) hv0 (by omega) (by omega)
      obtain ⟨u0, hu0⟩ := hw0.mine.all (j * 5 + 0) (by omega)
      have hf0 := hw0.mine.free (off + j * 5)
      rw [Nat.add_zero] at hu0
      have HW0 := Lib.hid hs0
      clear hs0 hv0 hw0 HW hb0
      have hw1 := HW0.out
      have hv1 : ((marksR Mil.mark 5 k n).flatMap Mil.cs)[j * 5 + 1]? = some (.int .i64 (((k + j * 5 + 1 : Nat) : Int))) := by rw [flat_at Mil.len _ j 1 hjm (by omega), HA.out]; rfl
      rw [show ((k + j * 5 + 1 : Nat) : Int) = (k : Int) + (j : Int) * 5 + 1 by omega] at hv1
      have hs1 := hw1.put (p := off + j * 5 + 1) (q := j * 5 + 2) (by omega) hv1 (by omega) (by omega)
      obtain ⟨u1, hu1⟩ := hw1.mine.all (j * 5 + 1) (by omega)
      have hf1 := hw1.mine.free (off + j * 5 + 1)
      rw [← Nat.add_assoc] at hu1
      have HW1 := Lib.hid hs1
      clear hs1 hv1 hw1 HW0 
      have hw2 := HW1.out
      have hv2 : ((marksR Mil.mark 5 k n).flatMap Mil.cs)[j * 5 + 2]? = some (.int .i64 (((k + j * 5 + 1 + 1 : Nat) : Int))) := by rw [flat_at Mil.len _ j 2 hjm (by omega), HA.out]; rfl
      rw [show ((k + j * 5 + 1 + 1 : Nat) : Int) = (k : Int) + (j : Int) * 5 + 1 + 1 by omega] at hv2
      have hs2 := hw2.put (p := off + j * 5 + 2) (q := j * 5 + 3) (by omega) hv2 (by omega) (by omega)
      obtain ⟨u2, hu2⟩ := hw2.mine.all (j * 5 + 2) (by omega)
      have hf2 := hw2.mine.free (off + j * 5 + 2)
      rw [← Nat.add_assoc] at hu2
      have HW2 := Lib.hid hs2
      clear hs2 hv2 hw2 HW1 
      have hw3 := HW2.out
      have hv3 : ((marksR Mil.mark 5 k n).flatMap Mil.cs)[j * 5 + 3]? = some (.int .i64 (((k + j * 5 + 1 + 1 + 1 : Nat) : Int))) := by rw [flat_at Mil.len _ j 3 hjm (by omega), HA.out]; rfl
      rw [show ((k + j * 5 + 1 + 1 + 1 : Nat) : Int) = (k : Int) + (j : Int) * 5 + 1 + 1 + 1 by omega] at hv3
      have hs3 := hw3.put (p := off + j * 5 + 3) (q := j * 5 + 4) (by omega) hv3 (by omega) (by omega)
      obtain ⟨u3, hu3⟩ := hw3.mine.all (j * 5 + 3) (by omega)
      have hf3 := hw3.mine.free (off + j * 5 + 3)
      rw [← Nat.add_assoc] at hu3
      have HW3 := Lib.hid hs3
      clear hs3 hv3 hw3 HW2 
      have hw4 := HW3.out
      have hv4 : ((marksR Mil.mark 5 k n).flatMap Mil.cs)[j * 5 + 4]? = some (.bool ((((k + j * 5 + 1 + 1 + 1 + 1 : Nat) : Int) % 3 == 0))) := by rw [flat_at Mil.len _ j 4 hjm (by omega), HA.out]; rfl
      rw [show ((k + j * 5 + 1 + 1 + 1 + 1 : Nat) : Int) = (k : Int) + (j : Int) * 5 + 1 + 1 + 1 + 1 by omega] at hv4
      have hs4 := hw4.put (p := off + j * 5 + 4) (q := j * 5 + 5) (by omega) hv4 (by omega) (by omega)
      obtain ⟨u4, hu4⟩ := hw4.mine.all (j * 5 + 4) (by omega)
      have hf4 := hw4.mine.free (off + j * 5 + 4)
      rw [← Nat.add_assoc] at hu4
      have HW4 := Lib.hid hs4
      clear hs4 hv4 hw4 HW3 
      have HE := Lib.hid (show Wrote w b off (n * 5) ((marksR Mil.mark 5 k n).flatMap Mil.cs) ((j + 1) * 5) _ from by have := HW4.out; rw [show j * 5 + 5 = (j + 1) * 5 by omega] at this; exact this)
      clear HW4
      go_wp2
      go_roundw
      case rel => exact ⟨j + 1, by omega, by go_num, by go_num, HE.out⟩
      case measure => simp [intOf]; omega
    · obtain rfl : j = n := by omega
      have HW := Lib.hid hw
      clear hw
      go_wp2
      go_ret
      exact ⟨rfl, HW.out⟩

set_option maxHeartbeats 2000000 in
set_option maxRecDepth 100000 in
theorem heldMillS_any {w : World} {a : Option Addr} {n : Nat} (cap k : Nat) (h : Recs Mil.cs w a (marksR Mil.mark 5 k n)) (h0 : 0 < k) (hl : k + n * 5 ≤ 10000000) :
    Calls Try.prog 30 #[.slice a n cap, .int .i64 k] w fun e w' => e = .returned (.int .i64 ((k + n * 5 : Nat) : Int)) ∧ Below w.heap.size w w' := by
  have H := Lib.hid h
  clear h
  go_enter Try.func30, Try.ntmps30
  go_wp2
  go_loopw [1, 5] (fun t i w' => ∃ j : Nat, j ≤ n ∧ i = .int .i64 j ∧ t = .int .i64 ((k + j * 5 : Nat) : Int) ∧ Below w.heap.size w w') (fun _ i _ => n - (intOf i).toNat)
  case atStart => exact ⟨0, Nat.zero_le _, rfl, by simp, Below.refl _ _⟩
  case round =>
    obtain ⟨j, hj, rfl, rfl, hb⟩ := hrel
    have HB := Lib.hid hb
    clear hb
    by_cases hlt : j < n
    · obtain ⟨b, off, rfl, _, g0, g1, g2, g3, g4⟩ := Mil.at (H.out.below HB.out) j (by rw [marksR_length]; exact hlt)
      rw [marksR_at Mil.mark 5 k n j hlt] at g0 g1 g2 g3 g4
      have hc0 : wr.cell? ⟨b, off + j * 5, none⟩ = some (.string (markB (k + j * 5))) := g0
      have hc1 : wr.cell? ⟨b, off + j * 5 + 1, none⟩ = some (.int .i64 (((k + j * 5 + 1 : Nat) : Int))) := g1
      have hc2 : wr.cell? ⟨b, off + j * 5 + 2, none⟩ = some (.int .i64 (((k + j * 5 + 1 + 1 : Nat) : Int))) := g2
      have hc3 : wr.cell? ⟨b, off + j * 5 + 3, none⟩ = some (.int .i64 (((k + j * 5 + 1 + 1 + 1 : Nat) : Int))) := g3
      have hc4 : wr.cell? ⟨b, off + j * 5 + 4, none⟩ = some (.bool ((((k + j * 5 + 1 + 1 + 1 + 1 : Nat) : Int) % 3 == 0))) := g4
      rw [show ((k + j * 5 + 1 + 1 + 1 + 1 : Nat) : Int) = (k : Int) + (j : Int) * 5 + 1 + 1 + 1 + 1 by omega] at hc4
      clear g0 g1 g2 g3 g4
      have e0_0 := Grow.cell hc0
      have e0_1 := Grow.cell hc1
      have e0_2 := Grow.cell hc2
      have e0_3 := Grow.cell hc3
      have e0_4 := Grow.cell hc4
      go_wp2
      refine wp_region_grow (by kernel_rfl) (by kernel_rfl) ?_
      repeat (go_big_quiet_step ((go_at_call 25; exact grow_call rfl (markText_any (k + j * 5) (by omega) (by omega) _))))
      refine wpQuiet_nil ?_
      intro _ hw0
      obtain ⟨gr0, rfl⟩ := hw0
      have HB0 := Lib.hid (below_trans HB.out gr0.ok)
      have d1_1 := e0_1 gr0
      have d1_2 := e0_2 gr0
      have d1_3 := e0_3 gr0
      have d1_4 := e0_4 gr0
      clear e0_0 e0_1 e0_2 e0_3 e0_4
      go_wp2
      go_roundw
      case rel => exact ⟨j + 1, by omega, by go_num, by go_num, HB0.out⟩
      case measure => simp [intOf]; omega
    · obtain rfl : j = n := by omega
      go_wp2
      go_ret
      exact ⟨rfl, HB.out⟩

set_option maxHeartbeats 1000000 in
set_option maxRecDepth 100000 in
theorem markMillS_none {w : World} (a : Option Addr) (cap k : Nat) : Calls Try.prog 26 #[.slice a 0 cap, .int .i64 k] w fun e w' => e = .returned (.int .i64 (k : Int)) ∧ w = w' := by
  go_enter Try.func26, Try.ntmps26
  go_wp2
  go_loop [1, 5] (fun t i => t = .int .i64 k ∧ i = .int .i64 0) (fun _ _ => 0)
  case atStart => exact ⟨rfl, rfl⟩
  case round =>
    obtain ⟨rfl, rfl⟩ := hrel
    go_wp2
    go_ret
    exact ⟨rfl, rfl⟩

/-- What marks leave of a list of the call's own. -/
def MarkMill (w : World) (B : Nat) (a : Option Addr) (k n : Nat) (e : Ending) (w' : World) : Prop := e = .returned (.int .i64 ((k + n * 5 : Nat) : Int)) ∧ Recs Mil.cs w' a (marksR Mil.mark 5 k n) ∧ Below B w w'

theorem markMill_own {w : World} {B : Nat} {a : Option Addr} {xs : List Mil} (cap k : Nat) (h : OwnR Mil.cs 5 w B a xs) (h0 : 0 < k) (hl : k + xs.length * 5 ≤ 10000000) :
    Calls Try.prog 26 #[.slice a xs.length cap, .int .i64 k] w (MarkMill w B a k xs.length) := by
  rcases h.2 with rfl | ⟨b, rfl, h1, h2, hm⟩
  · refine (markMillS_none a cap k).mono ?_
    rintro e w' ⟨rfl, rfl⟩
    exact ⟨by simp, Lies.nil _ _, Below.refl _ _⟩
  · refine (markMillS_any cap k hm h2 h0 hl).mono ?_
    rintro e w' ⟨rfl, hw⟩
    refine ⟨rfl, hw.lies (by rw [flat_length Mil.len, marksR_length]; exact Nat.le_refl _), ?_⟩
    exact ⟨hw.grown.os, hw.grown.tape, hw.grown.output, hw.grown.size, fun i hi => hw.grown.block i (by omega) (by intro e; injection e with e; omega)⟩

theorem markFst_Mill {w : World} {b n : Nat} (cap : Nat) (h : Mine w b 0 (n * 5)) (hb : b < w.heap.size) (hl : n ≤ 1048576) :
    Calls Try.prog 26 #[.slice (some ⟨b, 0, none⟩) n cap, .int .i64 1] w fun e w' => e = .returned (.int .i64 (markTo 5 n)) ∧ w.grownBy w' (some b) :=
  (markMillS_any cap 1 h hb (by omega) (by omega)).mono fun _ _ ⟨he, hw⟩ => ⟨he, hw.grown⟩

theorem markOwn_Mill {w : World} {B : Nat} {a : Option Addr} {xs : List Mil} (cap : Nat) (h : OwnR Mil.cs 5 w B a xs) (hl : xs.length ≤ 1048576) :
    Calls Try.prog 26 #[.slice a xs.length cap, .int .i64 1] w fun e w' => e = .returned (.int .i64 (markTo 5 xs.length)) ∧ Recs Mil.cs w' a (marksR Mil.mark 5 1 xs.length) ∧ Below B w w' :=
  markMill_own cap 1 h (by omega) (by omega)

theorem heldOwn_Mill {w : World} {a : Option Addr} {n : Nat} (cap : Nat) (h : Recs Mil.cs w a (marksR Mil.mark 5 1 n)) (hl : n ≤ 1048576) :
    Calls Try.prog 30 #[.slice a n cap, .int .i64 1] w fun e w' => e = .returned (.int .i64 (markTo 5 n)) ∧ Below w.heap.size w w' :=
  heldMillS_any cap 1 h (by omega) (by omega)

end Go.Proofs.Ytbgklakhelcgcaa
