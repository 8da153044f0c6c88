/-
  Part: its records in memory, and what the laws' own helpers do with them. (Written by wip/tools/rec.py.)
-/
import Derived.Test.YtbgklakhelcgcaaRecs
import Derived.Test.YtbgklakhelcgcaaMark
import Derived.Test.YtbgklakhelcgcaaGrow
import Derived.StillTailTactics
import Derived.Deep.RegionHeld3
namespace Go.Proofs.Ytbgklakhelcgcaa
open Go.ChangeShapes Go.WideShapes Go.ChangeAt Go.RowKit

/-- A Part. -/
structure Par where
  who : ByteArray
  mill : ByteArray
  shares : Int
def Par.cs (x : Par) : List Value := [.string x.who, .string x.mill, .int .i64 x.shares]
theorem Par.len (x : Par) : x.cs.length = 3 := rfl
theorem Par.one (x : Par) : ∀ v ∈ x.cs, v.oneCell' = true := by
  intro v hv
  simp only [Par.cs, List.mem_cons, List.not_mem_nil, or_false] at hv
  rcases hv with rfl | rfl | rfl <;> rfl
/-- The bytes of its strings. -/
def Par.bytes (x : Par) : Nat := x.who.size + x.mill.size
/-- Its strings are no longer than a machine's. -/
def Par.fits (x : Par) : Prop := x.who.size ≤ 9223372036854775807 ∧ x.mill.size ≤ 9223372036854775807
theorem Par.at {w : World} {a : Option Addr} {xs : List Par} (h : Recs Par.cs w a xs) (k : Nat) (hk : k < xs.length) :
    ∃ b off, a = some ⟨b, off, none⟩ ∧ b < w.heap.size ∧ w.cell? ⟨b, off + k * 3, none⟩ = some (.string xs[k].who) ∧ w.cell? ⟨b, off + k * 3 + 1, none⟩ = some (.string xs[k].mill) ∧ w.cell? ⟨b, off + k * 3 + 2, none⟩ = some (.int .i64 xs[k].shares) := by
  obtain ⟨b, off, e, hb, hc⟩ := h.cell Par.len (by omega) k hk
  exact ⟨b, off, e, hb, hc 0 _ rfl, hc 1 _ rfl, hc 2 _ rfl⟩

theorem info_Part : (Try.prog.info? 65).map (fun i => (i.zero, i.size, i.bytes)) = some (some (.agg #[.string ByteArray.empty, .string ByteArray.empty, .int .i64 0]), 3, 40) := by kernel_rfl

theorem size_Part : (Try.prog.info? 65).map (·.size) = some 3 := by kernel_rfl

/-- What is left behind one: -1 where it is too much. -/
def Par.left (x : Par) (left : Int) : Int := if (x.bytes : Int) ≤ left then left - x.bytes else -1

/-- What 'toPartS' leaves: the same records, in the block behind all that was there. -/
def ToPart (xs : List Par) (w : World) (e : Ending) (w' : World) : Prop :=
  e = .returned (.slice (some ⟨w.heap.size, 0, none⟩) xs.length xs.length) ∧ Recs Par.cs w' (some ⟨w.heap.size, 0, none⟩) xs ∧ Below w.heap.size w w' ∧ Mine w' w.heap.size 0 (xs.length * 3) ∧ w.heap.size < w'.heap.size

theorem room_Part {w w' : World} {n k : Nat} {xs : List Par} (h : Room w n (xs.flatMap Par.cs) (k * 3) w') (hk : k < xs.length) (hn : n = xs.length * 3) :
    Room w n (xs.flatMap Par.cs) ((k + 1) * 3) (((w'.setCell ⟨w.heap.size, k * 3, none⟩ (.string xs[k].who)).setCell ⟨w.heap.size, k * 3 + 1, none⟩ (.string xs[k].mill)).setCell ⟨w.heap.size, k * 3 + 2, none⟩ (.int .i64 xs[k].shares)) := by
  rw [show (k + 1) * 3 = k * 3 + 1 + 1 + 1 by omega]
  exact (((h.set (by omega) ((flat_at Par.len xs k 0 hk (by omega)).trans rfl)).set (by omega) ((flat_at Par.len xs k 1 hk (by omega)).trans rfl)).set (by omega) ((flat_at Par.len xs k 2 hk (by omega)).trans rfl))

set_option maxHeartbeats 1000000 in
set_option maxRecDepth 100000 in
theorem eqPart_same (v0 : ByteArray) (v1 : ByteArray) (v2 : Int) (w : World) :
    Calls Try.prog 41 #[.agg #[.string v0, .string v1, .int .i64 v2], .agg #[.string v0, .string v1, .int .i64 v2]] w fun e w' => e = .returned (.bool true) ∧ Below w.heap.size w w' := by
  go_enter Try.func41, Try.ntmps41
  go_wp2
  go_ret
  exact ⟨rfl, ((Below.refl _ _).alloc (Nat.le_refl _) _).alloc (by simp) _⟩

set_option maxHeartbeats 1000000 in
set_option maxRecDepth 100000 in
/-- Both lists hold the same records: it says so. -/
theorem eqPartS_same {w : World} {a a' : Option Addr} {xs : List Par} (cap cap' : Nat) (h : Recs Par.cs w a xs) (h' : Recs Par.cs w a' xs) (hl : xs.length ≤ 1048576) :
    Calls Try.prog 22 #[.slice a xs.length cap, .slice a' xs.length cap'] w fun e w' => e = .returned (.bool true) ∧ Below w.heap.size w w' := by
  have H := Lib.hid h
  have H' := Lib.hid h'
  clear h h'
  go_enter Try.func22, Try.ntmps22
  go_wp2
  go_loopw [5] (fun i w' => ∃ (k : Nat), k ≤ xs.length ∧ i = .int .i64 k ∧ Below w.heap.size w w') (fun i _ => xs.length - (intOf i).toNat)
  case atStart => exact ⟨0, Nat.zero_le _, rfl, Below.refl _ _⟩
  case round =>
    obtain ⟨k, hk, rfl, hb⟩ := hrel
    have HB := Lib.hid hb
    clear hb
    by_cases hlt : k < xs.length
    · obtain ⟨b, off, rfl, _, hc0, hc1, hc2⟩ := Par.at (H.out.below HB.out) k hlt
      obtain ⟨b', off', rfl, _, hd0, hd1, hd2⟩ := Par.at (H'.out.below HB.out) k hlt
      go_wp2
      go_still_tail 8, (by kernel_rfl)
      change wpList _ _ _ _ _ wr.drew
      go_wp2_with fail
      refine (eqPart_same _ _ _ _).mono ?_
      rintro e w2 ⟨rfl, hb2⟩
      have HB2 := Lib.hid (below_trans (show Below w.heap.size w wr.drew from below_draws HB.out 1) hb2)
      clear hb2
      go_wp2
      go_roundw
      case rel => exact ⟨k + 1, by omega, by go_num, HB2.out⟩
      case measure => simp [intOf]; omega
    · go_wp2
      go_ret
      exact ⟨rfl, HB.out⟩

/-- The record of marks from k on. -/
def Par.mark (k : Nat) : Par := ⟨markB (k), markB (k + 1), ((k + 2 : Nat) : Int)⟩

set_option maxHeartbeats 2000000 in
set_option maxRecDepth 100000 in
theorem markPartS_any {w : World} {b off n : Nat} (cap k : Nat) (h : Mine w b off (n * 3)) (hb : b < w.heap.size) (h0 : 0 < k) (hl : k + n * 3 ≤ 10000000) :
    Calls Try.prog 27 #[.slice (some ⟨b, off, none⟩) n cap, .int .i64 k] w fun e w' => e = .returned (.int .i64 ((k + n * 3 : Nat) : Int)) ∧ Wrote w b off (n * 3) ((marksR Par.mark 3 k n).flatMap Par.cs) (n * 3) w' := by
  have HM := Lib.hid h
  clear h
  go_enter Try.func27, Try.ntmps27
  go_wp2
  go_loopw [1, 5] (fun t i w' => ∃ j : Nat, j ≤ n ∧ i = .int .i64 j ∧ t = .int .i64 ((k + j * 3 : Nat) : Int) ∧ Wrote w b off (n * 3) ((marksR Par.mark 3 k n).flatMap Par.cs) (j * 3) w') (fun _ i _ => n - (intOf i).toNat)
  case atStart => exact ⟨0, Nat.zero_le _, rfl, by simp, Wrote.start HM.out _⟩
  case round =>
    obtain ⟨j, hj, rfl, rfl, hw⟩ := hrel
    by_cases hlt : j < n
    · have HW := Lib.hid hw
      have hjm : j < (marksR Par.mark 3 k n).length := by rw [marksR_length]; exact hlt
      have HA := Lib.hid (marksR_at Par.mark 3 k n j hlt)
      clear hw
      go_wp2_with fail
      refine (markText_any (k + j * 3) (by omega) (by omega) _).mono ?_
      rintro e m0 ⟨rfl, hb0⟩
      have hw0 := HW.out.below hb hb0
      have hv0 : ((marksR Par.mark 3 k n).flatMap Par.cs)[j * 3 + 0]? = some (.string (markB (k + j * 3))) := by rw [flat_at Par.len _ j 0 hjm (by omega), HA.out]; rfl
      have hs0 := hw0.put (p := off + j * 3) (q := j * 3 + 1) (by omega) hv0 (by omega) (by omega)
      obtain ⟨u0, hu0⟩ := hw0.mine.all (j * 3 + 0) (by omega)
      have hf0 := hw0.mine.free (off + j * 3)
      rw [Nat.add_zero] at hu0
      have HW0 := Lib.hid hs0
      clear hs0 hv0 hw0 HW hb0
      go_wp2_with fail
      refine (markText_any (k + j * 3 + 1) (by omega) (by omega) _).mono ?_
      rintro e m1 ⟨rfl, hb1⟩
      have hw1 := HW0.out.below hb hb1
      have hv1 : ((marksR Par.mark 3 k n).flatMap Par.cs)[j * 3 + 1]? = some (.string (markB (k + j * 3 + 1))) := by rw [flat_at Par.len _ j 1 hjm (by omega), HA.out]; rfl
      have hs1 := hw1.put (p := off + j * 3 + 1) (q := j * 3 + 2) (by omega) hv1 (by omega) (by omega)
      obtain ⟨u1, hu1⟩ := hw1.mine.all (j * 3 + 1) (by omega)
      have hf1 := hw1.mine.free (off + j * 3 + 1)
      rw [← Nat.add_assoc] at hu1
      have HW1 := Lib.hid hs1
      clear hs1 hv1 hw1 HW0 hb1
      have hw2 := HW1.out
      have hv2 : ((marksR Par.mark 3 k n).flatMap Par.cs)[j * 3 + 2]? = some (.int .i64 (((k + j * 3 + 1 + 1 : Nat) : Int))) := by rw [flat_at Par.len _ j 2 hjm (by omega), HA.out]; rfl
      rw [show ((k + j * 3 + 1 + 1 : Nat) : Int) = (k : Int) + (j : Int) * 3 + 1 + 1 by omega] at hv2
      have hs2 := hw2.put (p := off + j * 3 + 2) (q := j * 3 + 3) (by omega) hv2 (by omega) (by omega)
      obtain ⟨u2, hu2⟩ := hw2.mine.all (j * 3 + 2) (by omega)
      have hf2 := hw2.mine.free (off + j * 3 + 2)
      rw [← Nat.add_assoc] at hu2
      have HW2 := Lib.hid hs2
      clear hs2 hv2 hw2 HW1 
      have HE := Lib.hid (show Wrote w b off (n * 3) ((marksR Par.mark 3 k n).flatMap Par.cs) ((j + 1) * 3) _ from by have := HW2.out; rw [show j * 3 + 3 = (j + 1) * 3 by omega] at this; exact this)
      clear HW2
      go_wp2
      go_roundw
      case rel => exact ⟨j + 1, by omega, by go_num, by go_num, HE.out⟩
      case measure => simp [intOf]; omega
    · obtain rfl : j = n := by omega
      have HW := Lib.hid hw
      clear hw
      go_wp2
      go_ret
      exact ⟨rfl, HW.out⟩

set_option maxHeartbeats 2000000 in
set_option maxRecDepth 100000 in
theorem heldPartS_any {w : World} {a : Option Addr} {n : Nat} (cap k : Nat) (h : Recs Par.cs w a (marksR Par.mark 3 k n)) (h0 : 0 < k) (hl : k + n * 3 ≤ 10000000) :
    Calls Try.prog 31 #[.slice a n cap, .int .i64 k] w fun e w' => e = .returned (.int .i64 ((k + n * 3 : Nat) : Int)) ∧ Below w.heap.size w w' := by
  have H := Lib.hid h
  clear h
  go_enter Try.func31, Try.ntmps31
  go_wp2
  go_loopw [1, 5] (fun t i w' => ∃ j : Nat, j ≤ n ∧ i = .int .i64 j ∧ t = .int .i64 ((k + j * 3 : Nat) : Int) ∧ Below w.heap.size w w') (fun _ i _ => n - (intOf i).toNat)
  case atStart => exact ⟨0, Nat.zero_le _, rfl, by simp, Below.refl _ _⟩
  case round =>
    obtain ⟨j, hj, rfl, rfl, hb⟩ := hrel
    have HB := Lib.hid hb
    clear hb
    by_cases hlt : j < n
    · obtain ⟨b, off, rfl, _, g0, g1, g2⟩ := Par.at (H.out.below HB.out) j (by rw [marksR_length]; exact hlt)
      rw [marksR_at Par.mark 3 k n j hlt] at g0 g1 g2
      have hc0 : wr.cell? ⟨b, off + j * 3, none⟩ = some (.string (markB (k + j * 3))) := g0
      have hc1 : wr.cell? ⟨b, off + j * 3 + 1, none⟩ = some (.string (markB (k + j * 3 + 1))) := g1
      have hc2 : wr.cell? ⟨b, off + j * 3 + 2, none⟩ = some (.int .i64 (((k + j * 3 + 1 + 1 : Nat) : Int))) := g2
      clear g0 g1 g2
      have e0_0 := Grow.cell hc0
      have e0_1 := Grow.cell hc1
      have e0_2 := Grow.cell hc2
      go_wp2
      refine wp_region_grow (by kernel_rfl) (by kernel_rfl) ?_
      repeat (go_big_quiet_step ((go_at_call 25; exact grow_call rfl (markText_any (k + j * 3) (by omega) (by omega) _))))
      refine wpQuiet_nil ?_
      intro _ hw0
      obtain ⟨gr0, rfl⟩ := hw0
      have HB0 := Lib.hid (below_trans HB.out gr0.ok)
      have d1_1 := e0_1 gr0
      have d1_2 := e0_2 gr0
      clear e0_0 e0_1 e0_2
      have e1_1 := Grow.cell d1_1
      have e1_2 := Grow.cell d1_2
      go_wp2
      refine wp_region_grow (by kernel_rfl) (by kernel_rfl) ?_
      repeat (go_big_quiet_step ((go_at_call 25; exact grow_call rfl (markText_any (k + j * 3 + 1) (by omega) (by omega) _))))
      refine wpQuiet_nil ?_
      intro _ hw1
      obtain ⟨gr1, rfl⟩ := hw1
      have HB1 := Lib.hid (below_trans HB0.out gr1.ok)
      have d2_2 := e1_2 gr1
      clear e1_1 e1_2
      go_wp2
      go_roundw
      case rel => exact ⟨j + 1, by omega, by go_num, by go_num, HB1.out⟩
      case measure => simp [intOf]; omega
    · obtain rfl : j = n := by omega
      go_wp2
      go_ret
      exact ⟨rfl, HB.out⟩

set_option maxHeartbeats 1000000 in
set_option maxRecDepth 100000 in
theorem markPartS_none {w : World} (a : Option Addr) (cap k : Nat) : Calls Try.prog 27 #[.slice a 0 cap, .int .i64 k] w fun e w' => e = .returned (.int .i64 (k : Int)) ∧ w = w' := by
  go_enter Try.func27, Try.ntmps27
  go_wp2
  go_loop [1, 5] (fun t i => t = .int .i64 k ∧ i = .int .i64 0) (fun _ _ => 0)
  case atStart => exact ⟨rfl, rfl⟩
  case round =>
    obtain ⟨rfl, rfl⟩ := hrel
    go_wp2
    go_ret
    exact ⟨rfl, rfl⟩

/-- What marks leave of a list of the call's own. -/
def MarkPart (w : World) (B : Nat) (a : Option Addr) (k n : Nat) (e : Ending) (w' : World) : Prop := e = .returned (.int .i64 ((k + n * 3 : Nat) : Int)) ∧ Recs Par.cs w' a (marksR Par.mark 3 k n) ∧ Below B w w'

theorem markPart_own {w : World} {B : Nat} {a : Option Addr} {xs : List Par} (cap k : Nat) (h : OwnR Par.cs 3 w B a xs) (h0 : 0 < k) (hl : k + xs.length * 3 ≤ 10000000) :
    Calls Try.prog 27 #[.slice a xs.length cap, .int .i64 k] w (MarkPart w B a k xs.length) := by
  rcases h.2 with rfl | ⟨b, rfl, h1, h2, hm⟩
  · refine (markPartS_none a cap k).mono ?_
    rintro e w' ⟨rfl, rfl⟩
    exact ⟨by simp, Lies.nil _ _, Below.refl _ _⟩
  · refine (markPartS_any cap k hm h2 h0 hl).mono ?_
    rintro e w' ⟨rfl, hw⟩
    refine ⟨rfl, hw.lies (by rw [flat_length Par.len, marksR_length]; exact Nat.le_refl _), ?_⟩
    exact ⟨hw.grown.os, hw.grown.tape, hw.grown.output, hw.grown.size, fun i hi => hw.grown.block i (by omega) (by intro e; injection e with e; omega)⟩

theorem markFst_Part {w : World} {b n : Nat} (cap : Nat) (h : Mine w b 0 (n * 3)) (hb : b < w.heap.size) (hl : n ≤ 1048576) :
    Calls Try.prog 27 #[.slice (some ⟨b, 0, none⟩) n cap, .int .i64 1] w fun e w' => e = .returned (.int .i64 (markTo 3 n)) ∧ w.grownBy w' (some b) :=
  (markPartS_any cap 1 h hb (by omega) (by omega)).mono fun _ _ ⟨he, hw⟩ => ⟨he, hw.grown⟩

theorem markOwn_Part {w : World} {B : Nat} {a : Option Addr} {xs : List Par} (cap : Nat) (h : OwnR Par.cs 3 w B a xs) (hl : xs.length ≤ 1048576) :
    Calls Try.prog 27 #[.slice a xs.length cap, .int .i64 1] w fun e w' => e = .returned (.int .i64 (markTo 3 xs.length)) ∧ Recs Par.cs w' a (marksR Par.mark 3 1 xs.length) ∧ Below B w w' :=
  markPart_own cap 1 h (by omega) (by omega)

theorem heldOwn_Part {w : World} {a : Option Addr} {n : Nat} (cap : Nat) (h : Recs Par.cs w a (marksR Par.mark 3 1 n)) (hl : n ≤ 1048576) :
    Calls Try.prog 31 #[.slice a n cap, .int .i64 1] w fun e w' => e = .returned (.int .i64 (markTo 3 n)) ∧ Below w.heap.size w w' :=
  heldPartS_any cap 1 h (by omega) (by omega)

end Go.Proofs.Ytbgklakhelcgcaa
