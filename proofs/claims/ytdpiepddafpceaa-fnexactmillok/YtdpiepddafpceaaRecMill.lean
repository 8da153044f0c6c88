/-
  Mill: its records in memory, and what the laws' own helpers do with them. (Written by wip/tools/rec.py.)
-/
import Derived.Test.YtdpiepddafpceaaRecs
import Derived.Test.YtdpiepddafpceaaMark
import Derived.Test.YtdpiepddafpceaaGrow
import Derived.StillTailTactics
import Derived.Deep.RegionHeld3
namespace Go.Proofs.Ytdpiepddafpceaa
open Go.ChangeShapes Go.WideShapes Go.ChangeAt Go.RowKit

/-- A Mill. -/
structure Mil where
  name : ByteArray
  stake : Int
  shares : Int
  cut : Int
  shut : Bool
def Mil.cs (x : Mil) : List Value := [.string x.name, .int .i64 x.stake, .int .i64 x.shares, .int .i64 x.cut, .bool x.shut]
theorem Mil.len (x : Mil) : x.cs.length = 5 := rfl
theorem Mil.one (x : Mil) : ∀ v ∈ x.cs, v.oneCell' = true := by
  intro v hv
  simp only [Mil.cs, List.mem_cons, List.not_mem_nil, or_false] at hv
  rcases hv with rfl | rfl | rfl | rfl | rfl <;> rfl
/-- The bytes of its strings. -/
def Mil.bytes (x : Mil) : Nat := x.name.size
theorem Mil.at {w : World} {a : Option Addr} {xs : List Mil} (h : Recs Mil.cs w a xs) (k : Nat) (hk : k < xs.length) :
    ∃ b off, a = some ⟨b, off, none⟩ ∧ b < w.heap.size ∧ w.cell? ⟨b, off + k * 5, none⟩ = some (.string xs[k].name) ∧ w.cell? ⟨b, off + k * 5 + 1, none⟩ = some (.int .i64 xs[k].stake) ∧ w.cell? ⟨b, off + k * 5 + 2, none⟩ = some (.int .i64 xs[k].shares) ∧ w.cell? ⟨b, off + k * 5 + 3, none⟩ = some (.int .i64 xs[k].cut) ∧ w.cell? ⟨b, off + k * 5 + 4, none⟩ = some (.bool xs[k].shut) := by
  obtain ⟨b, off, e, hb, hc⟩ := h.cell Mil.len (by omega) k hk
  exact ⟨b, off, e, hb, hc 0 _ rfl, hc 1 _ rfl, hc 2 _ rfl, hc 3 _ rfl, hc 4 _ rfl⟩

theorem info_Mill : (Try.prog.info? 25).map (fun i => (i.zero, i.size, i.bytes)) = some (some (.agg #[.string ByteArray.empty, .int .i64 0, .int .i64 0, .int .i64 0, .bool false]), 5, 48) := by kernel_rfl

theorem size_Mill : (Try.prog.info? 25).map (·.size) = some 5 := by kernel_rfl

/-- What is left behind one: -1 where it is too much. -/
def Mil.left (x : Mil) (left : Int) : Int := if (x.bytes : Int) ≤ left then left - x.bytes else -1

set_option maxHeartbeats 1000000 in
theorem szMill_any (v0 : ByteArray) (v1 : Int) (v2 : Int) (v3 : Int) (v4 : Bool) (left : Int) (w : World) (h0 : v0.size ≤ 9223372036854775807) (ha : 0 ≤ left) (hb : left ≤ 1048576) :
    Calls Try.prog 31 #[.agg #[.string v0, .int .i64 v1, .int .i64 v2, .int .i64 v3, .bool v4], .int .i64 left] w fun e w' => e = .returned (.int .i64 (Mil.left ⟨v0, v1, v2, v3, v4⟩ left)) ∧ Below w.heap.size w w' := by
  by_cases q0 : left < v0.size
  · have HN := Lib.hid (show Mil.left ⟨v0, v1, v2, v3, v4⟩ left = -1 by have hby : (⟨v0, v1, v2, v3, v4⟩ : Mil).bytes = v0.size := rfl; unfold Mil.left; rw [if_neg (by omega)])
    have hd : left - (v0.size : Int) < 0 := by omega
    go_enter Try.func31, Try.ntmps31
    go_wp2
    go_ret
    exact ⟨by rw [HN.out]; rfl, below_new _ _⟩
  have hd0 : ¬ left - (v0.size : Int) < 0 := by omega
  have HN := Lib.hid (show Mil.left ⟨v0, v1, v2, v3, v4⟩ left = left - (v0.size : Int) by have hby : (⟨v0, v1, v2, v3, v4⟩ : Mil).bytes = v0.size := rfl; unfold Mil.left; rw [if_pos (by omega)]; omega)
  go_enter Try.func31, Try.ntmps31
  go_wp2
  go_ret
  exact ⟨by rw [HN.out]; rfl, below_new _ _⟩

set_option maxHeartbeats 1000000 in
theorem szMillS_any {w : World} {a : Option Addr} {xs : List Mil} (cap : Nat) (left : Int) (h : Recs Mil.cs w a xs) (hl : (xs.length : Int) ≤ 9223372036854775807) (hs : ∀ x ∈ xs, x.bytes ≤ 9223372036854775807) (h0 : 0 ≤ left) (h1 : left ≤ 1048576) :
    Calls Try.prog 33 #[.slice a xs.length cap, .int .i64 left] w fun e w' => e = .returned (.int .i64 (szR Mil.bytes xs left)) ∧ Below w.heap.size w w' := by
  have H := Lib.hid h
  have HS := Lib.hid hs
  clear h hs
  by_cases hz : left < xs.length
  · have hn := Lib.hid (szR_no (z := Mil.bytes) (xs := xs) (left := left) (k := 0) (Nat.zero_le _) (by omega))
    have hd : left - (xs.length : Int) < 0 := by omega
    go_enter Try.func33, Try.ntmps33
    go_wp2
    go_ret
    exact ⟨by rw [hn.out]; rfl, Below.refl _ _⟩
  · have hd : ¬ left - (xs.length : Int) < 0 := by omega
    go_enter Try.func33, Try.ntmps33
    go_wp2
    go_loopw [1, 5] (fun t i w' => ∃ k : Nat, k ≤ xs.length ∧ i = .int .i64 k ∧ t = .int .i64 (left - xs.length - totR Mil.bytes xs k) ∧ (totR Mil.bytes xs k : Int) ≤ left - xs.length ∧ Below w.heap.size w w') (fun _ i _ => xs.length - (intOf i).toNat)
    case atStart => exact ⟨0, Nat.zero_le _, rfl, by rw [totR_zero]; go_num, by rw [totR_zero]; omega, Below.refl _ _⟩
    case round =>
      obtain ⟨k, hk, rfl, rfl, ht, hb⟩ := hrel
      have HB := Lib.hid hb
      clear hb
      by_cases hlt : k < xs.length
      · obtain ⟨b, off, rfl, _, hc0, hc1, hc2, hc3, hc4⟩ := Mil.at (H.out.below HB.out) k hlt
        have hsz := HS.out xs[k] (List.getElem_mem hlt)
        have HZ := Lib.hid (show xs[k].bytes = xs[k].name.size from rfl)
        have hz0 : xs[k].name.size ≤ 9223372036854775807 := by have := HZ.out; omega
        have hsu := Lib.hid (totR_succ (z := Mil.bytes) hlt)
        have HLE : Hid (Mil.left xs[k] (left - xs.length - totR Mil.bytes xs k) = if (xs[k].bytes : Int) ≤ left - xs.length - totR Mil.bytes xs k then left - xs.length - totR Mil.bytes xs k - xs[k].bytes else -1) := rfl
        by_cases hz : left - xs.length - totR Mil.bytes xs k < xs[k].bytes
        · have hn := Lib.hid (szR_no (z := Mil.bytes) (xs := xs) (left := left) (k := k + 1) (by omega) (by rw [hsu.out]; omega))
          have HL2 := Lib.hid (HLE.out.trans (if_neg (by omega)))
          clear HLE
          go_wp2_with fail
          refine (szMill_any _ _ _ _ _ _ _ hz0 (by omega) (by omega)).mono ?_
          rintro e w2 ⟨rfl, hb2⟩
          have HB2 := Lib.hid (below_trans HB.out hb2)
          clear hb2
          rw [show Mil.left ⟨xs[k].name, xs[k].stake, xs[k].shares, xs[k].cut, xs[k].shut⟩ (left - xs.length - totR Mil.bytes xs k) = -1 from HL2.out]
          go_wp2
          go_ret
          exact ⟨by rw [hn.out]; rfl, HB2.out⟩
        · have HL2 := Lib.hid (HLE.out.trans (if_pos (by omega)))
          clear HLE
          have hd : ¬ left - (xs.length : Int) - (totR Mil.bytes xs k : Int) - (xs[k].bytes : Int) < 0 := by omega
          go_wp2_with fail
          refine (szMill_any _ _ _ _ _ _ _ hz0 (by omega) (by omega)).mono ?_
          rintro e w2 ⟨rfl, hb2⟩
          have HB2 := Lib.hid (below_trans HB.out hb2)
          clear hb2
          rw [show Mil.left ⟨xs[k].name, xs[k].stake, xs[k].shares, xs[k].cut, xs[k].shut⟩ (left - xs.length - totR Mil.bytes xs k) = left - xs.length - totR Mil.bytes xs k - xs[k].bytes from HL2.out]
          go_wp2
          go_roundw
          case rel => exact ⟨k + 1, by omega, by go_num, by rw [hsu.out]; go_num, by rw [hsu.out]; omega, HB2.out⟩
          case measure => simp [intOf]; omega
      · obtain rfl : k = xs.length := by omega
        have hn := Lib.hid (szR_yes (z := Mil.bytes) (xs := xs) (left := left) (by omega))
        go_wp2
        go_ret
        exact ⟨by rw [hn.out]; rfl, HB.out⟩

set_option maxHeartbeats 1000000 in
theorem toMill_any (v0 : ByteArray) (v1 : Int) (v2 : Int) (v3 : Int) (v4 : Bool) (w : World) :
    Calls Try.prog 32 #[.agg #[.string v0, .int .i64 v1, .int .i64 v2, .int .i64 v3, .bool v4]] w fun e w' => e = .returned (.agg #[.string v0, .int .i64 v1, .int .i64 v2, .int .i64 v3, .bool v4]) ∧ Below w.heap.size w w' := by
  go_enter Try.func32, Try.ntmps32
  go_wp2
  refine bodyPost_ret (v := .agg #[.string v0, .int .i64 v1, .int .i64 v2, .int .i64 v3, .bool v4]) (by simp [results, Try.results32, go_sem]) rfl ⟨rfl, ?_⟩
  exact (((Below.refl _ _).alloc (Nat.le_refl _) _).alloc (by simp) _).alloc (by simp; omega) _

/-- What 'toMillS' leaves: the same records, in the block behind all that was there. -/
def ToMill (xs : List Mil) (w : World) (e : Ending) (w' : World) : Prop :=
  e = .returned (.slice (some ⟨w.heap.size, 0, none⟩) xs.length xs.length) ∧ Recs Mil.cs w' (some ⟨w.heap.size, 0, none⟩) xs ∧ Below w.heap.size w w' ∧ Mine w' w.heap.size 0 (xs.length * 5) ∧ w.heap.size < w'.heap.size

theorem room_Mill {w w' : World} {n k : Nat} {xs : List Mil} (h : Room w n (xs.flatMap Mil.cs) (k * 5) w') (hk : k < xs.length) (hn : n = xs.length * 5) :
    Room w n (xs.flatMap Mil.cs) ((k + 1) * 5) (((((w'.setCell ⟨w.heap.size, k * 5, none⟩ (.string xs[k].name)).setCell ⟨w.heap.size, k * 5 + 1, none⟩ (.int .i64 xs[k].stake)).setCell ⟨w.heap.size, k * 5 + 2, none⟩ (.int .i64 xs[k].shares)).setCell ⟨w.heap.size, k * 5 + 3, none⟩ (.int .i64 xs[k].cut)).setCell ⟨w.heap.size, k * 5 + 4, none⟩ (.bool xs[k].shut)) := by
  rw [show (k + 1) * 5 = k * 5 + 1 + 1 + 1 + 1 + 1 by omega]
  exact (((((h.set (by omega) ((flat_at Mil.len xs k 0 hk (by omega)).trans rfl)).set (by omega) ((flat_at Mil.len xs k 1 hk (by omega)).trans rfl)).set (by omega) ((flat_at Mil.len xs k 2 hk (by omega)).trans rfl)).set (by omega) ((flat_at Mil.len xs k 3 hk (by omega)).trans rfl)).set (by omega) ((flat_at Mil.len xs k 4 hk (by omega)).trans rfl))

set_option maxHeartbeats 1000000 in
theorem toMillS_any {w : World} {a : Option Addr} {xs : List Mil} (cap : Nat) (h : Recs Mil.cs w a xs) (hl : xs.length ≤ 1048576) :
    Calls Try.prog 34 #[.slice a xs.length cap] w (ToMill xs w) := by
  have H := Lib.hid h
  clear h
  have hmk := run_make_many (P := Try.prog) 33 25 (.agg #[.string ByteArray.empty, .int .i64 0, .int .i64 0, .int .i64 0, .bool false]) 5 48 Try.underlying33 info_Mill .i64 .i64 xs.length (by omega) (by omega)
  go_enter Try.func34, Try.ntmps34
  go_wp2
  clear hmk
  go_loopw [4] (fun i w' => ∃ k : Nat, k ≤ xs.length ∧ i = .int .i64 k ∧ Room w (xs.length * 5) (xs.flatMap Mil.cs) (k * 5) w') (fun i _ => xs.length - (intOf i).toNat)
  case atStart => exact ⟨0, Nat.zero_le _, rfl, Room.made _ _ _ _ _⟩
  case round =>
    obtain ⟨k, hk, rfl, hr⟩ := hrel
    by_cases hlt : k < xs.length
    · obtain ⟨b, off, rfl, hb, g0, g1, g2, g3, g4⟩ := Mil.at H.out k hlt
      have hc0 := (hr.low.cell (p := ⟨b, off + k * 5, none⟩) hb).trans g0
      have hc1 := (hr.low.cell (p := ⟨b, off + k * 5 + 1, none⟩) hb).trans g1
      have hc2 := (hr.low.cell (p := ⟨b, off + k * 5 + 2, none⟩) hb).trans g2
      have hc3 := (hr.low.cell (p := ⟨b, off + k * 5 + 3, none⟩) hb).trans g3
      have hc4 := (hr.low.cell (p := ⟨b, off + k * 5 + 4, none⟩) hb).trans g4
      have HR := Lib.hid hr
      clear hr g0 g1 g2 g3 g4
      go_wp2_with fail
      refine (toMill_any _ _ _ _ _ _).mono ?_
      rintro e w2 ⟨rfl, hb2⟩
      have hr2 := HR.out.below hb2
      obtain ⟨u0, hu0⟩ := hr2.all (k * 5) (by omega)
      have hf0 := hr2.free (k * 5)
      obtain ⟨u1, hu1⟩ := hr2.all (k * 5 + 1) (by omega)
      have hf1 := hr2.free (k * 5 + 1)
      obtain ⟨u2, hu2⟩ := hr2.all (k * 5 + 2) (by omega)
      have hf2 := hr2.free (k * 5 + 2)
      obtain ⟨u3, hu3⟩ := hr2.all (k * 5 + 3) (by omega)
      have hf3 := hr2.free (k * 5 + 3)
      obtain ⟨u4, hu4⟩ := hr2.all (k * 5 + 4) (by omega)
      have hf4 := hr2.free (k * 5 + 4)
      have HR2 := Lib.hid (room_Mill hr2 hlt rfl)
      clear hr2 hb2 HR
      go_wp2
      go_roundw
      case rel => exact ⟨k + 1, by omega, by go_num, HR2.out⟩
      case measure => simp [intOf]; omega
    · obtain rfl : k = xs.length := by omega
      have HR := Lib.hid hr
      clear hr
      go_wp2
      go_ret
      have hlies := HR.out.lies (by rw [flat_length Mil.len]; omega)
      exact ⟨rfl, hlies, HR.out.low, mine_lies hlies (flat_length Mil.len xs) HR.out.free, HR.out.has⟩

set_option maxHeartbeats 1000000 in
theorem eqMill_same (v0 : ByteArray) (v1 : Int) (v2 : Int) (v3 : Int) (v4 : Bool) (w : World) :
    Calls Try.prog 36 #[.agg #[.string v0, .int .i64 v1, .int .i64 v2, .int .i64 v3, .bool v4], .agg #[.string v0, .int .i64 v1, .int .i64 v2, .int .i64 v3, .bool v4]] w fun e w' => e = .returned (.bool true) ∧ Below w.heap.size w w' := by
  go_enter Try.func36, Try.ntmps36
  go_wp2
  go_ret
  exact ⟨rfl, ((Below.refl _ _).alloc (Nat.le_refl _) _).alloc (by simp) _⟩

set_option maxHeartbeats 1000000 in
/-- Both lists hold the same records: it says so. -/
theorem eqMillS_same {w : World} {a a' : Option Addr} {xs : List Mil} (cap cap' : Nat) (h : Recs Mil.cs w a xs) (h' : Recs Mil.cs w a' xs) (hl : xs.length ≤ 1048576) :
    Calls Try.prog 35 #[.slice a xs.length cap, .slice a' xs.length cap'] w fun e w' => e = .returned (.bool true) ∧ Below w.heap.size w w' := by
  have H := Lib.hid h
  have H' := Lib.hid h'
  clear h h'
  go_enter Try.func35, Try.ntmps35
  go_wp2
  go_loopw [5] (fun i w' => ∃ (k : Nat), k ≤ xs.length ∧ i = .int .i64 k ∧ Below w.heap.size w w') (fun i _ => xs.length - (intOf i).toNat)
  case atStart => exact ⟨0, Nat.zero_le _, rfl, Below.refl _ _⟩
  case round =>
    obtain ⟨k, hk, rfl, hb⟩ := hrel
    have HB := Lib.hid hb
    clear hb
    by_cases hlt : k < xs.length
    · obtain ⟨b, off, rfl, _, hc0, hc1, hc2, hc3, hc4⟩ := Mil.at (H.out.below HB.out) k hlt
      obtain ⟨b', off', rfl, _, hd0, hd1, hd2, hd3, hd4⟩ := Mil.at (H'.out.below HB.out) k hlt
      go_wp2
      go_still_tail 8, (by kernel_rfl)
      change wpList _ _ _ _ _ wr.drew
      go_wp2_with fail
      refine (eqMill_same _ _ _ _ _ _).mono ?_
      rintro e w2 ⟨rfl, hb2⟩
      have HB2 := Lib.hid (below_trans (show Below w.heap.size w wr.drew from below_draws HB.out 1) hb2)
      clear hb2
      go_wp2
      go_roundw
      case rel => exact ⟨k + 1, by omega, by go_num, HB2.out⟩
      case measure => simp [intOf]; omega
    · go_wp2
      go_ret
      exact ⟨rfl, HB.out⟩

/-- The record of marks from k on. -/
def Mil.mark (k : Nat) : Mil := ⟨markB (k), ((k + 1 : Nat) : Int), ((k + 2 : Nat) : Int), ((k + 3 : Nat) : Int), decide ((k + 4) % 3 = 0)⟩

/-- What marks leave of a list of the call's own. -/
def MarkMill (w : World) (B : Nat) (a : Option Addr) (k n : Nat) (e : Ending) (w' : World) : Prop := e = .returned (.int .i64 ((k + n * 5 : Nat) : Int)) ∧ Recs Mil.cs w' a (marksR Mil.mark 5 k n) ∧ Below B w w'
end Go.Proofs.Ytdpiepddafpceaa
