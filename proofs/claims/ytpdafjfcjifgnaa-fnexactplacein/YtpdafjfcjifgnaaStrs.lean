/-
  Lists of strings in the laws' own helpers: 'szStringS' counts, 'toStringS' copies into new memory, 'eqStringS' compares.
-/
import Derived.Test.YtpdafjfcjifgnaaStrAt
namespace Go.Proofs.Ytpdafjfcjifgnaa
open Go.ChangeShapes Go.WideShapes Go.ChangeAt Go.RowKit

/-- All bytes of the first k, together. -/
def totS (ss : List ByteArray) (k : Nat) : Nat := ((ss.take k).map ByteArray.size).sum
theorem totS_zero (ss : List ByteArray) : totS ss 0 = 0 := by simp [totS]
theorem totS_succ {ss : List ByteArray} {k : Nat} (h : k < ss.length) : totS ss (k + 1) = totS ss k + ss[k].size := by
  unfold totS
  rw [List.take_succ_eq_append_getElem h, List.map_append, List.sum_append]
  simp only [List.map_cons, List.map_nil, List.sum_cons, List.sum_nil, Nat.add_zero]
theorem totS_mono (ss : List ByteArray) {j k : Nat} (h : j ≤ k) : totS ss j ≤ totS ss k := by
  induction k with
  | zero => have : j = 0 := by omega
            subst this; exact Nat.le_refl _
  | succ k ih =>
    by_cases e : j = k + 1
    · subst e; exact Nat.le_refl _
    · have h1 := ih (by omega)
      by_cases hk : k < ss.length
      · rw [totS_succ hk]; omega
      · have : totS ss (k + 1) = totS ss k := by unfold totS; rw [List.take_of_length_le (by omega), List.take_of_length_le (by omega)]
        omega
theorem size_le_totS {ss : List ByteArray} {k : Nat} (h : k < ss.length) : ss[k].size ≤ totS ss ss.length := by
  have h1 := totS_succ h
  have h2 := totS_mono ss (show k + 1 ≤ ss.length by omega)
  omega

/-- What is left of so many: -1 where they are too many. -/
def szV (ss : List ByteArray) (left : Int) : Int := if (ss.length : Int) + totS ss ss.length ≤ left then left - ss.length - totS ss ss.length else -1
theorem szV_no {ss : List ByteArray} {left : Int} {k : Nat} (hk : k ≤ ss.length) (h : left < ss.length + totS ss k) : szV ss left = -1 := by
  have := totS_mono ss hk
  unfold szV; rw [if_neg (by omega)]
theorem szV_yes {ss : List ByteArray} {left : Int} (h : (ss.length : Int) + totS ss ss.length ≤ left) : szV ss left = left - ss.length - totS ss ss.length := by
  unfold szV; rw [if_pos h]

set_option maxHeartbeats 1000000 in
theorem szStringS_any {w : World} {a : Option Addr} {ss : List ByteArray} (cap : Nat) (left : Int) (h : Strs w a ss) (hl : (ss.length : Int) ≤ 9223372036854775807) (hs : ∀ s ∈ ss, s.size ≤ 9223372036854775807) (h0 : 0 ≤ left) (h1 : left ≤ 1048576) :
    Calls Try.prog 17 #[.slice a ss.length cap, .int .i64 left] w fun e w' => e = .returned (.int .i64 (szV ss left)) ∧ w = w' := by
  have H := Lib.hid h
  have HS := Lib.hid hs
  clear h hs
  by_cases hz : left < ss.length
  · have hn := Lib.hid (szV_no (ss := ss) (left := left) (k := 0) (Nat.zero_le _) (by omega))
    have hd : left - (ss.length : Int) < 0 := by omega
    go_enter Try.func17, Try.ntmps17
    go_wp2
    go_ret
    exact ⟨by rw [hn.out]; rfl, rfl⟩
  · have hd : ¬ left - (ss.length : Int) < 0 := by omega
    go_enter Try.func17, Try.ntmps17
    go_wp2
    go_loop [1, 5] (fun t i => ∃ k : Nat, k ≤ ss.length ∧ i = .int .i64 k ∧ t = .int .i64 (left - ss.length - totS ss k) ∧ (totS ss k : Int) ≤ left - ss.length) (fun _ i => ss.length - (intOf i).toNat)
    case atStart => exact ⟨0, Nat.zero_le _, rfl, by rw [totS_zero]; go_num, by rw [totS_zero]; omega⟩
    case round =>
      obtain ⟨k, hk, rfl, rfl, ht⟩ := hrel
      by_cases hlt : k < ss.length
      · obtain ⟨b, off, rfl, _, hc⟩ := H.out.at k hlt
        have hsz := HS.out ss[k] (List.getElem_mem hlt)
        have hsu := Lib.hid (totS_succ hlt)
        by_cases hz : left - ss.length - totS ss k < ss[k].size
        · have hn := Lib.hid (szV_no (ss := ss) (left := left) (k := k + 1) (by omega) (by rw [hsu.out]; omega))
          have hd : left - (ss.length : Int) - (totS ss k : Int) - (ss[k].size : Int) < 0 := by omega
          go_wp2
          go_ret
          exact ⟨by rw [hn.out]; rfl, rfl⟩
        · have hd : ¬ left - (ss.length : Int) - (totS ss k : Int) - (ss[k].size : Int) < 0 := by omega
          go_wp2
          go_round
          case rel => exact ⟨k + 1, by omega, by go_num, by rw [hsu.out]; go_num, by rw [hsu.out]; omega⟩
          case measure => simp [intOf]; omega
      · obtain rfl : k = ss.length := by omega
        have hn := Lib.hid (szV_yes (ss := ss) (left := left) (by omega))
        go_wp2
        go_ret
        exact ⟨by rw [hn.out]; rfl, rfl⟩

theorem szV_small {ss : List ByteArray} (h : ¬ szV ss 1048576 < 0) : ss.length ≤ 1048576 ∧ ∀ s ∈ ss, s.size ≤ 1048576 := by
  unfold szV at h
  split at h
  · rename_i hle
    refine ⟨by omega, fun s hs => ?_⟩
    obtain ⟨k, hk, rfl⟩ := List.getElem_of_mem hs
    have := size_le_totS hk
    omega
  · omega

/-- What 'toStringS' leaves: the same strings, in the block behind all that was there. -/
def ToStrs (ss : List ByteArray) (w : World) (e : Ending) (w' : World) : Prop :=
  e = .returned (.slice (some ⟨w.heap.size, 0, none⟩) ss.length ss.length) ∧ Strs w' (some ⟨w.heap.size, 0, none⟩) ss ∧ Below w.heap.size w w'

theorem info_string : (Try.prog.info? 9).map (fun i => (i.zero, i.size, i.bytes)) = some (some (.string ByteArray.empty), 1, 16) := by kernel_rfl

set_option maxHeartbeats 1000000 in
theorem toStringS_any {w : World} {a : Option Addr} {ss : List ByteArray} (cap : Nat) (h : Strs w a ss) (hl : ss.length ≤ 1048576) :
    Calls Try.prog 18 #[.slice a ss.length cap] w (ToStrs ss w) := by
  have H := Lib.hid h
  clear h
  have hmk := run_make_row' (P := Try.prog) 24 9 (.string ByteArray.empty) 16 Try.underlying24 info_string rfl .i64 .i64 ss.length (by omega) (by omega)
  go_enter Try.func18, Try.ntmps18
  go_wp2
  clear hmk
  go_loopw [4] (fun i w' => ∃ k : Nat, k ≤ ss.length ∧ i = .int .i64 k ∧ Room w ss.length (ss.map .string) k w') (fun i _ => ss.length - (intOf i).toNat)
  case atStart => exact ⟨0, Nat.zero_le _, rfl, Room.new _ _ _ _ _⟩
  case round =>
    obtain ⟨k, hk, rfl, hr⟩ := hrel
    by_cases hlt : k < ss.length
    · obtain ⟨b, off, rfl, hb, hc0⟩ := H.out.at k hlt
      have hc := (hr.low.cell (p := ⟨b, off + k, none⟩) hb).trans hc0
      obtain ⟨u, hu⟩ := hr.all k hlt
      have hf := hr.free k
      have HR := Lib.hid (hr.set (v := .string ss[k]) hlt (by simp [hlt]))
      clear hr hc0
      go_wp2
      go_roundw
      case rel => exact ⟨k + 1, by omega, by go_num, HR.out⟩
      case measure => simp [intOf]; omega
    · obtain rfl : k = ss.length := by omega
      have HR := Lib.hid hr
      clear hr
      go_wp2
      go_ret
      exact ⟨rfl, HR.out.lies (by simp), HR.out.low⟩

theorem beq_refl_bytes (s : ByteArray) : (s.toList == s.toList) = true := by simp

set_option maxHeartbeats 1000000 in
/-- Both lists hold the same strings: it says so. -/
theorem eqStringS_same {w : World} {a a' : Option Addr} {ss : List ByteArray} (cap cap' : Nat) (h : Strs w a ss) (h' : Strs w a' ss) (hl : ss.length ≤ 1048576) :
    Calls Try.prog 19 #[.slice a ss.length cap, .slice a' ss.length cap'] w fun e w' => e = .returned (.bool true) ∧ ∃ n, w' = w.drewN n := by
  have H := Lib.hid h
  have H' := Lib.hid h'
  clear h h'
  go_enter Try.func19, Try.ntmps19
  go_wp2
  go_loopw [5] (fun i w' => ∃ (k n : Nat), k ≤ ss.length ∧ i = .int .i64 k ∧ w' = w.drewN n) (fun i _ => ss.length - (intOf i).toNat)
  case atStart => exact ⟨0, 0, Nat.zero_le _, rfl, rfl⟩
  case round =>
    obtain ⟨k, n, hk, rfl, rfl⟩ := hrel
    by_cases hlt : k < ss.length
    · obtain ⟨b, off, rfl, _, hc⟩ := H.out.at k hlt
      obtain ⟨b', off', rfl, _, hc'⟩ := H'.out.at k hlt
      go_wp2
      go_quiet (fail)
      go_wp2
      go_roundw
      case rel => exact ⟨k + 1, _, by omega, by go_num, rfl⟩
      case measure => simp [intOf]; omega
    · go_wp2
      go_ret
      exact ⟨rfl, n, rfl⟩
end Go.Proofs.Ytpdafjfcjifgnaa
