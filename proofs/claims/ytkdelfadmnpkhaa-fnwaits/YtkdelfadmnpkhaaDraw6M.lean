/-
  'likeWaits', where both lists hold the same; sizes of what comes out of chapter 6's functions.
-/
import Derived.Test.YtkdelfadmnpkhaaDraw6L
import Derived.Test.YtkdelfadmnpkhaaFacts6
import Derived.Deep.QuietTactic
import Derived.BigQuiet
namespace Go.Proofs.Ytkdelfadmnpkhaa
open Go.ChangeShapes Go.WideShapes Go.ChangeAt Go.RowKit

set_option maxHeartbeats 1000000 in
set_option maxRecDepth 100000 in
/-- Both lists hold the same: it says so. -/
theorem likeWaits_same {w : World} {a a' : Option Addr} {ps : List Wai} (cap cap' : Nat) (h : Recs Wai.cs w a ps) (h' : Recs Wai.cs w a' ps) (hl : ps.length ≤ 1048576) :
    Calls Try.prog 19 #[.slice a ps.length cap, .slice a' ps.length cap'] w fun e w' => e = .returned (.bool true) ∧ Below w.heap.size w w' := by
  have H := Lib.hid h
  have H' := Lib.hid h'
  clear h h'
  go_enter Try.func19, Try.ntmps19
  go_wp2
  go_loopw [5] (fun i w' => ∃ (k n : Nat), k ≤ ps.length ∧ i = .int .i64 k ∧ w' = w.drewN n) (fun i _ => ps.length - (intOf i).toNat)
  case atStart => exact ⟨0, 0, Nat.zero_le _, rfl, rfl⟩
  case round =>
    obtain ⟨k, n, hk, rfl, rfl⟩ := hrel
    by_cases hlt : k < ps.length
    · obtain ⟨b, off, rfl, _, hc, hc1, hc2, hc3⟩ := Wai.at H.out k hlt
      obtain ⟨b', off', rfl, _, hc', hc1', hc2', hc3'⟩ := Wai.at H'.out k hlt
      go_wp2
      go_quiet (fail)
      go_wp2
      go_roundw
      case rel => exact ⟨k + 1, _, by omega, by go_num, rfl⟩
      case measure => simp [intOf]; omega
    · go_wp2
      go_ret
      exact ⟨rfl, below_draws (Below.refl _ _) n⟩

theorem waitingL_sized {ps : List Wai} (h : ∀ p ∈ ps, WShort p) {q : Wai} (hq : WShort q) : WSized (waitingL ps q) := wshort_sized (waitingL_short h hq)
theorem wsub_sized {ps qs : List Wai} (h : WSized ps) (hs : ∀ p ∈ qs, p ∈ ps) : WSized qs := wsized_mem.2 fun p hp => wsized_mem.1 h p (hs p hp)
theorem laterV_sized {ps : List Wai} (h : WSized ps) (season : Int) : WSized (laterV ps season) := wsub_sized h (by
  intro p hp; unfold laterV at hp; split at hp
  · exact (List.filter_sublist).subset hp
  · simp at hp)
theorem ripeV_sized {ps : List Wai} (h : WSized ps) (season : Int) : WSized (ripeV ps season) := wsub_sized h (by
  intro p hp; unfold ripeV at hp; split at hp
  · exact (List.filter_sublist).subset hp
  · simp at hp)
theorem finedL_sized {ps : List Wai} (h : WSized ps) (mill : ByteArray) (pc : Int) : WSized (finedL ps mill pc) := wsized_mem.2 fun p hp => by
  unfold finedL at hp; split at hp
  · unfold finOf at hp
    rw [List.mem_filter, List.mem_map] at hp
    obtain ⟨⟨q, hq, rfl⟩, -⟩ := hp
    exact wsized_mem.1 h q hq
  · simp at hp
end Go.Proofs.Ytkdelfadmnpkhaa
