/-
  The laws' own helpers at purses: 'szPurseS' counts, 'toPurseS' copies into new memory, 'eqPurseS' compares, 'markPurseS' writes marks, 'heldPurseS' reads them.
-/
import Derived.Test.YtbgklakhelcgcaaPurs
import Derived.Test.YtbgklakhelcgcaaStrs
import Derived.Test.YtbgklakhelcgcaaMany
import Derived.Test.YtbgklakhelcgcaaMark
import Derived.StillTailTactics
import Derived.Deep.RegionHeld3
namespace Go.Proofs.Ytbgklakhelcgcaa
open Go.ChangeShapes Go.WideShapes Go.ChangeAt Go.RowKit

theorem pnames_length (ps : List Pur) : (pnames ps).length = ps.length := by simp [pnames]
theorem pnames_get {ps : List Pur} {k : Nat} (h : k < ps.length) : (pnames ps)[k]'(by simpa [pnames] using h) = ps[k].name := by simp [pnames]
theorem totP_succ {ps : List Pur} {k : Nat} (h : k < ps.length) : totS (pnames ps) (k + 1) = totS (pnames ps) k + ps[k].name.size := by
  rw [totS_succ (by simpa [pnames] using h), pnames_get h]

set_option maxHeartbeats 1000000 in
set_option maxRecDepth 100000 in
theorem szPurseS_any {w : World} {a : Option Addr} {ps : List Pur} (cap : Nat) (left : Int) (h : Purs w a ps) (hl : (ps.length : Int) ≤ 9223372036854775807) (hs : ∀ p ∈ ps, p.name.size ≤ 9223372036854775807) (h0 : 0 ≤ left) (h1 : left ≤ 1048576) :
    Calls Try.prog 4 #[.slice a ps.length cap, .int .i64 left] w fun e w' => e = .returned (.int .i64 (szV (pnames ps) left)) ∧ Below w.heap.size w w' := by
  have H := Lib.hid h
  have HS := Lib.hid hs
  have HL := Lib.hid (pnames_length ps)
  clear h hs
  by_cases hz : left < ps.length
  · have hn := Lib.hid (szV_no (ss := pnames ps) (left := left) (k := 0) (Nat.zero_le _) (by rw [HL.out]; omega))
    have hd : left - (ps.length : Int) < 0 := by omega
    go_enter Try.func4, Try.ntmps4
    go_wp2
    go_ret
    exact ⟨by rw [hn.out]; rfl, Below.refl _ _⟩
  · have hd : ¬ left - (ps.length : Int) < 0 := by omega
    go_enter Try.func4, Try.ntmps4
    go_wp2
    go_loopw [1, 5] (fun t i w' => ∃ k : Nat, k ≤ ps.length ∧ i = .int .i64 k ∧ t = .int .i64 (left - ps.length - totS (pnames ps) k) ∧ (totS (pnames ps) k : Int) ≤ left - ps.length ∧ Below w.heap.size w w') (fun _ i _ => ps.length - (intOf i).toNat)
    case atStart => exact ⟨0, Nat.zero_le _, rfl, by rw [totS_zero]; go_num, by rw [totS_zero]; omega, Below.refl _ _⟩
    case round =>
      obtain ⟨k, hk, rfl, rfl, ht, hb⟩ := hrel
      have HB := Lib.hid hb
      clear hb
      by_cases hlt : k < ps.length
      · obtain ⟨b, off, rfl, _, hc, hc1⟩ := (H.out.below HB.out).at k hlt
        have hsz := HS.out ps[k] (List.getElem_mem hlt)
        have hsu := Lib.hid (totP_succ hlt)
        by_cases hz : left - ps.length - totS (pnames ps) k < ps[k].name.size
        · have hn := Lib.hid (szV_no (ss := pnames ps) (left := left) (k := k + 1) (by rw [HL.out]; omega) (by rw [hsu.out, HL.out]; omega))
          have hd : left - (ps.length : Int) - (totS (pnames ps) k : Int) - (ps[k].name.size : Int) < 0 := by omega
          go_wp2
          go_ret
          exact ⟨by rw [hn.out]; rfl, HB.out.alloc HB.out.size _⟩
        · have hd : ¬ left - (ps.length : Int) - (totS (pnames ps) k : Int) - (ps[k].name.size : Int) < 0 := by omega
          go_wp2
          go_roundw
          case rel => exact ⟨k + 1, by omega, by go_num, by rw [hsu.out]; go_num, by rw [hsu.out]; omega, HB.out.alloc HB.out.size _⟩
          case measure => simp [intOf]; omega
      · obtain rfl : k = ps.length := by omega
        have hn := Lib.hid (szV_yes (ss := pnames ps) (left := left) (by rw [HL.out]; omega))
        go_wp2
        go_ret
        exact ⟨by rw [hn.out, HL.out]; rfl, HB.out⟩

theorem info_purse : (Try.prog.info? 44).map (fun i => (i.zero, i.size, i.bytes)) = some (some (.agg #[.string ByteArray.empty, .int .i64 0]), 2, 24) := by kernel_rfl

set_option maxHeartbeats 1000000 in
set_option maxRecDepth 100000 in
theorem toPurse_any (s : ByteArray) (n : Int) (w : World) :
    Calls Try.prog 17 #[.agg #[.string s, .int .i64 n]] w fun e w' => e = .returned (.agg #[.string s, .int .i64 n]) ∧ Below w.heap.size w w' := by
  go_enter Try.func17, Try.ntmps17
  go_wp2
  refine bodyPost_ret (v := .agg #[.string s, .int .i64 n]) (by simp [results, Try.results17, go_sem]) rfl ⟨rfl, ?_⟩
  exact (((Below.refl _ _).alloc (Nat.le_refl _) _).alloc (by simp) _).alloc (by simp; omega) _

/-- What 'toPurseS' leaves: the same purses, in the block behind all that was there. -/
def ToPurs (ps : List Pur) (w : World) (e : Ending) (w' : World) : Prop :=
  e = .returned (.slice (some ⟨w.heap.size, 0, none⟩) ps.length ps.length) ∧ Purs w' (some ⟨w.heap.size, 0, none⟩) ps ∧ Below w.heap.size w w' ∧ (∀ o, w'.frozen? ⟨w.heap.size, o, none⟩ = false) ∧ w.heap.size < w'.heap.size

theorem room_two {w w' : World} {n k : Nat} {ps : List Pur} (h : Room w n (pcells ps) (k * 2) w') (hk : k < ps.length) (hn : n = ps.length * 2) :
    Room w n (pcells ps) ((k + 1) * 2) ((w'.setCell ⟨w.heap.size, k * 2, none⟩ (.string ps[k].name)).setCell ⟨w.heap.size, k * 2 + 1, none⟩ (.int .i64 ps[k].free)) := by
  rw [show (k + 1) * 2 = k * 2 + 1 + 1 by omega]
  exact (h.set (by omega) (pcells_name ps k hk)).set (by omega) (pcells_free ps k hk)

set_option maxHeartbeats 1000000 in
set_option maxRecDepth 100000 in
theorem toPurseS_any {w : World} {a : Option Addr} {ps : List Pur} (cap : Nat) (h : Purs w a ps) (hl : ps.length ≤ 1048576) :
    Calls Try.prog 6 #[.slice a ps.length cap] w (ToPurs ps w) := by
  have H := Lib.hid h
  clear h
  have hmk := run_make_many (P := Try.prog) 24 44 (.agg #[.string ByteArray.empty, .int .i64 0]) 2 24 Try.underlying24 info_purse .i64 .i64 ps.length (by omega) (by omega)
  go_enter Try.func6, Try.ntmps6
  go_wp2
  clear hmk
  go_loopw [4] (fun i w' => ∃ k : Nat, k ≤ ps.length ∧ i = .int .i64 k ∧ Room w (ps.length * 2) (pcells ps) (k * 2) w') (fun i _ => ps.length - (intOf i).toNat)
  case atStart => exact ⟨0, Nat.zero_le _, rfl, Room.made _ _ _ _ _⟩
  case round =>
    obtain ⟨k, hk, rfl, hr⟩ := hrel
    by_cases hlt : k < ps.length
    · obtain ⟨b, off, rfl, hb, hc0, hc1⟩ := H.out.at k hlt
      have hc := (hr.low.cell (p := ⟨b, off + k * 2, none⟩) hb).trans hc0
      have hc' := (hr.low.cell (p := ⟨b, off + k * 2 + 1, none⟩) hb).trans hc1
      have HR := Lib.hid hr
      clear hr hc0 hc1
      go_wp2_with fail
      refine (toPurse_any _ _ _).mono ?_
      rintro e w2 ⟨rfl, hb2⟩
      have hr2 := HR.out.below hb2
      obtain ⟨u, hu⟩ := hr2.all (k * 2) (by omega)
      obtain ⟨u', hu'⟩ := hr2.all (k * 2 + 1) (by omega)
      have hf := hr2.free (k * 2)
      have hf' := hr2.free (k * 2 + 1)
      have HR2 := Lib.hid (room_two hr2 hlt rfl)
      clear hr2 hb2 HR
      go_wp2
      go_roundw
      case rel => exact ⟨k + 1, by omega, by go_num, HR2.out⟩
      case measure => simp [intOf]; omega
    · obtain rfl : k = ps.length := by omega
      have HR := Lib.hid hr
      clear hr
      go_wp2
      go_ret
      exact ⟨rfl, HR.out.lies (by rw [pcells_length]; omega), HR.out.low, HR.out.free, HR.out.has⟩

set_option maxHeartbeats 1000000 in
set_option maxRecDepth 100000 in
theorem eqPurse_same (s : ByteArray) (n : Int) (w : World) :
    Calls Try.prog 24 #[.agg #[.string s, .int .i64 n], .agg #[.string s, .int .i64 n]] w fun e w' => e = .returned (.bool true) ∧ Below w.heap.size w w' := by
  go_enter Try.func24, Try.ntmps24
  go_wp2
  go_ret
  exact ⟨rfl, ((Below.refl _ _).alloc (Nat.le_refl _) _).alloc (by simp) _⟩

set_option maxHeartbeats 1000000 in
set_option maxRecDepth 100000 in
/-- Both lists hold the same purses: it says so. -/
theorem eqPurseS_same {w : World} {a a' : Option Addr} {ps : List Pur} (cap cap' : Nat) (h : Purs w a ps) (h' : Purs w a' ps) (hl : ps.length ≤ 1048576) :
    Calls Try.prog 9 #[.slice a ps.length cap, .slice a' ps.length cap'] w fun e w' => e = .returned (.bool true) ∧ Below w.heap.size w w' := by
  have H := Lib.hid h
  have H' := Lib.hid h'
  clear h h'
  go_enter Try.func9, Try.ntmps9
  go_wp2
  go_loopw [5] (fun i w' => ∃ (k : Nat), k ≤ ps.length ∧ i = .int .i64 k ∧ Below w.heap.size w w') (fun i _ => ps.length - (intOf i).toNat)
  case atStart => exact ⟨0, Nat.zero_le _, rfl, Below.refl _ _⟩
  case round =>
    obtain ⟨k, hk, rfl, hb⟩ := hrel
    have HB := Lib.hid hb
    clear hb
    by_cases hlt : k < ps.length
    · obtain ⟨b, off, rfl, _, hc, hc1⟩ := (H.out.below HB.out).at k hlt
      obtain ⟨b', off', rfl, _, hc', hc1'⟩ := (H'.out.below HB.out).at k hlt
      go_wp2
      go_still_tail 8, (by kernel_rfl)
      change wpList _ _ _ _ _ wr.drew
      go_wp2_with fail
      refine (eqPurse_same _ _ _).mono ?_
      rintro e w2 ⟨rfl, hb2⟩
      have HB2 := Lib.hid (below_trans (show Below w.heap.size w wr.drew from below_draws HB.out 1) hb2)
      clear hb2
      go_wp2
      go_roundw
      case rel => exact ⟨k + 1, by omega, by go_num, HB2.out⟩
      case measure => simp [intOf]; omega
    · go_wp2
      go_ret
      exact ⟨rfl, HB.out⟩

/-- Marks, from k on. -/
def pmarks (k : Nat) : Nat → List Pur
  | 0 => []
  | n + 1 => ⟨markB k, (k + 1 : Nat)⟩ :: pmarks (k + 2) n
theorem pmarks_length : ∀ (k n : Nat), (pmarks k n).length = n
  | _, 0 => rfl
  | k, n + 1 => by simp [pmarks, pmarks_length (k + 2) n]
theorem pmarks_at : ∀ (n k i : Nat) (h : i < n), (pmarks k n)[i]'(by rw [pmarks_length]; exact h) = ⟨markB (k + i * 2), (k + i * 2 + 1 : Nat)⟩
  | n + 1, k, 0, _ => by simp [pmarks]
  | n + 1, k, i + 1, h => by
    have := pmarks_at n (k + 2) i (by omega)
    simp only [pmarks, List.getElem_cons_succ, this]
    rw [show k + 2 + i * 2 = k + (i + 1) * 2 by omega]

set_option maxHeartbeats 1000000 in
set_option maxRecDepth 100000 in
theorem markPurseS_any {w : World} {b off n : Nat} (cap k : Nat) (h : Mine w b off (n * 2)) (hb : b < w.heap.size) (h0 : 0 < k) (hl : k + n * 2 ≤ 10000000) :
    Calls Try.prog 10 #[.slice (some ⟨b, off, none⟩) n cap, .int .i64 k] w fun e w' => e = .returned (.int .i64 ((k + n * 2 : Nat) : Int)) ∧ Wrote w b off (n * 2) (pcells (pmarks k n)) (n * 2) w' := by
  have HM := Lib.hid h
  clear h
  go_enter Try.func10, Try.ntmps10
  go_wp2
  go_loopw [1, 5] (fun t i w' => ∃ j : Nat, j ≤ n ∧ i = .int .i64 j ∧ t = .int .i64 ((k + j * 2 : Nat) : Int) ∧ Wrote w b off (n * 2) (pcells (pmarks k n)) (j * 2) w') (fun _ i _ => n - (intOf i).toNat)
  case atStart => exact ⟨0, Nat.zero_le _, rfl, by simp, Wrote.start HM.out _⟩
  case round =>
    obtain ⟨j, hj, rfl, rfl, hw⟩ := hrel
    by_cases hlt : j < n
    · have HW := Lib.hid hw
      have hbr : b < wr.heap.size := Nat.lt_of_lt_of_le hb hw.grown.size
      clear hw
      go_wp2_with fail
      refine (markText_any (k + j * 2) (by omega) (by omega) _).mono ?_
      rintro e w2 ⟨rfl, hb2⟩
      have hw2 := HW.out.below hb hb2
      have hn := pcells_name (pmarks k n) j (by rw [pmarks_length]; exact hlt)
      have hf := pcells_free (pmarks k n) j (by rw [pmarks_length]; exact hlt)
      rw [pmarks_at n k j hlt] at hn hf
      have hs2 := (hw2.set (by omega) hn).set (by omega) hf
      rw [← Nat.add_assoc, show j * 2 + 1 + 1 = (j + 1) * 2 by omega, show ((k + j * 2 + 1 : Nat) : Int) = (k : Int) + (j : Int) * 2 + 1 by omega] at hs2
      have HS := Lib.hid hs2
      obtain ⟨u, hu⟩ := hw2.mine.all (j * 2) (by omega)
      obtain ⟨u', hu'⟩ := hw2.mine.all (j * 2 + 1) (by omega)
      rw [← Nat.add_assoc] at hu'
      have hf := hw2.mine.free (off + j * 2)
      have hf' := hw2.mine.free (off + j * 2 + 1)
      clear hw2 hb2 HW hn hs2
      go_wp2
      go_roundw
      case rel => exact ⟨j + 1, by omega, by go_num, by go_num, HS.out⟩
      case measure => simp [intOf]; omega
    · obtain rfl : j = n := by omega
      have HW := Lib.hid hw
      clear hw
      go_wp2
      go_ret
      exact ⟨rfl, HW.out⟩

set_option maxHeartbeats 1000000 in
set_option maxRecDepth 100000 in
theorem heldPurseS_any {w : World} {a : Option Addr} {n : Nat} (cap k : Nat) (h : Purs w a (pmarks k n)) (h0 : 0 < k) (hl : k + n * 2 ≤ 10000000) :
    Calls Try.prog 29 #[.slice a n cap, .int .i64 k] w fun e w' => e = .returned (.int .i64 ((k + n * 2 : Nat) : Int)) ∧ Below w.heap.size w w' := by
  have H := Lib.hid h
  clear h
  go_enter Try.func29, Try.ntmps29
  go_wp2
  go_loopw [1, 5] (fun t i w' => ∃ j : Nat, j ≤ n ∧ i = .int .i64 j ∧ t = .int .i64 ((k + j * 2 : Nat) : Int) ∧ Below w.heap.size w w') (fun _ i _ => n - (intOf i).toNat)
  case atStart => exact ⟨0, Nat.zero_le _, rfl, by simp, Below.refl _ _⟩
  case round =>
    obtain ⟨j, hj, rfl, rfl, hb⟩ := hrel
    have HB := Lib.hid hb
    clear hb
    by_cases hlt : j < n
    · obtain ⟨b, off, rfl, hlb, hc, hc1⟩ := (H.out.below HB.out).at j (by rw [pmarks_length]; exact hlt)
      rw [pmarks_at n k j hlt] at hc hc1
      go_wp2
      go_region_held3 (fun w' => w'.cell? ⟨b, off + j * 2, none⟩ = some (.string (markB (k + j * 2))) ∧ w'.cell? ⟨b, off + j * 2 + 1, none⟩ = some (.int .i64 ((k + j * 2 + 1 : Nat) : Int)) ∧ Below w.heap.size w w')
        (first | exact ⟨hc, hc1, HB.out⟩ | exact ⟨hc, hc1, below_draws HB.out 1⟩ | exact ⟨(hb2.cell (p := ⟨b, off + j * 2, none⟩) hlb).trans hc, (hb2.cell (p := ⟨b, off + j * 2 + 1, none⟩) hlb).trans hc1, below_trans HB.out hb2⟩ | exact ⟨(hb2.cell (p := ⟨b, off + j * 2, none⟩) hlb).trans hc, (hb2.cell (p := ⟨b, off + j * 2 + 1, none⟩) hlb).trans hc1, below_trans (below_draws HB.out 1) hb2⟩)
        (first | (go_at_call 25; refine (markText_any (k + j * 2) (by omega) (by omega) _).mono ?_; rintro e w2 ⟨rfl, hb2⟩))
      all_goals
        go_wp2
        go_roundw
        case rel => exact ⟨j + 1, by omega, by go_num, by go_num, by first | exact below_trans HB.out hb2 | exact below_trans (below_draws HB.out 1) hb2⟩
        case measure => simp [intOf]; omega
    · obtain rfl : j = n := by omega
      go_wp2
      go_ret
      exact ⟨rfl, HB.out⟩
end Go.Proofs.Ytbgklakhelcgcaa
