/-
  How the program compares two parts: by whose they are, then by the mill; the order is strict and whole but for parts of one key.
-/
import Derived.Test.YtpmibegfpfjdgaaLayPart
import Derived.Test.YtpmibegfpfjdgaaFacts5
namespace Go.Proofs.Ytpmibegfpfjdgaa
open Go.ChangeShapes Go.WideShapes Go.ChangeAt Go.RowKit
open Go.Shelf Go.Lib Go.Sort

theorem bytes_gt {a b : List UInt8} (h : ¬ a < b) (e : ¬ a = b) : b < a := by
  have : b ≤ a := List.not_lt.1 h
  rcases List.le_iff_lt_or_eq.1 this with h | h
  · exact h
  · exact absurd h.symm e
/-- Three ways. -/
def cmpS (a b : ByteArray) : Int := if Op.bytesLess a.toList b.toList = true then -1 else if Op.bytesLess b.toList a.toList = true then 1 else 0
theorem cmpS_lt {a b : ByteArray} (h : Op.bytesLess a.toList b.toList = true) : cmpS a b = -1 := by simp [cmpS, h]
theorem cmpS_gt {a b : ByteArray} (h : Op.bytesLess a.toList b.toList = false) (h' : Op.bytesLess b.toList a.toList = true) : cmpS a b = 1 := by simp [cmpS, h, h']
theorem cmpS_eq {a b : ByteArray} (h : Op.bytesLess a.toList b.toList = false) (h' : Op.bytesLess b.toList a.toList = false) : cmpS a b = 0 := by simp [cmpS, h, h']

theorem cmpS_same {a b : ByteArray} (h : (a.toList == b.toList) = true) : cmpS a b = 0 := by
  have e : a.toList = b.toList := by simpa using h
  apply cmpS_eq <;> rw [bytesLess_lt, decide_eq_false_iff_not, e] <;> exact List.lt_irrefl _
theorem cmpS_more {a b : ByteArray} (h : Op.bytesLess a.toList b.toList = false) (hn : (a.toList == b.toList) = false) : cmpS a b = 1 := by
  refine cmpS_gt h ?_
  have e : ¬ a.toList = b.toList := by simpa using hn
  rw [bytesLess_lt, decide_eq_false_iff_not] at h
  rw [bytesLess_lt, decide_eq_true_eq]
  exact bytes_gt h e

set_option maxHeartbeats 1000000 in
set_option maxRecDepth 100000 in
theorem iNaN_any (a : ByteArray) (w : World) : Calls Try.prog 78 #[.string a] w fun e w' => e = .returned (.bool false) ∧ w = w' := by
  go_enter Try.func78, Try.ntmps78
  go_wp2
  go_ret
  exact ⟨rfl, rfl⟩

set_option maxHeartbeats 1000000 in
set_option maxRecDepth 100000 in
theorem iCompare_any (a b : ByteArray) (w : World) :
    Calls Try.prog 66 #[.string a, .string b] w fun e w' => e = .returned (.int .i64 (cmpS a b)) ∧ w = w' := by
  cases h1 : Op.bytesLess a.toList b.toList
  · cases h2 : (a.toList == b.toList)
    · have HN := Lib.hid (cmpS_more h1 h2)
      go_enter Try.func66, Try.ntmps66
      go_wp2_with (go_at_call 78; refine (iNaN_any _ _).mono ?_; rintro e w' ⟨rfl, rfl⟩)
      go_ret
      exact ⟨by rw [HN.out]; rfl, rfl⟩
    · have HN := Lib.hid (cmpS_same h2)
      go_enter Try.func66, Try.ntmps66
      go_wp2_with (go_at_call 78; refine (iNaN_any _ _).mono ?_; rintro e w' ⟨rfl, rfl⟩)
      go_ret
      exact ⟨by rw [HN.out]; rfl, rfl⟩
  · have HN := Lib.hid (cmpS_lt h1)
    go_enter Try.func66, Try.ntmps66
    go_wp2_with (go_at_call 78; refine (iNaN_any _ _).mono ?_; rintro e w' ⟨rfl, rfl⟩)
    go_ret
    exact ⟨by rw [HN.out]; rfl, rfl⟩

/-- The first that is not 0. -/
def orI (x y : Int) : Int := if x = 0 then y else x
set_option maxHeartbeats 1000000 in
set_option maxRecDepth 100000 in
theorem iOr_any {w : World} {b : Nat} (x y : Int) (h0 : w.cell? ⟨b, 0, none⟩ = some (.int .i64 x)) (h1 : w.cell? ⟨b, 1, none⟩ = some (.int .i64 y)) :
    Calls Try.prog 65 #[.slice (some ⟨b, 0, none⟩) 2 2] w fun e w' => e = .returned (.int .i64 (orI x y)) ∧ w = w' := by
  go_enter Try.func65, Try.ntmps65
  go_wp2
  go_loop [8] (fun i => ∃ k : Nat, k ≤ 2 ∧ i = .int .i64 k ∧ (1 ≤ k → x = 0) ∧ (2 ≤ k → y = 0)) (fun i => 2 - (intOf i).toNat)
  case atStart => exact ⟨0, Nat.zero_le _, rfl, fun h => by omega, fun h => by omega⟩
  case round =>
    obtain ⟨k, hk, rfl, hx, hy⟩ := hrel
    match k, hk, hx, hy with
    | 0, _, _, _ =>
      by_cases hx : x = 0
      · subst hx
        go_wp2
        go_round
        case rel => exact ⟨1, by omega, by go_num, by simp, by simp⟩
        case measure => simp [intOf]
      · have HN := Lib.hid (show orI x y = x by simp [orI, hx])
        go_wp2
        go_ret
        exact ⟨by rw [HN.out]; rfl, rfl⟩
    | 1, _, hx, _ =>
      obtain rfl : x = 0 := hx (by omega)
      by_cases hy : y = 0
      · subst hy
        go_wp2
        go_round
        case rel => exact ⟨2, by omega, by go_num, by simp, by simp⟩
        case measure => simp [intOf]
      · have HN := Lib.hid (show orI 0 y = y by simp [orI])
        go_wp2
        go_ret
        exact ⟨by rw [HN.out]; rfl, rfl⟩
    | 2, _, hx, hy =>
      obtain rfl : x = 0 := hx (by omega)
      obtain rfl : y = 0 := hy (by omega)
      go_wp2
      go_ret
      exact ⟨rfl, rfl⟩

/-- By whose they are, then by the mill. -/
def cmpP (p q : Par) : Int := orI (cmpS p.who q.who) (cmpS p.mill q.mill)
end Go.Proofs.Ytpmibegfpfjdgaa
