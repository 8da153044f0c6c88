/-
  Chapter 1's Added, the program's and the model's: both answer the same two results at every argument.
-/
import Derived.Test.YtnhnahckddiddaaImpl
namespace Go.Proofs.Ytnhnahckddiddaa
open Go.ChangeShapes Go.WideShapes Go.ChangeAt Go.RowKit

def okA (a b : Int) : Bool := inB 0 1000000 a && (inB 0 1000000 b && inB 0 1000000 (a + b))
def addN (a b : Int) : Int := if okA a b = true then a + b else 0

theorem okA_true {a b : Int} (h : okA a b = true) : inB 0 1000000 a = true ∧ inB 0 1000000 b = true ∧ inB 0 1000000 (a + b) = true := by
  simpa only [okA, Bool.and_eq_true] using h

set_option maxHeartbeats 1000000 in
theorem sAdded_any (a b : Int) (w : World) :
    Calls Try.prog 26 #[.int .i64 a, .int .i64 b] w fun e w' => e = .returned (.tuple #[.int .i64 (addN a b), .bool (okA a b)]) ∧ w = w' := by
  cases h1 : inB 0 1000000 a
  · have hd : okA a b = false := by simp [okA, h1]
    have hn : addN a b = 0 := by simp [addN, hd]
    rw [hd, hn]; clear hd hn
    go_enter Try.func26, Try.ntmps26
    go_wp2_with (go_at_call 23; refine (sAmountOk_any _ _).mono ?_; rintro e w' ⟨rfl, rfl⟩; rw [h1])
    go_ret2
    exact ⟨rfl, rfl⟩
  · cases h2 : inB 0 1000000 b
    · have hd : okA a b = false := by simp [okA, h2]
      have hn : addN a b = 0 := by simp [addN, hd]
      rw [hd, hn]; clear hd hn
      go_enter Try.func26, Try.ntmps26
      go_wp2_with (go_at_call 23; refine (sAmountOk_any _ _).mono ?_; rintro e w' ⟨rfl, rfl⟩; first | rw [h1] | rw [h2])
      go_ret2
      exact ⟨rfl, rfl⟩
    · obtain ⟨a1, a2⟩ := inB_true h1
      obtain ⟨b1, b2⟩ := inB_true h2
      cases h3 : inB 0 1000000 (a + b)
      · have hd : okA a b = false := by simp [okA, h3]
        have hn : addN a b = 0 := by simp [addN, hd]
        rw [hd, hn]; clear hd hn
        go_enter Try.func26, Try.ntmps26
        go_wp2_with (go_at_call 23; refine (sAmountOk_any _ _).mono ?_; rintro e w' ⟨rfl, rfl⟩; first | rw [h3] | rw [h1] | rw [h2])
        go_ret2
        exact ⟨rfl, rfl⟩
      · have hd : okA a b = true := by simp [okA, h1, h2, h3]
        have hn : addN a b = a + b := by simp [addN, hd]
        rw [hd, hn]; clear hd hn
        go_enter Try.func26, Try.ntmps26
        go_wp2_with (go_at_call 23; refine (sAmountOk_any _ _).mono ?_; rintro e w' ⟨rfl, rfl⟩; first | rw [h3] | rw [h1] | rw [h2])
        go_ret2
        exact ⟨rfl, rfl⟩

set_option maxHeartbeats 1000000 in
theorem iAdded_any (a b : Int) (w : World) :
    Calls Try.prog 15 #[.int .i64 a, .int .i64 b] w fun e w' => e = .returned (.tuple #[.int .i64 (addN a b), .bool (okA a b)]) ∧ Fresh w w' := by
  cases h1 : (inB 0 1000000 a && inB 0 1000000 b)
  · have hd : okA a b = false := by simp only [okA]; rw [← Bool.and_assoc, h1]; rfl
    have hn : addN a b = 0 := by simp [addN, hd]
    have hs : ∀ z, (inB 0 1000000 a && (inB 0 1000000 b && inB 0 1000000 z)) = false := fun z => by rw [← Bool.and_assoc, h1]; rfl
    rw [hd, hn]
    have H := Lib.hid hs; clear hd hn h1 hs
    go_enter Try.func15, Try.ntmps15
    go_wp2_with (go_at_call 35; refine (allOf_new _ _ _ _ _).mono ?_; rintro e w' ⟨rfl, rfl⟩; rw [H.out])
    go_ret2
    exact ⟨rfl, (Fresh.refl _).alloc _ _⟩
  · simp only [Bool.and_eq_true] at h1
    obtain ⟨a1, a2⟩ := inB_true h1.1
    obtain ⟨b1, b2⟩ := inB_true h1.2
    have hs : (inB 0 1000000 a && (inB 0 1000000 b && inB 0 1000000 (a + b))) = okA a b := rfl
    have H := Lib.hid hs; clear h1 hs
    cases h3 : okA a b
    · have hn : addN a b = 0 := by simp [addN, h3]
      rw [hn]; clear hn
      go_enter Try.func15, Try.ntmps15
      go_wp2_with (go_at_call 35; refine (allOf_new _ _ _ _ _).mono ?_; rintro e w' ⟨rfl, rfl⟩; rw [H.out, h3])
      go_ret2
      exact ⟨rfl, (Fresh.refl _).alloc _ _⟩
    · have hn : addN a b = a + b := by simp [addN, h3]
      rw [hn]; clear hn
      go_enter Try.func15, Try.ntmps15
      go_wp2_with (go_at_call 35; refine (allOf_new _ _ _ _ _).mono ?_; rintro e w' ⟨rfl, rfl⟩; rw [H.out, h3])
      go_ret2
      exact ⟨rfl, (Fresh.refl _).alloc _ _⟩
end Go.Proofs.Ytnhnahckddiddaa
