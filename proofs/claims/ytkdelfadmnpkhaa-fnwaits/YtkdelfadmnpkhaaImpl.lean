/-
  The program's Down, Up, PartOf and Added: what they answer at every argument; they lay at most new blocks.
-/
import Derived.Test.YtkdelfadmnpkhaaDown
import Derived.Lib.Hide
namespace Go.Proofs.Ytkdelfadmnpkhaa
open Go.ChangeShapes Go.WideShapes Go.ChangeAt Go.RowKit

/-- Nothing that was there has changed; there may be new blocks. -/
def Fresh (w w' : World) : Prop := Below w.heap.size w w' ∧ Grown w w'
theorem Fresh.refl (w : World) : Fresh w w := ⟨Below.refl _ _, Grown.refl _⟩
theorem Fresh.alloc {w w' : World} (h : Fresh w w') (c : Array Value) (t : TypeId) : Fresh w (w'.alloc (.cells c t)) :=
  ⟨h.1.alloc h.1.size _, h.2.alloc c t⟩
theorem Fresh.trans {a b c : World} (h : Fresh a b) (k : Fresh b c) : Fresh a c :=
  ⟨h.1.trans (k.1.mono h.1.size), World.keptBut_trans h.2.1 (World.keptBut_mono (fun _ f => f.elim) k.2.1), fun p => (k.2.2.1 p).trans (h.2.2.1 p), Nat.le_trans h.2.2.2 k.2.2.2⟩

theorem allow_all {a b c : Int} (h : okD a b c = true) : (inB 0 1000000000 a && (inB 0 1000000000 b && inB 0 1000000000 c)) = true := by
  obtain ⟨h1, h2, h3, h4, h5, h6⟩ := okD_true h
  rw [inB_of h1 h2, inB_of h3 h4, inB_of (by omega) h6]; rfl

theorem okD_of {a b c : Int} (h : (inB 0 1000000000 a && (inB 0 1000000000 b && inB 0 1000000000 c)) = true) (hc : (c == 0) = false) : okD a b c = true := by
  simp only [Bool.and_eq_true] at h
  obtain ⟨h1, h2, h3⟩ := h
  have h4 := inB_true h3
  have : c ≠ 0 := by simpa using hc
  simp only [okD, Bool.and_eq_true]
  exact ⟨h1, h2, inB_of (by omega) h4.2⟩

theorem okD_no {a b c : Int} (h : (inB 0 1000000000 a && (inB 0 1000000000 b && inB 0 1000000000 c)) = false) : okD a b c = false := by
  cases k : okD a b c
  · rfl
  · rw [allow_all k] at h; exact absurd h (by decide)

theorem okD_zero {a b c : Int} (h : (c == 0) = true) : okD a b c = false := by
  have : c = 0 := by simpa using h
  subst this
  simp [okD, inB]

theorem allOf_new (lim a b c : Int) (w : World) :
    Calls Try.prog 76 #[.func (Fn.func 53) #[.int .i64 lim] #[], .slice (some ⟨w.heap.size, 0, none⟩) 3 3] (w.alloc (.cells #[.int .i64 a, .int .i64 b, .int .i64 c] 2)) fun e w' => e = .returned (.bool (inB 0 lim a && (inB 0 lim b && inB 0 lim c))) ∧ w.alloc (.cells #[.int .i64 a, .int .i64 b, .int .i64 c] 2) = w' :=
  allOf_any lim a b c w.heap.size _ (by go_simp) (by go_simp) (by go_simp)

set_option maxHeartbeats 1000000 in
set_option maxRecDepth 100000 in
theorem scaledDown_any (a b c : Int) (w : World) :
    Calls Try.prog 74 #[.int .i64 a, .int .i64 b, .int .i64 c, .func (Fn.func 75) #[] #[]] w fun e w' => e = .returned (.int .i64 (downV a b c)) ∧ Fresh w w' := by
  cases ok : (inB 0 1000000000 a && (inB 0 1000000000 b && inB 0 1000000000 c))
  · have hd : downV a b c = -1 := by simp [downV, okD_no ok]
    rw [hd]; clear hd
    go_enter Try.func74, Try.ntmps74
    go_wp2_with (go_at_call 76; refine (allOf_new _ _ _ _ _).mono ?_; rintro e w' ⟨rfl, rfl⟩; rw [ok])
    go_ret
    exact ⟨rfl, (Fresh.refl _).alloc _ _⟩
  · cases hc : (c == 0)
    · have hk := okD_of ok hc
      have hd : downV a b c = a * b / c := by simp [downV, hk]
      rw [hd]; clear hd
      obtain ⟨h1, h2, h3, h4, h5, h6⟩ := okD_true hk
      obtain ⟨hp, hp2⟩ := prod_bd a b h1 h2 h3 h4
      go_enter Try.func74, Try.ntmps74
      go_wp2_with (first | (go_at_call 76; refine (allOf_new _ _ _ _ _).mono ?_; rintro e w' ⟨rfl, rfl⟩; rw [ok]) | (go_at_call 75; refine (overDown_any _ _ _ hp hp2 h5 h6).mono ?_; rintro e w' ⟨rfl, rfl⟩))
      go_ret
      exact ⟨rfl, (Fresh.refl _).alloc _ _⟩
    · have hd : downV a b c = -1 := by simp [downV, okD_zero hc]
      rw [hd]; clear hd
      go_enter Try.func74, Try.ntmps74
      go_wp2_with (go_at_call 76; refine (allOf_new _ _ _ _ _).mono ?_; rintro e w' ⟨rfl, rfl⟩; rw [ok])
      go_ret
      exact ⟨rfl, (Fresh.refl _).alloc _ _⟩

theorem iDown_any (a b c : Int) (w : World) :
    Calls Try.prog 68 #[.int .i64 a, .int .i64 b, .int .i64 c] w fun e w' => e = .returned (.int .i64 (downV a b c)) ∧ Fresh w w' := by
  go_enter Try.func68, Try.ntmps68
  go_wp2_with (go_at_call 74; refine (scaledDown_any _ _ _ _).mono ?_; rintro e w' ⟨rfl, hf⟩)
  go_ret
  exact ⟨rfl, hf⟩

theorem part_bd {n p : Int} (h1 : inB 0 1000000 n = true) (h2 : inB 0 100 p = true) : okD n p 100 = true ∧ 0 ≤ n * p ∧ n * p ≤ 1000000000000000000 := by
  have a := inB_true h1
  have b := inB_true h2
  have k := prod_bd n p (by omega) (by omega) (by omega) (by omega)
  refine ⟨?_, k.1, k.2⟩
  simp only [okD, Bool.and_eq_true]
  exact ⟨inB_of (by omega) (by omega), inB_of (by omega) (by omega), by decide⟩

theorem sPartOf_any (n p : Int) (w : World) :
    Calls Try.prog 56 #[.int .i64 n, .int .i64 p] w fun e w' => e = .returned (.int .i64 (partV n p)) ∧ w = w' := by
  cases h1 : inB 0 1000000 n
  · have hd : partV n p = -1 := by simp [partV, h1]
    rw [hd]; clear hd
    go_enter Try.func56, Try.ntmps56
    go_wp2_with (go_at_call 69; refine (sAmountOk_any _ _).mono ?_; rintro e w' ⟨rfl, rfl⟩; rw [h1])
    go_ret
    exact ⟨rfl, rfl⟩
  · cases h2 : inB 0 100 p
    · have hd : partV n p = -1 := by simp [partV, h2]
      rw [hd]; clear hd
      go_enter Try.func56, Try.ntmps56
      go_wp2_with (first | (go_at_call 69; refine (sAmountOk_any _ _).mono ?_; rintro e w' ⟨rfl, rfl⟩; rw [h1]) | (go_at_call 55; refine (l1In_any _ _ _ _).mono ?_; rintro e w' ⟨rfl, rfl⟩; rw [h2]))
      go_ret
      exact ⟨rfl, rfl⟩
    · have hd : partV n p = n * p / 100 := by simp [partV, h1, h2]
      rw [hd]; clear hd
      obtain ⟨_, hp, hp2⟩ := part_bd h1 h2
      go_enter Try.func56, Try.ntmps56
      go_wp2_with (first | (go_at_call 69; refine (sAmountOk_any _ _).mono ?_; rintro e w' ⟨rfl, rfl⟩; rw [h1]) | (go_at_call 55; refine (l1In_any _ _ _ _).mono ?_; rintro e w' ⟨rfl, rfl⟩; rw [h2]))
      go_ret
      exact ⟨rfl, rfl⟩

theorem iPartOf_any (n p : Int) (w : World) :
    Calls Try.prog 54 #[.int .i64 n, .int .i64 p] w fun e w' => e = .returned (.int .i64 (partV n p)) ∧ Fresh w w' := by
  cases h1 : inB 0 1000000 n
  · have hd : partV n p = -1 := by simp [partV, h1]
    rw [hd]; clear hd
    go_enter Try.func54, Try.ntmps54
    go_wp2_with (go_at_call 61; refine (iAmountOk_any _ _).mono ?_; rintro e w' ⟨rfl, rfl⟩; rw [h1])
    go_ret
    exact ⟨rfl, Fresh.refl _⟩
  · cases h2 : inB 0 100 p
    · have hd : partV n p = -1 := by simp [partV, h2]
      rw [hd]; clear hd
      go_enter Try.func54, Try.ntmps54
      go_wp2_with (first | (go_at_call 61; refine (iAmountOk_any _ _).mono ?_; rintro e w' ⟨rfl, rfl⟩; rw [h1]) | (go_at_call 53; refine (within_any _ _ _).mono ?_; rintro e w' ⟨rfl, rfl⟩; rw [h2]))
      go_ret
      exact ⟨rfl, Fresh.refl _⟩
    · have hd : partV n p = downV n p 100 := by simp [partV, downV, h1, h2, (part_bd h1 h2).1]
      rw [hd]; clear hd
      go_enter Try.func54, Try.ntmps54
      go_wp2_with (first | (go_at_call 61; refine (iAmountOk_any _ _).mono ?_; rintro e w' ⟨rfl, rfl⟩; rw [h1]) | (go_at_call 53; refine (within_any _ _ _).mono ?_; rintro e w' ⟨rfl, rfl⟩; rw [h2]) | (go_at_call 68; refine (iDown_any _ _ _ _).mono ?_; rintro e w' ⟨rfl, hf⟩))
      go_ret
      exact ⟨rfl, hf⟩
end Go.Proofs.Ytkdelfadmnpkhaa
