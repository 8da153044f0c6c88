/-
  What the draws of chapter 1 return: numbers, whatever the bytes; nothing that was there turns.
-/
import Derived.Test.YtnhnahckddiddaaDraw
namespace Go.Proofs.Ytnhnahckddiddaa
open Go.ChangeShapes Go.WideShapes Go.ChangeAt Go.RowKit

theorem big_any (a : Option Addr) (len cap : Nat) (w : World) (h : len ≤ 4096) :
    Calls Try.prog 10 #[.slice a len cap] w fun e w' => e = .returned (.bool false) ∧ w = w' := by
  have hd : decide ((4096 : Int) < (len : Int)) = false := by simp; omega
  go_enter Try.func10, Try.ntmps10
  go_wp2
  go_ret
  exact ⟨rfl, rfl⟩

theorem big_yes (a : Option Addr) (len cap : Nat) (w : World) (h : ¬ len ≤ 4096) :
    Calls Try.prog 10 #[.slice a len cap] w fun e w' => e = .returned (.bool true) ∧ w = w' := by
  have hd : decide ((4096 : Int) < (len : Int)) = true := by simp; omega
  go_enter Try.func10, Try.ntmps10
  go_wp2
  go_ret
  exact ⟨rfl, rfl⟩

/-- A cell of a block that a draw does not turn. -/
theorem kept_cell {w w' : World} {C b o : Nat} {v : Value} (hg : w.grownBy w' (some C)) (h : w.cell? ⟨b, o, none⟩ = some v) (hne : b ≠ C) : w'.cell? ⟨b, o, none⟩ = some v :=
  hg.cell h (by intro e; injection e with e; exact hne e)

set_option maxHeartbeats 1000000 in
theorem l1DrawAmount_any {C : Nat} {a : Option Addr} {len cap : Nat} {w : World} (h : Cur w C a len cap) :
    Calls Try.prog 28 #[.pointer (some ⟨C, 0, none⟩)] w (Drawn C a len cap (fun x => -1 ≤ x ∧ x ≤ 1000001) w) := by
  go_enter Try.func28, Try.ntmps28
  go_wp2_with fail
  refine (l1Once_any _ h (by omega) (by omega)).mono ?_
  rintro e w1 ⟨t, rfl, hc1, hg1⟩
  have hC : C < w1.heap.size := lt_of_cell hc1.c0
  cases t
  · go_wp2_with fail
    refine (l1Below_any _ hc1 (by omega) (by omega)).mono ?_
    rintro e w2 ⟨x, ⟨hx, hx2⟩, rfl, hc2, hg2⟩
    go_wp2
    go_ret
    exact ⟨_, ⟨by omega, by omega⟩, rfl, hc2, grown_step hg1 hg2⟩
  · go_wp2_with fail
    refine (l1Below_any _ (hc1.kept ((Below.refl _ _).alloc (Nat.le_refl _) _)) (by omega) (by omega)).mono ?_
    rintro e w2 ⟨x, ⟨hx, hx2⟩, rfl, hc2, hg2⟩
    have hg : w.grownBy w2 (some C) := grown_step hg1 (grown_step (grown_new (grown_refl _ _) _) hg2)
    have q0 := kept_cell (b := w1.heap.size) (o := 0) hg2 (by go_simp; rfl) (by omega)
    have q1 := kept_cell (b := w1.heap.size) (o := 1) hg2 (by go_simp; rfl) (by omega)
    have q2 := kept_cell (b := w1.heap.size) (o := 2) hg2 (by go_simp; rfl) (by omega)
    have q3 := kept_cell (b := w1.heap.size) (o := 3) hg2 (by go_simp; rfl) (by omega)
    clear hg1 hg2
    have hx3 : x = 0 ∨ x = 1 ∨ x = 2 ∨ x = 3 := by omega
    rcases hx3 with rfl | rfl | rfl | rfl
    all_goals
      go_wp2
      go_ret
      exact ⟨_, ⟨by omega, by omega⟩, rfl, hc2, hg⟩

/-- What came in can be drawn from. -/
structure Src (w : World) (a : Option Addr) (len : Nat) : Prop where
  row : Row w a len
  small : len ≤ 4096

theorem Src.kept {w w' : World} {a : Option Addr} {len : Nat} (h : Src w a len) (hb : Below w.heap.size w w') : Src w' a len :=
  ⟨h.row.below hb, h.small⟩

theorem below_of {w w1 w2 : World} (hb : Below w.heap.size w w1) (hg : w1.grownBy w2 (some w.heap.size)) : Below w.heap.size w w2 :=
  hb.trans (grown_below hg (Nat.le_refl _) hb.size)

def Gives1 (w : World) (e : Ending) (w' : World) : Prop := ∃ a : Int, e = .returned (.int .i64 a) ∧ Below w.heap.size w w'
def Gives2 (w : World) (e : Ending) (w' : World) : Prop := ∃ a b : Int, e = .returned (.tuple #[.int .i64 a, .int .i64 b]) ∧ Below w.heap.size w w'
def Gives3 (w : World) (e : Ending) (w' : World) : Prop := ∃ a b c : Int, e = .returned (.tuple #[.int .i64 a, .int .i64 b, .int .i64 c]) ∧ Below w.heap.size w w'

set_option maxHeartbeats 1000000 in
theorem drawSharesOk_any {a : Option Addr} {len cap : Nat} {w : World} (h : Src w a len) :
    Calls Try.prog 18 #[.slice a len cap] w (Gives1 w) := by
  go_enter Try.func18, Try.ntmps18
  go_wp2_with fail
  refine (l1New_any h.row h.small).mono ?_
  rintro e w0 ⟨rfl, hc0, hb0⟩
  go_wp2_with fail
  refine (l1Once_any _ hc0 (by omega) (by omega)).mono ?_
  rintro e w1 ⟨t, rfl, hc1, hg1⟩
  have hC : w.heap.size < w1.heap.size := lt_of_cell hc1.c0
  have hb1 := below_of hb0 hg1
  cases t
  · go_wp2_with fail
    refine (l1DrawAmount_any hc1).mono ?_
    rintro e w2 ⟨x, ⟨hx, hx2⟩, rfl, hc2, hg2⟩
    go_wp2
    go_ret
    exact ⟨_, rfl, below_of hb1 hg2⟩
  · go_wp2_with fail
    refine (l1Below_any _ (hc1.kept ((Below.refl _ _).alloc (Nat.le_refl _) _)) (by omega) (by omega)).mono ?_
    rintro e w2 ⟨x, ⟨hx, hx2⟩, rfl, hc2, hg2⟩
    have hb2 : Below w.heap.size w w2 := below_of hb1 (grown_step (grown_new (grown_refl _ _) _) hg2)
    have q0 := kept_cell (b := w1.heap.size) (o := 0) hg2 (by go_simp; rfl) (by omega)
    have q1 := kept_cell (b := w1.heap.size) (o := 1) hg2 (by go_simp; rfl) (by omega)
    have q2 := kept_cell (b := w1.heap.size) (o := 2) hg2 (by go_simp; rfl) (by omega)
    clear hg1 hg2
    have hx3 : x = 0 ∨ x = 1 ∨ x = 2 := by omega
    rcases hx3 with rfl | rfl | rfl
    all_goals
      go_wp2
      go_ret
      exact ⟨_, rfl, hb2⟩

set_option maxHeartbeats 1000000 in
theorem drawAdded_any {a : Option Addr} {len cap : Nat} {w : World} (h : Src w a len) :
    Calls Try.prog 14 #[.slice a len cap] w (Gives2 w) := by
  go_enter Try.func14, Try.ntmps14
  go_wp2_with fail
  refine (l1New_any h.row h.small).mono ?_
  rintro e w0 ⟨rfl, hc0, hb0⟩
  go_wp2_with fail
  refine (l1DrawAmount_any hc0).mono ?_
  rintro e w1 ⟨x, ⟨hx, hx2⟩, rfl, hc1, hg1⟩
  go_wp2_with fail
  refine (l1Once_any _ hc1 (by omega) (by omega)).mono ?_
  rintro e w2 ⟨t, rfl, hc2, hg2⟩
  have hb2 := below_of (below_of hb0 hg1) hg2
  cases t
  · go_wp2_with fail
    refine (l1DrawAmount_any hc2).mono ?_
    rintro e w3 ⟨y, ⟨hy, hy2⟩, rfl, hc3, hg3⟩
    go_wp2
    go_ret2
    exact ⟨_, _, rfl, below_of hb2 hg3⟩
  · go_wp2_with fail
    refine (l1From_any _ _ hc2 (by omega) (by omega) (by omega)).mono ?_
    rintro e w3 ⟨y, ⟨hy, hy2⟩, rfl, hc3, hg3⟩
    go_wp2
    go_ret2
    exact ⟨_, _, rfl, below_of hb2 hg3⟩

set_option maxHeartbeats 1000000 in
theorem drawPartOf_any {a : Option Addr} {len cap : Nat} {w : World} (h : Src w a len) :
    Calls Try.prog 16 #[.slice a len cap] w (Gives2 w) := by
  go_enter Try.func16, Try.ntmps16
  go_wp2_with fail
  refine (l1New_any h.row h.small).mono ?_
  rintro e w0 ⟨rfl, hc0, hb0⟩
  go_wp2_with fail
  refine (l1DrawAmount_any hc0).mono ?_
  rintro e w1 ⟨x, ⟨hx, hx2⟩, rfl, hc1, hg1⟩
  go_wp2_with fail
  refine (l1Below_any _ hc1 (by omega) (by omega)).mono ?_
  rintro e w2 ⟨y, ⟨hy, hy2⟩, rfl, hc2, hg2⟩
  go_wp2_with fail
  refine (l1Once_any _ hc2 (by omega) (by omega)).mono ?_
  rintro e w3 ⟨t, rfl, hc3, hg3⟩
  have hb3 := below_of (below_of (below_of hb0 hg1) hg2) hg3
  have hC : w.heap.size < w3.heap.size := lt_of_cell hc3.c0
  cases t
  · go_wp2
    go_ret2
    exact ⟨_, _, rfl, hb3⟩
  · go_wp2_with fail
    refine (l1Below_any _ (hc3.kept ((Below.refl _ _).alloc (Nat.le_refl _) _)) (by omega) (by omega)).mono ?_
    rintro e w4 ⟨z, ⟨hz, hz2⟩, rfl, hc4, hg4⟩
    have hb4 : Below w.heap.size w w4 := below_of hb3 (grown_step (grown_new (grown_refl _ _) _) hg4)
    have q0 := kept_cell (b := w3.heap.size) (o := 0) hg4 (by go_simp; rfl) (by omega)
    have q1 := kept_cell (b := w3.heap.size) (o := 1) hg4 (by go_simp; rfl) (by omega)
    clear hg1 hg2 hg3 hg4
    have hx3 : z = 0 ∨ z = 1 := by omega
    rcases hx3 with rfl | rfl
    all_goals
      go_wp2
      go_ret2
      exact ⟨_, _, rfl, hb4⟩

set_option maxHeartbeats 1000000 in
theorem drawDown_any {a : Option Addr} {len cap : Nat} {w : World} (h : Src w a len) :
    Calls Try.prog 11 #[.slice a len cap] w (Gives3 w) := by
  go_enter Try.func11, Try.ntmps11
  go_wp2_with fail
  refine (l1New_any h.row h.small).mono ?_
  rintro e w0 ⟨rfl, hc0, hb0⟩
  go_wp2_with fail
  refine (l1DrawAmount_any hc0).mono ?_
  rintro e w1 ⟨x, ⟨hx, hx2⟩, rfl, hc1, hg1⟩
  go_wp2_with fail
  refine (l1DrawAmount_any hc1).mono ?_
  rintro e w2 ⟨y, ⟨hy, hy2⟩, rfl, hc2, hg2⟩
  go_wp2_with fail
  refine (l1Below_any _ hc2 (by omega) (by omega)).mono ?_
  rintro e w3 ⟨d, ⟨hd, hd2⟩, rfl, hc3, hg3⟩
  go_wp2_with fail
  refine (l1Once_any _ hc3 (by omega) (by omega)).mono ?_
  rintro e w4 ⟨t, rfl, hc4, hg4⟩
  have hb4 := below_of (below_of (below_of (below_of hb0 hg1) hg2) hg3) hg4
  have hC : w.heap.size < w4.heap.size := lt_of_cell hc4.c0
  cases t
  · go_wp2
    go_ret3
    exact ⟨_, _, _, rfl, hb4⟩
  · go_wp2_with fail
    refine (l1Below_any _ (hc4.kept ((Below.refl _ _).alloc (Nat.le_refl _) _)) (by omega) (by omega)).mono ?_
    rintro e w5 ⟨z, ⟨hz, hz2⟩, rfl, hc5, hg5⟩
    have hb5 : Below w.heap.size w w5 := below_of hb4 (grown_step (grown_new (grown_refl _ _) _) hg5)
    have q0 := kept_cell (b := w4.heap.size) (o := 0) hg5 (by go_simp; rfl) (by omega)
    have q1 := kept_cell (b := w4.heap.size) (o := 1) hg5 (by go_simp; rfl) (by omega)
    have q2 := kept_cell (b := w4.heap.size) (o := 2) hg5 (by go_simp; rfl) (by omega)
    have q3 := kept_cell (b := w4.heap.size) (o := 3) hg5 (by go_simp; rfl) (by omega)
    clear hg1 hg2 hg3 hg4 hg5
    have hx3 : z = 0 ∨ z = 1 ∨ z = 2 ∨ z = 3 := by omega
    rcases hx3 with rfl | rfl | rfl | rfl
    all_goals
      go_wp2
      go_ret3
      exact ⟨_, _, _, rfl, hb5⟩
end Go.Proofs.Ytnhnahckddiddaa
