/-
  What the draws of chapter 1 return: numbers, whatever the bytes; nothing that was there turns.
-/
import Derived.Test.YtdpiepddafpceaaDraw
namespace Go.Proofs.Ytdpiepddafpceaa
open Go.ChangeShapes Go.WideShapes Go.ChangeAt Go.RowKit

set_option maxHeartbeats 1000000 in
theorem l1DrawAmount_any {C : Nat} {a : Option Addr} {len cap : Nat} {w : World} (h : Cur w C a len cap) :
    Calls Try.prog 39 #[.pointer (some ⟨C, 0, none⟩)] w (Drawn C a len cap (fun x => -1 ≤ x ∧ x ≤ 1000001) w) := by
  go_enter Try.func39, Try.ntmps39
  go_wp2_with fail
  refine (l1Once_any _ h (by omega) (by omega)).mono ?_
  rintro e w1 ⟨t, rfl, hc1, hg1⟩
  have hC : C < w1.heap.size := lt_of_cell hc1.c0
  cases t
  · go_wp2_with fail
    refine (l1Below_any _ hc1 (by omega) (by omega)).mono ?_
    rintro e w2 ⟨x, ⟨hx, hx2⟩, rfl, hc2, hg2⟩
    go_wp2
    go_ret
    exact ⟨_, ⟨by omega, by omega⟩, rfl, hc2, grown_step hg1 hg2⟩
  · go_wp2_with fail
    refine (l1Below_any _ (hc1.kept ((Below.refl _ _).alloc (Nat.le_refl _) _)) (by omega) (by omega)).mono ?_
    rintro e w2 ⟨x, ⟨hx, hx2⟩, rfl, hc2, hg2⟩
    have hg : w.grownBy w2 (some C) := grown_step hg1 (grown_step (grown_new (grown_refl _ _) _) hg2)
    have q0 := kept_cell (b := w1.heap.size) (o := 0) hg2 (by go_simp; rfl) (by omega)
    have q1 := kept_cell (b := w1.heap.size) (o := 1) hg2 (by go_simp; rfl) (by omega)
    have q2 := kept_cell (b := w1.heap.size) (o := 2) hg2 (by go_simp; rfl) (by omega)
    have q3 := kept_cell (b := w1.heap.size) (o := 3) hg2 (by go_simp; rfl) (by omega)
    clear hg1 hg2
    have hx3 : x = 0 ∨ x = 1 ∨ x = 2 ∨ x = 3 := by omega
    rcases hx3 with rfl | rfl | rfl | rfl
    all_goals
      go_wp2
      go_ret
      exact ⟨_, ⟨by omega, by omega⟩, rfl, hc2, hg⟩

def Gives1 (w : World) (e : Ending) (w' : World) : Prop := ∃ a : Int, e = .returned (.int .i64 a) ∧ Below w.heap.size w w'
def Gives2 (w : World) (e : Ending) (w' : World) : Prop := ∃ a b : Int, e = .returned (.tuple #[.int .i64 a, .int .i64 b]) ∧ Below w.heap.size w w'
def Gives3 (w : World) (e : Ending) (w' : World) : Prop := ∃ a b c : Int, e = .returned (.tuple #[.int .i64 a, .int .i64 b, .int .i64 c]) ∧ Below w.heap.size w w'
end Go.Proofs.Ytdpiepddafpceaa
