/-
  What the program's comparison of two parts answers, and the world behind it.
-/
import Derived.Test.YtpmibegfpfjdgaaCmpPart
import Derived.StillTailTactics
namespace Go.Proofs.Ytpmibegfpfjdgaa
open Go.ChangeShapes Go.WideShapes Go.ChangeAt Go.RowKit
open Go.Shelf Go.Lib Go.Sort

set_option maxHeartbeats 4000000 in
set_option maxRecDepth 100000 in
theorem iBy_any (p q : Par) (W : World) :
    Calls Try.prog 59 #[.agg #[.string p.who, .string p.mill, .int .i64 p.shares], .agg #[.string q.who, .string q.mill, .int .i64 q.shares]] W fun e w' => e = .returned (.int .i64 (cmpP p q)) ∧ ∃ n os, w' = grow (W.drewN n) os := by
  have HN : Hid (cmpP p q = orI (cmpS p.who q.who) (cmpS p.mill q.mill)) := rfl
  obtain ⟨x, HX⟩ : ∃ x, Hid (cmpS p.who q.who = x) := ⟨_, Lib.hid rfl⟩
  obtain ⟨y, HY⟩ : ∃ y, Hid (cmpS p.mill q.mill = y) := ⟨_, Lib.hid rfl⟩
  have hc1 : ∀ W', Calls Try.prog 66 #[.string p.who, .string q.who] W' fun e w' => e = .returned (.int .i64 x) ∧ w' = W' := fun W' => by rw [← HX.out]; exact (iCompare_any _ _ _).mono fun _ _ h => ⟨h.1, h.2.symm⟩
  have hc2 : ∀ W', Calls Try.prog 66 #[.string p.mill, .string q.mill] W' fun e w' => e = .returned (.int .i64 y) ∧ w' = W' := fun W' => by rw [← HY.out]; exact (iCompare_any _ _ _).mono fun _ _ h => ⟨h.1, h.2.symm⟩
  rw [HX.out, HY.out] at HN
  have HC1 := Lib.hid hc1
  have HC2 := Lib.hid hc2
  clear hc1 hc2 HX HY
  go_enter Try.func59, Try.ntmps59
  go_wp2_with fail
  obtain ⟨W2, hW2⟩ : ∃ W2, (W.alloc (.cells #[.string p.who, .string p.mill, .int .i64 p.shares] 37)).alloc (.cells #[.string q.who, .string q.mill, .int .i64 q.shares] 37) = W2 := ⟨_, rfl⟩
  have hp := (RecAt.new Par.cs W p 37).below (below_new _ (.cells #[.string q.who, .string q.mill, .int .i64 q.shares] 37))
  have hq := RecAt.new Par.cs (W.alloc (.cells #[.string p.who, .string p.mill, .int .i64 p.shares] 37)) q 37
  have hsz : (W.alloc (.cells #[.string p.who, .string p.mill, .int .i64 p.shares] 37)).heap.size = W.heap.size + 1 := by simp
  have c0 : W2.cell? ⟨W.heap.size, 0, none⟩ = some (.string p.who) := by rw [← hW2]; exact hp 0 _ rfl
  have c1 : W2.cell? ⟨W.heap.size, 1, none⟩ = some (.string p.mill) := by rw [← hW2]; exact hp 1 _ rfl
  have c2 : W2.cell? ⟨W.heap.size + 1, 0, none⟩ = some (.string q.who) := by rw [← hW2, ← hsz]; exact hq 0 _ rfl
  have c3 : W2.cell? ⟨W.heap.size + 1, 1, none⟩ = some (.string q.mill) := by rw [← hW2, ← hsz]; exact hq 1 _ rfl
  clear hp hq hsz
  have HE : Hid (∃ os, W2 = grow W os) := ⟨_, by rw [← hW2, alloc_eq_grow, alloc_eq_grow, grow_grow]⟩
  rw [hW2]
  clear hW2
  refine wp_region_still_tail 10 (by kernel_rfl) (by kernel_rfl) ?_
  simp only [List.take_succ_cons, List.take_zero, List.drop_succ_cons, List.drop_zero]
  change wpStill _ _ W2.drew _ _ _
  still_step
  still_step
  still_step
  still_step
  still_call (HC1.out _)
  still_step
  still_step
  still_step
  still_step
  still_call (HC2.out _)
  refine wpStill_nil ?_
  go_wp2_with (go_at_call 65; refine (iOr_any x y (by go_simp) (by go_simp)).mono ?_; rintro e w' ⟨rfl, rfl⟩)
  go_ret
  obtain ⟨os, hos⟩ := HE.out
  exact ⟨by rw [HN.out]; rfl, 1, _, by rw [hos, alloc_eq_grow]; exact grow_grow (W.drewN 1) os _⟩
end Go.Proofs.Ytpmibegfpfjdgaa
