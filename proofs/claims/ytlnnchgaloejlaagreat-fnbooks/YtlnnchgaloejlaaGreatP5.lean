/-
  Texts joined: All.
-/
import Derived.Test.YtlnnchgaloejlaaGreatP2
import Derived.LoopN
namespace Go.Proofs.YtlnnchgaloejlaaGreat
open Go.ChangeShapes Go.WideShapes Go.ChangeAt Go.RowKit
set_option maxHeartbeats 1000000 in
set_option maxRecDepth 100000 in
theorem allOf_any (lim x y z : Int) (B : Nat) (w : World)
    (h0 : w.cell? ⟨B, 0, none⟩ = some (.int .i64 x)) (h1 : w.cell? ⟨B, 1, none⟩ = some (.int .i64 y)) (h2 : w.cell? ⟨B, 2, none⟩ = some (.int .i64 z)) :
    Calls Tryz.prog 60 #[.func (Fn.func 59) #[.int .i64 lim] #[], .slice (some ⟨B, 0, none⟩) 3 3] w fun e w' => e = .returned (.bool (inB 0 lim x && (inB 0 lim y && inB 0 lim z))) ∧ w = w' := by
  cases hx : inB 0 lim x
  · go_enter Tryz.func60, Tryz.ntmps60
    go_wp2
    refine wp_loop_rounds 4 ?_
    rw [rounds_succ]
    go_wp2_with (go_at_call 59; refine (within_any _ _ _).mono ?_; rintro e w' ⟨rfl, rfl⟩; rw [hx])
    go_ret
    exact ⟨rfl, rfl⟩
  · cases hy : inB 0 lim y
    · go_enter Tryz.func60, Tryz.ntmps60
      go_wp2
      refine wp_loop_rounds 4 ?_
      rw [rounds_succ]
      go_wp2_with (go_at_call 59; refine (within_any _ _ _).mono ?_; rintro e w' ⟨rfl, rfl⟩; rw [hx])
      rw [rounds_succ]
      go_wp2_with (go_at_call 59; refine (within_any _ _ _).mono ?_; rintro e w' ⟨rfl, rfl⟩; rw [hy])
      go_ret
      exact ⟨rfl, rfl⟩
    · cases hz : inB 0 lim z
      · go_enter Tryz.func60, Tryz.ntmps60
        go_wp2
        refine wp_loop_rounds 4 ?_
        rw [rounds_succ]
        go_wp2_with (go_at_call 59; refine (within_any _ _ _).mono ?_; rintro e w' ⟨rfl, rfl⟩; rw [hx])
        rw [rounds_succ]
        go_wp2_with (go_at_call 59; refine (within_any _ _ _).mono ?_; rintro e w' ⟨rfl, rfl⟩; rw [hy])
        rw [rounds_succ]
        go_wp2_with (go_at_call 59; refine (within_any _ _ _).mono ?_; rintro e w' ⟨rfl, rfl⟩; rw [hz])
        go_ret
        exact ⟨rfl, rfl⟩
      · go_enter Tryz.func60, Tryz.ntmps60
        go_wp2
        refine wp_loop_rounds 4 ?_
        rw [rounds_succ]
        go_wp2_with (go_at_call 59; refine (within_any _ _ _).mono ?_; rintro e w' ⟨rfl, rfl⟩; rw [hx])
        rw [rounds_succ]
        go_wp2_with (go_at_call 59; refine (within_any _ _ _).mono ?_; rintro e w' ⟨rfl, rfl⟩; rw [hy])
        rw [rounds_succ]
        go_wp2_with (go_at_call 59; refine (within_any _ _ _).mono ?_; rintro e w' ⟨rfl, rfl⟩; rw [hz])
        rw [rounds_succ]
        go_wp2
        go_ret
        exact ⟨rfl, rfl⟩
end Go.Proofs.YtlnnchgaloejlaaGreat
