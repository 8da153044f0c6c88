/-
  At every two mills the program's Cheaper answers as the model's: the law FnExactCheaper returns true and its arguments read as before. No condition.
-/
import Derived.Test.YtdpiepddafpceaaMillI
import Derived.Test.YtdpiepddafpceaaArgMill
namespace Go.Proofs.Ytdpiepddafpceaa.fnExactCheaper
open Go.ChangeShapes Go.WideShapes Go.ChangeAt Go.RowKit
open Go.ChangeMaps (open_string shut_string)
set_option linter.unusedVariables false

theorem left_bd {m : Mil} {l : Int} (h0 : 0 ≤ l) (h1 : l ≤ 1048576) (h : ¬ m.left l < 0) : 0 ≤ m.left l ∧ m.left l ≤ 1048576 := by
  unfold Mil.left at h ⊢
  split
  · omega
  · rename_i hn; rw [if_neg hn] at h; omega

set_option maxHeartbeats 2000000 in
theorem walk {w : World} (x y : Mil) (hsx : x.fits) (hsy : y.fits) :
    Calls Try.prog 11 #[.agg #[.string x.name, .int .i64 x.stake, .int .i64 x.shares, .int .i64 x.cut, .bool x.shut], .agg #[.string y.name, .int .i64 y.stake, .int .i64 y.shares, .int .i64 y.cut, .bool y.shut]] w fun e w' => e = .returned (.bool true) ∧ Below w.heap.size w w' := by
  have HSX := Lib.hid hsx
  have HSY := Lib.hid hsy
  have HZX := Lib.hid (show x.name.size ≤ maxLen from by have : x.name.size ≤ 9223372036854775807 := hsx; unfold maxLen; omega)
  have HZY := Lib.hid (show y.name.size ≤ maxLen from by have : y.name.size ≤ 9223372036854775807 := hsy; unfold maxLen; omega)
  clear hsx hsy
  have rx := RecAt.new Mil.cs w x 40
  have bx := below_new w (.cells x.cs.toArray 40)
  have ry := RecAt.new Mil.cs (w.alloc (.cells x.cs.toArray 40)) y 40
  have by_ := below_new (w.alloc (.cells x.cs.toArray 40)) (.cells y.cs.toArray 40)
  have RX := Lib.hid (rx.below by_)
  have RY := Lib.hid ry
  have BB := Lib.hid (below_trans bx by_)
  clear rx ry bx by_
  go_enter Try.func11, Try.ntmps11
  go_wp2_with fail
  refine (szMill_any _ _ _ _ _ _ _ HSX.out (by omega) (by omega)).mono ?_
  rintro e w0 ⟨rfl, hb0⟩
  have RX0 := Lib.hid (RX.out.below hb0); have RY0 := Lib.hid (show RecAt Mil.cs w0 (w.heap.size + 1) y from by have := RY.out.below hb0; simpa using this); have B0 := Lib.hid (below_trans BB.out hb0)
  clear hb0 RX RY BB
  by_cases hz : Mil.left ⟨x.name, x.stake, x.shares, x.cut, x.shut⟩ 1048576 < 0
  · go_wp2
    go_ret
    exact ⟨rfl, B0.out⟩
  have hl := left_bd (by omega) (by omega) hz
  obtain ⟨hl1, hl2⟩ := hl
  have y0 := RY0.out 0 _ rfl
  have y1 := RY0.out 1 _ rfl
  have y2 := RY0.out 2 _ rfl
  have y3 := RY0.out 3 _ rfl
  have y4 := RY0.out 4 _ rfl
  go_wp2_with fail
  refine (szMill_any _ _ _ _ _ _ _ HSY.out hl1 hl2).mono ?_
  rintro e w1 ⟨rfl, hb1⟩
  have RX1 := Lib.hid (RX0.out.below hb1); have RY1 := Lib.hid (RY0.out.below hb1); have B1 := Lib.hid (below_trans B0.out hb1)
  clear hb1 RX0 RY0 y0 y1 y2 y3 y4
  by_cases hz2 : Mil.left ⟨y.name, y.stake, y.shares, y.cut, y.shut⟩ (Mil.left ⟨x.name, x.stake, x.shares, x.cut, x.shut⟩ 1048576) < 0
  · go_wp2
    go_ret
    exact ⟨rfl, B1.out⟩
  have x0 := Grow.cell (RX1.out 0 _ rfl)
  have x1 := Grow.cell (RX1.out 1 _ rfl)
  have x2 := Grow.cell (RX1.out 2 _ rfl)
  have x3 := Grow.cell (RX1.out 3 _ rfl)
  have x4 := Grow.cell (RX1.out 4 _ rfl)
  have y0 := Grow.cell (RY1.out 0 _ rfl)
  have y1 := Grow.cell (RY1.out 1 _ rfl)
  have y2 := Grow.cell (RY1.out 2 _ rfl)
  have y3 := Grow.cell (RY1.out 3 _ rfl)
  have y4 := Grow.cell (RY1.out 4 _ rfl)
  go_wp2
  refine wp_region_grow (by kernel_rfl) (by kernel_rfl) ?_
  repeat (go_big_quiet_step (first | (go_at_call 32; exact grow_call rfl (toMill_any _ _ _ _ _ _)) | (go_at_call 20; exact grow_call rfl (sCheaper_any x y _ HZX.out HZY.out))))
  refine wpQuiet_nil ?_
  intro _ hw'
  obtain ⟨gq, rfl⟩ := hw'
  have RX2 := Lib.hid (RX1.out.below gq.ok); have RY2 := Lib.hid (RY1.out.below gq.ok); have B2 := Lib.hid (below_trans B1.out gq.ok)
  clear RX1 RY1 x0 x1 x2 x3 x4 y0 y1 y2 y3 y4
  have x0 := Grow.cell (RX2.out 0 _ rfl)
  have x1 := Grow.cell (RX2.out 1 _ rfl)
  have x2 := Grow.cell (RX2.out 2 _ rfl)
  have x3 := Grow.cell (RX2.out 3 _ rfl)
  have x4 := Grow.cell (RX2.out 4 _ rfl)
  have y0 := Grow.cell (RY2.out 0 _ rfl)
  have y1 := Grow.cell (RY2.out 1 _ rfl)
  have y2 := Grow.cell (RY2.out 2 _ rfl)
  have y3 := Grow.cell (RY2.out 3 _ rfl)
  have y4 := Grow.cell (RY2.out 4 _ rfl)
  go_wp2
  refine wp_region_grow (by kernel_rfl) (by kernel_rfl) ?_
  repeat (go_big_quiet_step (first | (go_at_call 32; exact grow_call rfl (toMill_any _ _ _ _ _ _)) | (go_at_call 19; exact grow_call rfl (iCheaper_any x y _ HZX.out HZY.out))))
  refine wpQuiet_nil ?_
  intro _ hw'
  obtain ⟨gr, rfl⟩ := hw'
  have B3 := Lib.hid (below_trans B2.out gr.ok)
  go_wp2
  go_ret
  exact ⟨rfl, B3.out⟩

set_option maxRecDepth 100000 in
theorem lifted (os : Os) (started : os.Started) (H : Type) (enc : TypeId × Value → H) :
    ReturnsInHanded {} Try.checked os 11 .any (Rows.fnExactCheaperSpec.pre6 enc Try.prog Try.f11 Rows.fnExactCheaperRow.domain false) (Rows.fnExactCheaperSpec.post enc Try.prog Try.f11 false true false false) := by
  refine returnsInHanded_of_change (C := Try.checked) ownKnobNone started (by kernel_rfl) Try.func11
    (ChangeSpec.witness6 (enc := enc) (C := Try.checked) false ⟨#[], #[.agg #[.string ByteArray.empty, .int .i64 0, .int .i64 0, .int .i64 0, .bool false], .agg #[.string ByteArray.empty, .int .i64 0, .int .i64 0, .int .i64 0, .bool false]], []⟩ 8 (by kernel_rfl) (by kernel_rfl) (by kernel_rfl) (by kernel_rfl)) ?_
  intro W base args ds gs before hval0 hW hcnd _
  have hval : ∀ (j : Nat) t v, Try.f11.params[j]? = some t → args[j]? = some v → Value.okWide Try.prog W .any base t v := hval0
  have hW' := hW
  obtain ⟨p, q, hA0, hV, rfl, hfz, hnd⟩ := hW
  have hA : DataW.TrodAll enc Try.prog W 0 (fun _ => true) true Try.f11.params.toList args.toList ds p := hA0
  rw [Try.params11] at hA hval
  obtain ⟨v0, vs0, d0, ds0, p0, q0, hargs, rfl, rfl, h0, r0⟩ := trodAll_cons hA
  obtain ⟨v1, vs1, d1, ds1, p1, q1, rfl, rfl, rfl, h1, r1⟩ := trodAll_cons r0
  obtain ⟨rfl, rfl, rfl⟩ := trodAll_nil r1
  obtain rfl : args = #[v0, v1] := by cases args; simp_all
  obtain ⟨rfl, rfl⟩ := trodVars_none hV
  have lt0 : ∀ x ∈ p0, x.block < W.heap.size := by obtain ⟨m, hm⟩ := h0; exact DataW.trod_lt m _ _ _ hm
  have lt1 : ∀ x ∈ p1, x.block < W.heap.size := by obtain ⟨m, hm⟩ := h1; exact DataW.trod_lt m _ _ _ hm
  have o0 := hval 0 40 v0 rfl rfl
  have o1 := hval 1 40 v1 rfl rfl
  clear hA0 hval0 hval
  have hwalk : Calls Try.prog 11 #[v0, v1] W fun e w' => e = .returned (.bool true) ∧ Below W.heap.size W w' := by
    clear hW' hfz hnd hcnd lt0 lt1
    obtain ⟨x, rfl, hx⟩ := arg_Mill o0 h0
    obtain ⟨y, rfl, hy⟩ := arg_Mill o1 h1
    exact walk x y hx hy
  refine hwalk.mono fun e W' ⟨he, bel⟩ => ?_
  subst he
  exact ⟨_, rfl, _, _, _, [], _, [], hW', trodAll_mk1 (shut_bool Try.underlying4 _), (trodAll_cons_mk (Below.trod laidOut (by kernel_rfl) (of_decide_eq_true (by kernel_rfl)) h0 bel lt0) (trodAll_cons_mk (Below.trod laidOut (by kernel_rfl) (of_decide_eq_true (by kernel_rfl)) h1 bel lt1) trodAll_mk0)), rfl, bel.frame _, fun h => by cases h⟩

theorem over : Rows.fnExactCheaperRow.holds Try.pinned (OpenSpec.ofChange Rows.fnExactCheaperSpec) :=
  OpenClaim.holds_of_wide 11 Try.f11 rfl rfl rfl rfl rfl rfl rfl ⟨rfl, rfl, rfl, rfl, rfl⟩ rfl rfl rfl rfl rfl (by kernel_rfl) Try.func11 (by kernel_rfl)
    (of_decide_eq_true (by kernel_rfl)) (by unfold Func.isWrapper; first | (rw [if_pos (by decide +kernel)]; kernel_rfl) | (rw [if_neg (by decide +kernel)]; exact ⟨rfl, rfl⟩))
    (fun os started H enc _ => lifted os started H enc)

/-- THE STATEMENT -/
theorem proved : Rows.FnExactCheaperSaid := over
#print axioms proved
end Go.Proofs.Ytdpiepddafpceaa.fnExactCheaper
