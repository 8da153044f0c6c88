/-
  At every list of waits the program's AmountIn answers as the model's and leaves its arguments alone: the law FnExactAmountIn returns true and its arguments read as before. No condition.
-/
import Derived.Test.YtkdelfadmnpkhaaWaitK
import Derived.Test.YtkdelfadmnpkhaaArgWait
namespace Go.Proofs.Ytkdelfadmnpkhaa.fnExactAmountIn
open Go.ChangeShapes Go.WideShapes Go.ChangeAt Go.RowKit
open Go.ChangeMaps (open_string shut_string)
set_option linter.unusedVariables false

set_option maxRecDepth 100000 in
set_option maxHeartbeats 8000000 in
theorem walk {w : World} {a : Option Addr} {ps : List Wai} (cap : Nat)   (h : Recs Wai.cs w a ps) (hl : ps.length ≤ 9223372036854775807) (hs : ∀ p ∈ ps, p.fits) :
    Calls Try.prog 10 #[.slice a ps.length cap] w fun e w' => e = .returned (.bool true) ∧ Below w.heap.size w w' := by
  have HH := Lib.hid h
  have HS := Lib.hid hs
  have HZ := Lib.hid (sized_Wait hs)
  clear h hs
  by_cases hz : szR Wai.bytes ps 1048576 < 0
  · go_enter Try.func10, Try.ntmps10
    go_wp2_with (go_at_call 29; refine (szWaitS_any _ _ HH.out (by omega) HS.out (by omega) (by omega)).mono ?_; rintro e w' ⟨rfl, hb0⟩)
    go_ret
    exact ⟨rfl, hb0⟩
  obtain ⟨hlen, -⟩ := szR_small (by omega) hz
  go_enter Try.func10, Try.ntmps10
  go_wp2_with fail
  refine (szWaitS_any _ _ HH.out (by omega) HS.out (by omega) (by omega)).mono ?_
  rintro e w0 ⟨rfl, hb0⟩
  have B0 := Lib.hid hb0; clear hb0
  go_wp2_with fail
  refine (toWaitS_any _ (HH.out.below B0.out) hlen).mono ?_
  rintro e w1 ⟨rfl, hs1, hb1, -⟩
  have H1 := Lib.hid hs1; have B1 := Lib.hid (below_trans B0.out hb1); clear hs1 hb1
  go_wp2_with fail
  refine (sAmountIn_any _ H1.out (by omega) HZ.out).mono ?_
  rintro e w2 ⟨rfl, hb2⟩
  have B2 := Lib.hid (below_trans B1.out hb2); clear hb2
  go_wp2_with fail
  refine (toWaitS_any _ (HH.out.below B2.out) hlen).mono ?_
  rintro e w3 ⟨rfl, hs3, hb3, -⟩
  have H3 := Lib.hid hs3; have B3 := Lib.hid (below_trans B2.out hb3); clear hs3 hb3
  go_wp2_with fail
  refine (iAmountIn_any _ H3.out (by omega) HZ.out).mono ?_
  rintro e w4 ⟨rfl, hb4⟩
  have H4 := Lib.hid (H3.out.below hb4); have B4 := Lib.hid (below_trans B3.out hb4); clear hb4
  go_wp2_with fail
  refine (toWaitS_any _ (HH.out.below B4.out) hlen).mono ?_
  rintro e w5 ⟨rfl, hs5, hb5, -⟩
  have H5 := Lib.hid hs5; have H4' := Lib.hid (H4.out.below hb5); have B5 := Lib.hid (below_trans B4.out hb5); clear hs5 hb5
  go_wp2_with fail
  refine (eqWaitS_same _ _ H4'.out H5.out hlen).mono ?_
  rintro e w6 ⟨rfl, hb6⟩
  have B6 := Lib.hid (below_trans B5.out hb6); clear hb6
  go_wp2
  go_ret
  exact ⟨rfl, B6.out⟩

set_option maxRecDepth 100000 in
theorem lifted (os : Os) (started : os.Started) (H : Type) (enc : TypeId × Value → H) :
    ReturnsInHanded {} Try.checked os 10 .any (Rows.fnExactAmountInSpec.pre6 enc Try.prog Try.f10 Rows.fnExactAmountInRow.domain false) (Rows.fnExactAmountInSpec.post enc Try.prog Try.f10 false true false false) := by
  refine returnsInHanded_of_change (C := Try.checked) ownKnobNone started (by kernel_rfl) Try.func10
    (ChangeSpec.witness6 (enc := enc) (C := Try.checked) false ⟨#[], #[.slice none 0 0], []⟩ 8 (by kernel_rfl) (by kernel_rfl) (by kernel_rfl) (by kernel_rfl)) ?_
  intro W base args ds gs before hval0 hW hcnd _
  have hval : ∀ (j : Nat) t v, Try.f10.params[j]? = some t → args[j]? = some v → Value.okWide Try.prog W .any base t v := hval0
  have hW' := hW
  obtain ⟨p, q, hA0, hV, rfl, hfz, hnd⟩ := hW
  have hA : DataW.TrodAll enc Try.prog W 0 (fun _ => true) true Try.f10.params.toList args.toList ds p := hA0
  rw [Try.params10] at hA hval
  obtain ⟨v0, vs0, d0, ds0, p0, q0, hargs, rfl, rfl, h0, r0⟩ := trodAll_cons hA
  obtain ⟨rfl, rfl, rfl⟩ := trodAll_nil r0
  obtain rfl : args = #[v0] := by cases args; simp_all
  obtain ⟨rfl, rfl⟩ := trodVars_none hV
  have lt0 : ∀ x ∈ p0, x.block < W.heap.size := by obtain ⟨m, hm⟩ := h0; exact DataW.trod_lt m _ _ _ hm
  have o0 := hval 0 44 v0 rfl rfl
  clear hA0 hval0 hval
  have hwalk : Calls Try.prog 10 #[v0] W fun e w' => e = .returned (.bool true) ∧ Below W.heap.size W w' := by
    clear hW' hfz hnd hcnd lt0
    obtain ⟨a, cap, ps, rfl, hst, hl, hs⟩ := arg_Waits o0 h0
    exact walk cap   hst hl hs
  refine hwalk.mono fun e W' ⟨he, bel⟩ => ?_
  subst he
  exact ⟨_, rfl, _, _, _, [], _, [], hW', trodAll_mk1 (shut_bool Try.underlying4 _), (trodAll_cons_mk (Below.trod laidOut (by kernel_rfl) (of_decide_eq_true (by kernel_rfl)) h0 bel lt0) trodAll_mk0), rfl, bel.frame _, fun h => by cases h⟩

theorem over : Rows.fnExactAmountInRow.holds Try.pinned (OpenSpec.ofChange Rows.fnExactAmountInSpec) :=
  OpenClaim.holds_of_wide 10 Try.f10 rfl rfl rfl rfl rfl rfl rfl ⟨rfl, rfl, rfl, rfl, rfl⟩ rfl rfl rfl rfl rfl (by kernel_rfl) Try.func10 (by kernel_rfl)
    (of_decide_eq_true (by kernel_rfl)) (by unfold Func.isWrapper; first | (rw [if_pos (by decide +kernel)]; kernel_rfl) | (rw [if_neg (by decide +kernel)]; exact ⟨rfl, rfl⟩))
    (fun os started H enc _ => lifted os started H enc)

/-- THE STATEMENT -/
theorem proved : Rows.FnExactAmountInSaid := over
#print axioms proved
end Go.Proofs.Ytkdelfadmnpkhaa.fnExactAmountIn
