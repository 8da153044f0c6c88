/-
  At every list of waits, every string, every number the program's Fined answers as the model's, leaves its arguments alone and gives back a list of its own: the law FnExactFined returns true and its arguments read as before. No condition.
-/
import Derived.Test.YtkdelfadmnpkhaaWaitL
import Derived.Test.YtkdelfadmnpkhaaArgWait
namespace Go.Proofs.Ytkdelfadmnpkhaa.fnExactFined
open Go.ChangeShapes Go.WideShapes Go.ChangeAt Go.RowKit
open Go.ChangeMaps (open_string shut_string)
set_option linter.unusedVariables false

set_option maxRecDepth 100000 in
set_option maxHeartbeats 8000000 in
theorem walk {w : World} {a : Option Addr} {ps : List Wai} (cap : Nat) (mill : ByteArray) (percent : Int) (z_mill : mill.size ≤ 9223372036854775807) (h : Recs Wai.cs w a ps) (hl : ps.length ≤ 9223372036854775807) (hs : ∀ p ∈ ps, p.fits) :
    Calls Try.prog 8 #[.slice a ps.length cap, .string mill, .int .i64 percent] w fun e w' => e = .returned (.bool true) ∧ Below w.heap.size w w' := by
  by_cases b_mill : mill.size ≤ 1048576
  case neg =>
    have hd : decide ((1048576 : Int) < (mill.size : Int)) = true := by simp; omega
    go_enter Try.func8, Try.ntmps8
    go_wp2
    go_ret
    exact ⟨rfl, Below.refl _ _⟩
  have hd_mill : decide ((1048576 : Int) < (mill.size : Int)) = false := by simp; omega
  have HH := Lib.hid h
  have HS := Lib.hid hs
  have HZ := Lib.hid (sized_Wait hs)
  have Z_mill := Lib.hid (show mill.size ≤ maxLen by unfold maxLen; omega)
  clear h hs
  by_cases hz : szR Wai.bytes ps 1048576 < 0
  · go_enter Try.func8, Try.ntmps8
    go_wp2_with (go_at_call 29; refine (szWaitS_any _ _ HH.out (by omega) HS.out (by omega) (by omega)).mono ?_; rintro e w' ⟨rfl, hb0⟩)
    go_ret
    exact ⟨rfl, hb0⟩
  obtain ⟨hlen, -⟩ := szR_small (by omega) hz
  have hol := finedL_le ps mill percent
  have hol2 : (finedL ps mill percent).length ≤ 1048576 := by omega
  have hme := markTo_pos 4 ps.length
  have hmo := markTo_pos 4 (finedL ps mill percent).length
  go_enter Try.func8, Try.ntmps8
  go_wp2_with fail
  refine (szWaitS_any _ _ HH.out (by omega) HS.out (by omega) (by omega)).mono ?_
  rintro e w0 ⟨rfl, hb0⟩
  have B0 := Lib.hid hb0; clear hb0
  go_wp2_with fail
  refine (toWaitS_any _ (HH.out.below B0.out) hlen).mono ?_
  rintro e w1 ⟨rfl, hs1, hb1, -⟩
  have H1 := Lib.hid hs1; have B1 := Lib.hid (below_trans B0.out hb1); clear hs1 hb1
  go_wp2_with fail
  refine (sFined_own _ _ _ H1.out (Nat.le_refl _) hlen HZ.out Z_mill.out).mono ?_
  rintro e w2 ⟨aw, cw, rfl, how, hb2, -⟩
  have HW := Lib.hid how.1; have HWO := Lib.hid (how.1.old Wai.len (by omega)); have B2 := Lib.hid (below_trans B1.out hb2); clear how hb2
  go_wp2_with fail
  refine (toWaitS_any _ (HH.out.below B2.out) hlen).mono ?_
  rintro e w3 ⟨rfl, hs3, hb3, hm3, hx3⟩
  have H3 := Lib.hid hs3; have B3 := Lib.hid (below_trans B2.out hb3); have HW3 := Lib.hid (HW.out.below hb3); have HM3 := Lib.hid hm3; clear hs3 hb3 hm3
  go_wp2_with fail
  refine (iFined_any _ _ _ H3.out (Nat.le_refl _) hlen HZ.out Z_mill.out).mono ?_
  rintro e w4 ⟨ag, cg, rfl, hog, hb4, -⟩
  have HG4 := Lib.hid hog; have B4 := Lib.hid (below_trans B3.out hb4); have HW4 := Lib.hid (HW3.out.below hb4); have HX4 := Lib.hid (H3.out.below hb4); have HM4 := Lib.hid (HM3.out.below hx3 hb4)
  have hx4 : w2.heap.size < w4.heap.size := Nat.lt_of_lt_of_le hx3 hb4.size
  clear hog hb4 HW3 H3 HM3
  go_wp2_with fail
  refine (eqWaitS_same _ _ HG4.out.1 HW4.out hol2).mono ?_
  rintro e w5 ⟨rfl, hb5⟩
  have HG5 := Lib.hid (HG4.out.below hb5); have B5 := Lib.hid (below_trans B4.out hb5); have HW5 := Lib.hid (HW4.out.below hb5); have HX5 := Lib.hid (HX4.out.below hb5); have HM5 := Lib.hid (HM4.out.below hx4 hb5)
  have hx5 : w2.heap.size < w5.heap.size := Nat.lt_of_lt_of_le hx4 hb5.size
  clear hb5 HG4 HW4 HX4 HM4
  go_wp2_with fail
  refine (toWaitS_any _ (HH.out.below B5.out) hlen).mono ?_
  rintro e w6 ⟨rfl, hs6, hb6, -⟩
  have H6 := Lib.hid hs6; have HG6 := Lib.hid (HG5.out.below hb6); have B6 := Lib.hid (below_trans B5.out hb6); have HW6 := Lib.hid (HW5.out.below hb6); have HX6 := Lib.hid (HX5.out.below hb6); have HM6 := Lib.hid (HM5.out.below hx5 hb6)
  have hx6 : w2.heap.size < w6.heap.size := Nat.lt_of_lt_of_le hx5 hb6.size
  clear hs6 hb6 HG5 HW5 HX5 HM5
  go_wp2_with fail
  refine (eqWaitS_same _ _ HX6.out H6.out hlen).mono ?_
  rintro e w7 ⟨rfl, hb7⟩
  have HG7 := Lib.hid (HG6.out.below hb7); have B7 := Lib.hid (below_trans B6.out hb7); have HW7 := Lib.hid (HW6.out.below hb7); have HM7 := Lib.hid (HM6.out.below hx6 hb7)
  have hx7 : w2.heap.size < w7.heap.size := Nat.lt_of_lt_of_le hx6 hb7.size
  clear hb7 HG6 HW6 HX6 H6 HM6
  go_wp2_with fail
  refine (markFst_Wait _ HM7.out hx7 hlen).mono ?_
  rintro e w8 ⟨rfl, hg8⟩
  have hbx : Below w2.heap.size w7 w8 := ⟨hg8.os, hg8.tape, hg8.output, hg8.size, fun i hi => hg8.block i (by omega) (by intro e; injection e with e; omega)⟩
  have HG8 := Lib.hid (HG7.out.grown hg8 hx3); have HW8 := Lib.hid (HW7.out.under Wai.len hbx HWO.out)
  have B8 := Lib.hid (B7.out.trans (hbx.mono B2.out.size)); clear hg8 hbx HG7 HW7 HM7
  go_wp2_with fail
  refine (eqWaitS_same _ _ HG8.out.1 HW8.out hol2).mono ?_
  rintro e w9 ⟨rfl, hb9⟩
  have HG9 := Lib.hid (HG8.out.below hb9); have B9 := Lib.hid (below_trans B8.out hb9); have HW9 := Lib.hid (HW8.out.below hb9); clear hb9 HG8 HW8
  go_wp2_with fail
  refine (markOwn_Wait _ HG9.out hol2).mono ?_
  rintro e wa ⟨rfl, hpa, hba⟩
  have HGa := Lib.hid hpa; have HWa := Lib.hid (HW9.out.under Wai.len hba (fun b off e hl => Nat.lt_of_lt_of_le (HWO.out b off e hl) (by omega)))
  have Ba := Lib.hid (B9.out.trans (hba.mono B3.out.size)); clear hpa hba HG9 HW9
  go_wp2_with fail
  refine (heldOwn_Wait _ HGa.out hol2).mono ?_
  rintro e wb ⟨rfl, hbb⟩
  have HGb := Lib.hid (HGa.out.below hbb); have HWb := Lib.hid (HWa.out.below hbb); have Bb := Lib.hid (below_trans Ba.out hbb); clear hbb HGa HWa
  go_wp2_with fail
  refine (toWaitS_any _ (HH.out.below Bb.out) hlen).mono ?_
  rintro e wc ⟨rfl, hsc, hbc, -⟩
  have Hc := Lib.hid hsc; have HGc := Lib.hid (HGb.out.below hbc); have HWc := Lib.hid (HWb.out.below hbc); have Bc := Lib.hid (below_trans Bb.out hbc); clear hsc hbc HGb HWb
  go_wp2_with fail
  refine (iFined_any _ _ _ Hc.out (Nat.le_refl _) hlen HZ.out Z_mill.out).mono ?_
  rintro e wd ⟨ah, ch, rfl, hoh, hbd, -⟩
  have Hh := Lib.hid hoh.1; have HGd := Lib.hid (HGc.out.below hbd); have HWd := Lib.hid (HWc.out.below hbd); have Bd := Lib.hid (below_trans Bc.out hbd); clear hoh hbd HGc HWc Hc
  go_wp2_with fail
  refine (eqWaitS_same _ _ Hh.out HWd.out hol2).mono ?_
  rintro e we ⟨rfl, hbe⟩
  have HGe := Lib.hid (HGd.out.below hbe); have Be := Lib.hid (below_trans Bd.out hbe); clear hbe HGd HWd Hh
  go_wp2_with fail
  refine (heldOwn_Wait _ HGe.out hol2).mono ?_
  rintro e wf ⟨rfl, hbf⟩
  have Bf := Lib.hid (below_trans Be.out hbf); clear hbf
  go_wp2
  go_ret
  exact ⟨rfl, Bf.out⟩

set_option maxRecDepth 100000 in
theorem lifted (os : Os) (started : os.Started) (H : Type) (enc : TypeId × Value → H) :
    ReturnsInHanded {} Try.checked os 8 .any (Rows.fnExactFinedSpec.pre6 enc Try.prog Try.f8 Rows.fnExactFinedRow.domain false) (Rows.fnExactFinedSpec.post enc Try.prog Try.f8 false true false false) := by
  refine returnsInHanded_of_change (C := Try.checked) ownKnobNone started (by kernel_rfl) Try.func8
    (ChangeSpec.witness6 (enc := enc) (C := Try.checked) false ⟨#[], #[.slice none 0 0, .string ByteArray.empty, .int .i64 0], []⟩ 8 (by kernel_rfl) (by kernel_rfl) (by kernel_rfl) (by kernel_rfl)) ?_
  intro W base args ds gs before hval0 hW hcnd _
  have hval : ∀ (j : Nat) t v, Try.f8.params[j]? = some t → args[j]? = some v → Value.okWide Try.prog W .any base t v := hval0
  have hW' := hW
  obtain ⟨p, q, hA0, hV, rfl, hfz, hnd⟩ := hW
  have hA : DataW.TrodAll enc Try.prog W 0 (fun _ => true) true Try.f8.params.toList args.toList ds p := hA0
  rw [Try.params8] at hA hval
  obtain ⟨v0, vs0, d0, ds0, p0, q0, hargs, rfl, rfl, h0, r0⟩ := trodAll_cons hA
  obtain ⟨v1, vs1, d1, ds1, p1, q1, rfl, rfl, rfl, h1, r1⟩ := trodAll_cons r0
  obtain ⟨v2, vs2, d2, ds2, p2, q2, rfl, rfl, rfl, h2, r2⟩ := trodAll_cons r1
  obtain ⟨rfl, rfl, rfl⟩ := trodAll_nil r2
  obtain rfl : args = #[v0, v1, v2] := by cases args; simp_all
  obtain ⟨rfl, rfl⟩ := trodVars_none hV
  have lt0 : ∀ x ∈ p0, x.block < W.heap.size := by obtain ⟨m, hm⟩ := h0; exact DataW.trod_lt m _ _ _ hm
  have lt1 : ∀ x ∈ p1, x.block < W.heap.size := by obtain ⟨m, hm⟩ := h1; exact DataW.trod_lt m _ _ _ hm
  have lt2 : ∀ x ∈ p2, x.block < W.heap.size := by obtain ⟨m, hm⟩ := h2; exact DataW.trod_lt m _ _ _ hm
  have o0 := hval 0 44 v0 rfl rfl
  have o1 := hval 1 9 v1 rfl rfl
  have o2 := hval 2 2 v2 rfl rfl
  clear hA0 hval0 hval
  have hwalk : Calls Try.prog 8 #[v0, v1, v2] W fun e w' => e = .returned (.bool true) ∧ Below W.heap.size W w' := by
    clear hW' hfz hnd hcnd lt0 lt1 lt2
    obtain ⟨a, cap, ps, rfl, hst, hl, hs⟩ := arg_Waits o0 h0
    obtain ⟨mill, rfl, -, -, z_mill⟩ := open_string Try.underlying9 o1 h1
    obtain ⟨percent, rfl, -, -, -⟩ := open_int Try.underlying2 o2 h2
    exact walk cap mill percent z_mill hst hl hs
  refine hwalk.mono fun e W' ⟨he, bel⟩ => ?_
  subst he
  exact ⟨_, rfl, _, _, _, [], _, [], hW', trodAll_mk1 (shut_bool Try.underlying4 _), (trodAll_cons_mk (Below.trod laidOut (by kernel_rfl) (of_decide_eq_true (by kernel_rfl)) h0 bel lt0) (trodAll_cons_mk (Below.trod laidOut (by kernel_rfl) (of_decide_eq_true (by kernel_rfl)) h1 bel lt1) (trodAll_cons_mk (Below.trod laidOut (by kernel_rfl) (of_decide_eq_true (by kernel_rfl)) h2 bel lt2) trodAll_mk0))), rfl, bel.frame _, fun h => by cases h⟩

theorem over : Rows.fnExactFinedRow.holds Try.pinned (OpenSpec.ofChange Rows.fnExactFinedSpec) :=
  OpenClaim.holds_of_wide 8 Try.f8 rfl rfl rfl rfl rfl rfl rfl ⟨rfl, rfl, rfl, rfl, rfl⟩ rfl rfl rfl rfl rfl (by kernel_rfl) Try.func8 (by kernel_rfl)
    (of_decide_eq_true (by kernel_rfl)) (by unfold Func.isWrapper; first | (rw [if_pos (by decide +kernel)]; kernel_rfl) | (rw [if_neg (by decide +kernel)]; exact ⟨rfl, rfl⟩))
    (fun os started H enc _ => lifted os started H enc)

/-- THE STATEMENT -/
theorem proved : Rows.FnExactFinedSaid := over
#print axioms proved
end Go.Proofs.Ytkdelfadmnpkhaa.fnExactFined
