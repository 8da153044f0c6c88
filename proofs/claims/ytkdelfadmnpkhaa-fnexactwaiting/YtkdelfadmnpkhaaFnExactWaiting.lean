/-
  At every list of what waits and every one the program's Waiting answers as the model's, leaves its arguments alone and gives back a list of its own: the law FnExactWaiting returns true and its arguments read as before. No condition.
-/
import Derived.Test.YtkdelfadmnpkhaaWaitI
import Derived.Test.YtkdelfadmnpkhaaArgWait
namespace Go.Proofs.Ytkdelfadmnpkhaa.fnExactWaiting
open Go.ChangeShapes Go.WideShapes Go.ChangeAt Go.RowKit
open Go.ChangeMaps (open_string shut_string)
set_option linter.unusedVariables false

theorem cells4 {w : World} {B : Nat} {q : Wai} (h : RecAt Wai.cs w B q) : w.cell? ⟨B, 0, none⟩ = some (.string q.who) ∧ w.cell? ⟨B, 1, none⟩ = some (.string q.mill) ∧ w.cell? ⟨B, 2, none⟩ = some (.int .i64 q.amount) ∧ w.cell? ⟨B, 3, none⟩ = some (.int .i64 q.ripe) :=
  ⟨h 0 _ rfl, h 1 _ rfl, h 2 _ rfl, h 3 _ rfl⟩

set_option maxRecDepth 100000 in
set_option maxHeartbeats 8000000 in
theorem walk {w : World} {a : Option Addr} {ps : List Wai} (cap : Nat) (q : Wai) (hq : q.fits) (h : Recs Wai.cs w a ps) (hl : ps.length ≤ 9223372036854775807) (hs : ∀ p ∈ ps, p.fits) :
    Calls Try.prog 6 #[.slice a ps.length cap, .agg #[.string q.who, .string q.mill, .int .i64 q.amount, .int .i64 q.ripe]] w fun e w' => e = .returned (.bool true) ∧ Below w.heap.size w w' := by
  have HH := Lib.hid h
  have HS := Lib.hid hs
  have HZ := Lib.hid (sized_Wait hs)
  have HQ := Lib.hid hq
  have HQS := Lib.hid (show q.who.size ≤ maxLen ∧ q.mill.size ≤ maxLen from ⟨Nat.le_trans hq.1 (by unfold maxLen; omega), Nat.le_trans hq.2 (by unfold maxLen; omega)⟩)
  clear h hs hq
  have BX := Lib.hid (below_new w (.cells #[.string q.who, .string q.mill, .int .i64 q.amount, .int .i64 q.ripe] 48))
  have RX := Lib.hid (show RecAt Wai.cs (w.alloc (.cells #[.string q.who, .string q.mill, .int .i64 q.amount, .int .i64 q.ripe] 48)) w.heap.size q from RecAt.new Wai.cs w q 48)
  have hwx : w.heap.size < (w.alloc (.cells #[.string q.who, .string q.mill, .int .i64 q.amount, .int .i64 q.ripe] 48)).heap.size := by simp
  obtain ⟨sb1, sb2⟩ := szR_bd (z := Wai.bytes) (xs := ps) (left := 1048576) (by omega)
  go_enter Try.func6, Try.ntmps6
  go_wp2_with fail
  refine (szWaitS_any _ _ (HH.out.below BX.out) (by omega) HS.out (by omega) (by omega)).mono ?_
  rintro e w0 ⟨rfl, hb0⟩
  have B_1 := Lib.hid (below_trans BX.out hb0)
  have R_2 := Lib.hid (RX.out.below hb0)
  clear hb0 BX RX
  by_cases hz : szR Wai.bytes ps 1048576 < 0
  · go_wp2
    go_ret
    exact ⟨rfl, B_1.out⟩
  obtain ⟨hlen, -⟩ := szR_small (by omega) hz
  have x0 := R_2.out 0 _ rfl
  have x1 := R_2.out 1 _ rfl
  have x2 := R_2.out 2 _ rfl
  have x3 := R_2.out 3 _ rfl
  go_wp2_with fail
  refine (szWait_any _ _ _ _ _ _ HQ.out.1 HQ.out.2 (by omega) (by omega)).mono ?_
  rintro e w1 ⟨rfl, hb1⟩
  clear x0 x1 x2 x3
  have B_3 := Lib.hid (below_trans B_1.out hb1)
  have R_4 := Lib.hid (R_2.out.below hb1)
  clear hb1 B_1 R_2
  by_cases hz2 : Wai.left ⟨q.who, q.mill, q.amount, q.ripe⟩ (szR Wai.bytes ps 1048576) < 0
  · go_wp2
    go_ret
    exact ⟨rfl, B_3.out⟩
  have hol := waitingL_le ps q
  have hol2 : (waitingL ps q).length ≤ 1048576 := by omega
  have hme := markTo_pos 4 ps.length
  have hmo := markTo_pos 4 (waitingL ps q).length
  go_wp2_with fail
  go_region_held3 (fun w' => w'.cell? ⟨w.heap.size, 0, none⟩ = some (.string q.who) ∧ w'.cell? ⟨w.heap.size, 1, none⟩ = some (.string q.mill) ∧ w'.cell? ⟨w.heap.size, 2, none⟩ = some (.int .i64 q.amount) ∧ w'.cell? ⟨w.heap.size, 3, none⟩ = some (.int .i64 q.ripe))
    (first | exact cells4 R_4.out | exact cells4 R_6.out | exact cells4 R_8.out | exact cells4 R_11.out)
    (first | (go_at_call 30; refine (toWaitS_any _ (HH.out.below (below_draws B_3.out 1)) hlen).mono ?_; rintro e w2 ⟨rfl, hs2, hc2, -⟩; have hb2 := below_trans (below_draws (Below.refl _ _) 1) hc2; have HN2 := Lib.hid hs2; clear hs2 hc2; have B_5 := Lib.hid (below_trans B_3.out hb2); have R_6 := Lib.hid (R_4.out.below hb2); clear hb2 B_3 R_4) | (go_at_call 33; refine (toWait_any _ _ _ _ _).mono ?_; rintro e w3 ⟨rfl, hb3⟩; have B_7 := Lib.hid (below_trans B_5.out hb3); have R_8 := Lib.hid (R_6.out.below hb3); have S_9 := Lib.hid (HN2.out.below hb3); clear hb3 B_5 R_6 HN2) | (go_at_call 18; refine (sWaiting_own _ q S_9.out (Nat.le_refl _) hlen HZ.out HQS.out).mono ?_; rintro e w4 ⟨a4, c4, rfl, ho4, hb4, -⟩; have HN4 := Lib.hid ho4.1; have HWO := Lib.hid (ho4.1.old Wai.len (by omega)); have B_10 := Lib.hid (below_trans B_7.out hb4); have R_11 := Lib.hid (R_8.out.below hb4); have S_12 := Lib.hid (S_9.out.below hb4); clear hb4 B_7 R_8 S_9; clear ho4))
  clear S_12
  have hwW : w.heap.size < w4.heap.size := at_lt (R_11.out 0 _ rfl)
  go_wp2_with fail
  refine (toWaitS_any _ (HH.out.below B_10.out) hlen).mono ?_
  rintro e w5 ⟨rfl, hs5, hb5, hm5, hx5⟩
  have HN5 := Lib.hid hs5; clear hs5
  have HMN5 := Lib.hid hm5
  have B_13 := Lib.hid (below_trans B_10.out hb5)
  have R_14 := Lib.hid (R_11.out.below hb5)
  have W_15 := Lib.hid (HN4.out.below hb5)
  clear hb5 B_10 R_11 HN4
  clear hm5
  have x0 := R_14.out 0 _ rfl
  have x1 := R_14.out 1 _ rfl
  have x2 := R_14.out 2 _ rfl
  have x3 := R_14.out 3 _ rfl
  go_wp2_with fail
  refine (toWait_any _ _ _ _ _).mono ?_
  rintro e w6 ⟨rfl, hb6⟩
  clear x0 x1 x2 x3
  have B_16 := Lib.hid (below_trans B_13.out hb6)
  have R_17 := Lib.hid (R_14.out.below hb6)
  have W_18 := Lib.hid (W_15.out.below hb6)
  have X_19 := Lib.hid (HN5.out.below hb6)
  have XM_20 := Lib.hid (HMN5.out.below hx5 hb6)
  have hXM_20 := Nat.lt_of_lt_of_le hx5 hb6.size
  clear hb6 B_13 R_14 W_15 HN5 HMN5
  have hwG : w4.heap.size < w6.heap.size := hXM_20
  have hwG2 : w4.heap.size ≤ w6.heap.size := Nat.le_of_lt hwG
  go_wp2_with fail
  refine (iWaiting_any _ q X_19.out (Nat.le_refl _) hlen HZ.out HQS.out).mono ?_
  rintro e w7 ⟨a7, c7, rfl, ho7, hb7, -⟩
  have HN7 := Lib.hid ho7
  have B_21 := Lib.hid (below_trans B_16.out hb7)
  have R_22 := Lib.hid (R_17.out.below hb7)
  have W_23 := Lib.hid (W_18.out.below hb7)
  have X_24 := Lib.hid (X_19.out.below hb7)
  have XM_25 := Lib.hid (XM_20.out.below hXM_20 hb7)
  have hXM_25 := Nat.lt_of_lt_of_le hXM_20 hb7.size
  clear hb7 B_16 R_17 W_18 X_19 XM_20
  clear ho7
  go_wp2_with fail
  refine (eqWaitS_same _ _ HN7.out.1 W_23.out hol2).mono ?_
  rintro e w8 ⟨rfl, hb8⟩
  have B_26 := Lib.hid (below_trans B_21.out hb8)
  have R_27 := Lib.hid (R_22.out.below hb8)
  have W_28 := Lib.hid (W_23.out.below hb8)
  have X_29 := Lib.hid (X_24.out.below hb8)
  have XM_30 := Lib.hid (XM_25.out.below hXM_25 hb8)
  have hXM_30 := Nat.lt_of_lt_of_le hXM_25 hb8.size
  have G_31 := Lib.hid (HN7.out.below hb8)
  clear hb8 B_21 R_22 W_23 X_24 XM_25 HN7
  go_wp2_with fail
  refine (toWaitS_any _ (HH.out.below B_26.out) hlen).mono ?_
  rintro e w9 ⟨rfl, hs9, hb9, hm9, hx9⟩
  have HN9 := Lib.hid hs9; clear hs9
  have B_32 := Lib.hid (below_trans B_26.out hb9)
  have R_33 := Lib.hid (R_27.out.below hb9)
  have W_34 := Lib.hid (W_28.out.below hb9)
  have X_35 := Lib.hid (X_29.out.below hb9)
  have XM_36 := Lib.hid (XM_30.out.below hXM_30 hb9)
  have hXM_36 := Nat.lt_of_lt_of_le hXM_30 hb9.size
  have G_37 := Lib.hid (G_31.out.below hb9)
  clear hb9 B_26 R_27 W_28 X_29 XM_30 G_31
  clear hm9
  clear hx9
  go_wp2_with fail
  refine (eqWaitS_same _ _ X_35.out HN9.out hlen).mono ?_
  rintro e w10 ⟨rfl, hb10⟩
  have B_38 := Lib.hid (below_trans B_32.out hb10)
  have R_39 := Lib.hid (R_33.out.below hb10)
  have W_40 := Lib.hid (W_34.out.below hb10)
  have X_41 := Lib.hid (X_35.out.below hb10)
  have XM_42 := Lib.hid (XM_36.out.below hXM_36 hb10)
  have hXM_42 := Nat.lt_of_lt_of_le hXM_36 hb10.size
  have G_43 := Lib.hid (G_37.out.below hb10)
  have Y_44 := Lib.hid (HN9.out.below hb10)
  clear hb10 B_32 R_33 W_34 X_35 XM_36 G_37 HN9
  clear X_41
  clear Y_44
  go_wp2_with fail
  refine (markFst_Wait _ XM_42.out hXM_42 hlen).mono ?_
  rintro e w11 ⟨rfl, hg11⟩
  have hbx : Below w4.heap.size w10 w11 := ⟨hg11.os, hg11.tape, hg11.output, hg11.size, fun i hi => hg11.block i (by omega) (by intro e; injection e with e; omega)⟩
  have G_45 := Lib.hid (G_43.out.grown hg11 hwG)
  have W_46 := Lib.hid (W_40.out.under Wai.len hbx HWO.out)
  have R_47 := Lib.hid (R_39.out.under hbx hwW)
  have B_48 := Lib.hid (B_38.out.trans (hbx.mono (Nat.le_of_lt hwW)))
  clear hg11 hbx G_43 W_40 R_39 B_38
  clear XM_42
  go_wp2_with fail
  refine (eqWaitS_same _ _ G_45.out.1 W_46.out hol2).mono ?_
  rintro e w12 ⟨rfl, hb12⟩
  have B_49 := Lib.hid (below_trans B_48.out hb12)
  have R_50 := Lib.hid (R_47.out.below hb12)
  have W_51 := Lib.hid (W_46.out.below hb12)
  have G_52 := Lib.hid (G_45.out.below hb12)
  clear hb12 B_48 R_47 W_46 G_45
  go_wp2_with fail
  refine (markOwn_Wait _ G_52.out hol2).mono ?_
  rintro e w13 ⟨rfl, hp13, hb13⟩
  have HN13 := Lib.hid hp13
  have W_53 := Lib.hid (W_51.out.under Wai.len hb13 (fun b off e hl => Nat.lt_of_lt_of_le (HWO.out b off e hl) hwG2))
  have R_54 := Lib.hid (R_50.out.under hb13 (Nat.lt_of_lt_of_le hwW hwG2))
  have B_55 := Lib.hid (B_49.out.trans (hb13.mono (Nat.le_trans (Nat.le_of_lt hwW) hwG2)))
  clear hp13 hb13 W_51 R_50 B_49
  clear G_52
  go_wp2_with fail
  refine (heldOwn_Wait _ HN13.out hol2).mono ?_
  rintro e w14 ⟨rfl, hb14⟩
  have B_56 := Lib.hid (below_trans B_55.out hb14)
  have R_57 := Lib.hid (R_54.out.below hb14)
  have W_58 := Lib.hid (W_53.out.below hb14)
  have G_59 := Lib.hid (HN13.out.below hb14)
  clear hb14 B_55 R_54 W_53 HN13
  go_wp2_with fail
  go_region_held3 (fun w' => w'.cell? ⟨w.heap.size, 0, none⟩ = some (.string q.who) ∧ w'.cell? ⟨w.heap.size, 1, none⟩ = some (.string q.mill) ∧ w'.cell? ⟨w.heap.size, 2, none⟩ = some (.int .i64 q.amount) ∧ w'.cell? ⟨w.heap.size, 3, none⟩ = some (.int .i64 q.ripe))
    (first | exact cells4 R_57.out | exact cells4 R_61.out | exact cells4 R_65.out | exact cells4 R_70.out)
    (first | (go_at_call 30; refine (toWaitS_any _ (HH.out.below (below_draws B_56.out 1)) hlen).mono ?_; rintro e w15 ⟨rfl, hs15, hc15, -⟩; have hb15 := below_trans (below_draws (Below.refl _ _) 1) hc15; have HN15 := Lib.hid hs15; clear hs15 hc15; have B_60 := Lib.hid (below_trans B_56.out hb15); have R_61 := Lib.hid (R_57.out.below hb15); have W_62 := Lib.hid (W_58.out.below hb15); have G_63 := Lib.hid (G_59.out.below hb15); clear hb15 B_56 R_57 W_58 G_59) | (go_at_call 33; refine (toWait_any _ _ _ _ _).mono ?_; rintro e w16 ⟨rfl, hb16⟩; have B_64 := Lib.hid (below_trans B_60.out hb16); have R_65 := Lib.hid (R_61.out.below hb16); have W_66 := Lib.hid (W_62.out.below hb16); have G_67 := Lib.hid (G_63.out.below hb16); have S_68 := Lib.hid (HN15.out.below hb16); clear hb16 B_60 R_61 W_62 G_63 HN15) | (go_at_call 13; refine (iWaiting_any _ q S_68.out (Nat.le_refl _) hlen HZ.out HQS.out).mono ?_; rintro e w17 ⟨a17, c17, rfl, ho17, hb17, -⟩; have HN17 := Lib.hid ho17.1; have B_69 := Lib.hid (below_trans B_64.out hb17); have R_70 := Lib.hid (R_65.out.below hb17); have W_71 := Lib.hid (W_66.out.below hb17); have G_72 := Lib.hid (G_67.out.below hb17); have S_73 := Lib.hid (S_68.out.below hb17); clear hb17 B_64 R_65 W_66 G_67 S_68; clear ho17))
  clear S_73
  go_wp2_with fail
  refine (eqWaitS_same _ _ HN17.out W_71.out hol2).mono ?_
  rintro e w18 ⟨rfl, hb18⟩
  have B_74 := Lib.hid (below_trans B_69.out hb18)
  have R_75 := Lib.hid (R_70.out.below hb18)
  have W_76 := Lib.hid (W_71.out.below hb18)
  have G_77 := Lib.hid (G_72.out.below hb18)
  have H_78 := Lib.hid (HN17.out.below hb18)
  clear hb18 B_69 R_70 W_71 G_72 HN17
  clear H_78
  clear W_76
  go_wp2_with fail
  refine (heldOwn_Wait _ G_77.out hol2).mono ?_
  rintro e w19 ⟨rfl, hb19⟩
  have B_79 := Lib.hid (below_trans B_74.out hb19)
  have R_80 := Lib.hid (R_75.out.below hb19)
  have G_81 := Lib.hid (G_77.out.below hb19)
  clear hb19 B_74 R_75 G_77
  go_wp2
  go_ret
  exact ⟨rfl, B_79.out⟩

set_option maxRecDepth 100000 in
theorem lifted (os : Os) (started : os.Started) (H : Type) (enc : TypeId × Value → H) :
    ReturnsInHanded {} Try.checked os 6 .any (Rows.fnExactWaitingSpec.pre6 enc Try.prog Try.f6 Rows.fnExactWaitingRow.domain false) (Rows.fnExactWaitingSpec.post enc Try.prog Try.f6 false true false false) := by
  refine returnsInHanded_of_change (C := Try.checked) ownKnobNone started (by kernel_rfl) Try.func6
    (ChangeSpec.witness6 (enc := enc) (C := Try.checked) false ⟨#[], #[.slice none 0 0, .agg #[.string ByteArray.empty, .string ByteArray.empty, .int .i64 0, .int .i64 0]], []⟩ 8 (by kernel_rfl) (by kernel_rfl) (by kernel_rfl) (by kernel_rfl)) ?_
  intro W base args ds gs before hval0 hW hcnd _
  have hval : ∀ (j : Nat) t v, Try.f6.params[j]? = some t → args[j]? = some v → Value.okWide Try.prog W .any base t v := hval0
  have hW' := hW
  obtain ⟨p, q, hA0, hV, rfl, hfz, hnd⟩ := hW
  have hA : DataW.TrodAll enc Try.prog W 0 (fun _ => true) true Try.f6.params.toList args.toList ds p := hA0
  rw [Try.params6] at hA hval
  obtain ⟨v0, vs0, d0, ds0, p0, q0, hargs, rfl, rfl, h0, r0⟩ := trodAll_cons hA
  obtain ⟨v1, vs1, d1, ds1, p1, q1, rfl, rfl, rfl, h1, r1⟩ := trodAll_cons r0
  obtain ⟨rfl, rfl, rfl⟩ := trodAll_nil r1
  obtain rfl : args = #[v0, v1] := by cases args; simp_all
  obtain ⟨rfl, rfl⟩ := trodVars_none hV
  have lt0 : ∀ x ∈ p0, x.block < W.heap.size := by obtain ⟨m, hm⟩ := h0; exact DataW.trod_lt m _ _ _ hm
  have lt1 : ∀ x ∈ p1, x.block < W.heap.size := by obtain ⟨m, hm⟩ := h1; exact DataW.trod_lt m _ _ _ hm
  have o0 := hval 0 44 v0 rfl rfl
  have o1 := hval 1 48 v1 rfl rfl
  clear hA0 hval0 hval
  have hwalk : Calls Try.prog 6 #[v0, v1] W fun e w' => e = .returned (.bool true) ∧ Below W.heap.size W w' := by
    clear hW' hfz hnd hcnd lt0 lt1
    obtain ⟨a, cap, ps, rfl, hst, hl, hs⟩ := arg_Waits o0 h0
    obtain ⟨q, rfl, hq⟩ := arg_Wait o1 h1
    exact walk cap q hq hst hl hs
  refine hwalk.mono fun e W' ⟨he, bel⟩ => ?_
  subst he
  exact ⟨_, rfl, _, _, _, [], _, [], hW', trodAll_mk1 (shut_bool Try.underlying4 _), (trodAll_cons_mk (Below.trod laidOut (by kernel_rfl) (of_decide_eq_true (by kernel_rfl)) h0 bel lt0) (trodAll_cons_mk (Below.trod laidOut (by kernel_rfl) (of_decide_eq_true (by kernel_rfl)) h1 bel lt1) trodAll_mk0)), rfl, bel.frame _, fun h => by cases h⟩

theorem over : Rows.fnExactWaitingRow.holds Try.pinned (OpenSpec.ofChange Rows.fnExactWaitingSpec) :=
  OpenClaim.holds_of_wide 6 Try.f6 rfl rfl rfl rfl rfl rfl rfl ⟨rfl, rfl, rfl, rfl, rfl⟩ rfl rfl rfl rfl rfl (by kernel_rfl) Try.func6 (by kernel_rfl)
    (of_decide_eq_true (by kernel_rfl)) (by unfold Func.isWrapper; first | (rw [if_pos (by decide +kernel)]; kernel_rfl) | (rw [if_neg (by decide +kernel)]; exact ⟨rfl, rfl⟩))
    (fun os started H enc _ => lifted os started H enc)

/-- THE STATEMENT -/
theorem proved : Rows.FnExactWaitingSaid := over
#print axioms proved
end Go.Proofs.Ytkdelfadmnpkhaa.fnExactWaiting
