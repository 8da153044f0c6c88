/-
  At every list of what waits and every number the program's RipeAt answers as the model's, leaves its arguments alone and gives back two lists of its own: the law FnExactRipeAt returns true and its arguments read as before. No condition.
-/
import Derived.Test.YtkdelfadmnpkhaaWaitI
import Derived.Test.YtkdelfadmnpkhaaArgWait
import Derived.Test.YtkdelfadmnpkhaaMarkTwo
namespace Go.Proofs.Ytkdelfadmnpkhaa.fnExactRipeAt
open Go.ChangeShapes Go.WideShapes Go.ChangeAt Go.RowKit
open Go.ChangeMaps (open_string shut_string)
set_option linter.unusedVariables false

set_option maxRecDepth 100000 in
set_option maxHeartbeats 8000000 in
theorem walk {w : World} {a : Option Addr} {ps : List Wai} (cap : Nat) (season : Int) (h : Recs Wai.cs w a ps) (hl : ps.length ≤ 9223372036854775807) (hs : ∀ p ∈ ps, p.fits) :
    Calls Try.prog 7 #[.slice a ps.length cap, .int .i64 season] w fun e w' => e = .returned (.bool true) ∧ Below w.heap.size w w' := by
  have HH := Lib.hid h
  have HS := Lib.hid hs
  have HZ := Lib.hid (sized_Wait hs)
  clear h hs
  go_enter Try.func7, Try.ntmps7
  go_wp2_with fail
  refine (szWaitS_any _ _ HH.out (by omega) HS.out (by omega) (by omega)).mono ?_
  rintro e w0 ⟨rfl, hb0⟩
  have B0 := Lib.hid hb0
  clear hb0
  by_cases hz : szR Wai.bytes ps 1048576 < 0
  · go_wp2
    go_ret
    exact ⟨rfl, B0.out⟩
  obtain ⟨hlen, -⟩ := szR_small (by omega) hz
  have hl1 := laterV_le ps season
  have hl2 := ripeV_le ps season
  have hm1 : (laterV ps season).length ≤ 1048576 := by omega
  have hm2 : (ripeV ps season).length ≤ 1048576 := by omega
  have hme := markTo_pos 4 ps.length
  have hmo := markTo_pos 4 (laterV ps season).length
  have hmp := markTo2_pos 4 (laterV ps season).length (ripeV ps season).length
  go_wp2_with fail
  refine (toWaitS_any _ (HH.out.below B0.out) hlen).mono ?_
  rintro e w1 ⟨rfl, hs1, hb1, hm1_, hx1⟩
  have HN1 := Lib.hid hs1; clear hs1
  have B_1 := Lib.hid (below_trans B0.out hb1)
  clear hb1 B0
  clear hm1_
  clear hx1
  go_wp2_with fail
  refine (sRipeAt_any _ _ HN1.out hlen HZ.out).mono ?_
  rintro e w2 ⟨a2, c2, d2, f2, rfl, ho2, hp2, hq2, hb2⟩
  have HN2 := Lib.hid ho2.1; have HO2 := Lib.hid hp2.1
  have HWO := Lib.hid (ho2.1.old Wai.len (by omega)); have HVO := Lib.hid (hp2.1.old Wai.len (by omega))
  have B_2 := Lib.hid (below_trans B_1.out hb2)
  have S_3 := Lib.hid (HN1.out.below hb2)
  clear hb2 B_1 HN1
  clear ho2 hp2 hq2
  clear S_3
  have hwW : w.heap.size ≤ w2.heap.size := B_2.out.size
  go_wp2_with fail
  refine (toWaitS_any _ (HH.out.below B_2.out) hlen).mono ?_
  rintro e w3 ⟨rfl, hs3, hb3, hm3_, hx3⟩
  have HN3 := Lib.hid hs3; clear hs3
  have HMN3 := Lib.hid hm3_
  have B_4 := Lib.hid (below_trans B_2.out hb3)
  have W_5 := Lib.hid (HN2.out.below hb3)
  have V_6 := Lib.hid (HO2.out.below hb3)
  clear hb3 B_2 HN2 HO2
  clear hm3_
  have hwG : w2.heap.size < w3.heap.size := hx3
  have hwG2 : w2.heap.size ≤ w3.heap.size := Nat.le_of_lt hwG
  go_wp2_with fail
  refine (iRipeAt_any _ _ HN3.out hlen HZ.out).mono ?_
  rintro e w4 ⟨a4, c4, d4, f4, rfl, ho4, hp4, hq4, hb4⟩
  have HN4 := Lib.hid ho4; have HO4 := Lib.hid hp4
  have HAP := Lib.hid (show ApartW a4 d4 (laterV ps season) (ripeV ps season) from hq4); have HF1 := Lib.hid ho4.2
  have B_7 := Lib.hid (below_trans B_4.out hb4)
  have W_8 := Lib.hid (W_5.out.below hb4)
  have V_9 := Lib.hid (V_6.out.below hb4)
  have X_10 := Lib.hid (HN3.out.below hb4)
  have XM_11 := Lib.hid (HMN3.out.below hx3 hb4)
  have hXM_11 := Nat.lt_of_lt_of_le hx3 hb4.size
  clear hb4 B_4 W_5 V_6 HN3 HMN3
  clear ho4 hp4 hq4
  go_wp2_with fail
  refine (eqWaitS_same _ _ HN4.out.1 W_8.out hm1).mono ?_
  rintro e w5 ⟨rfl, hb5⟩
  have B_12 := Lib.hid (below_trans B_7.out hb5)
  have W_13 := Lib.hid (W_8.out.below hb5)
  have V_14 := Lib.hid (V_9.out.below hb5)
  have X_15 := Lib.hid (X_10.out.below hb5)
  have XM_16 := Lib.hid (XM_11.out.below hXM_11 hb5)
  have hXM_16 := Nat.lt_of_lt_of_le hXM_11 hb5.size
  have G_17 := Lib.hid (HN4.out.below hb5)
  have K_18 := Lib.hid (HO4.out.below hb5)
  clear hb5 B_7 W_8 V_9 X_10 XM_11 HN4 HO4
  go_wp2_with fail
  refine (eqWaitS_same _ _ K_18.out.1 V_14.out hm2).mono ?_
  rintro e w6 ⟨rfl, hb6⟩
  have B_19 := Lib.hid (below_trans B_12.out hb6)
  have W_20 := Lib.hid (W_13.out.below hb6)
  have V_21 := Lib.hid (V_14.out.below hb6)
  have X_22 := Lib.hid (X_15.out.below hb6)
  have XM_23 := Lib.hid (XM_16.out.below hXM_16 hb6)
  have hXM_23 := Nat.lt_of_lt_of_le hXM_16 hb6.size
  have G_24 := Lib.hid (G_17.out.below hb6)
  have K_25 := Lib.hid (K_18.out.below hb6)
  clear hb6 B_12 W_13 V_14 X_15 XM_16 G_17 K_18
  go_wp2_with fail
  refine (toWaitS_any _ (HH.out.below B_19.out) hlen).mono ?_
  rintro e w7 ⟨rfl, hs7, hb7, hm7_, hx7⟩
  have HN7 := Lib.hid hs7; clear hs7
  have B_26 := Lib.hid (below_trans B_19.out hb7)
  have W_27 := Lib.hid (W_20.out.below hb7)
  have V_28 := Lib.hid (V_21.out.below hb7)
  have X_29 := Lib.hid (X_22.out.below hb7)
  have XM_30 := Lib.hid (XM_23.out.below hXM_23 hb7)
  have hXM_30 := Nat.lt_of_lt_of_le hXM_23 hb7.size
  have G_31 := Lib.hid (G_24.out.below hb7)
  have K_32 := Lib.hid (K_25.out.below hb7)
  clear hb7 B_19 W_20 V_21 X_22 XM_23 G_24 K_25
  clear hm7_
  clear hx7
  go_wp2_with fail
  refine (eqWaitS_same _ _ X_29.out HN7.out hlen).mono ?_
  rintro e w8 ⟨rfl, hb8⟩
  have B_33 := Lib.hid (below_trans B_26.out hb8)
  have W_34 := Lib.hid (W_27.out.below hb8)
  have V_35 := Lib.hid (V_28.out.below hb8)
  have X_36 := Lib.hid (X_29.out.below hb8)
  have XM_37 := Lib.hid (XM_30.out.below hXM_30 hb8)
  have hXM_37 := Nat.lt_of_lt_of_le hXM_30 hb8.size
  have G_38 := Lib.hid (G_31.out.below hb8)
  have K_39 := Lib.hid (K_32.out.below hb8)
  have Y_40 := Lib.hid (HN7.out.below hb8)
  clear hb8 B_26 W_27 V_28 X_29 XM_30 G_31 K_32 HN7
  clear X_36
  clear Y_40
  go_wp2_with fail
  refine (markFst_Wait _ XM_37.out hXM_37 hlen).mono ?_
  rintro e w9 ⟨rfl, hg9⟩
  have hbx : Below w2.heap.size w8 w9 := ⟨hg9.os, hg9.tape, hg9.output, hg9.size, fun i hi => hg9.block i (by omega) (by intro e; injection e with e; omega)⟩
  have G_41 := Lib.hid (G_38.out.grown hg9 hwG)
  have K_42 := Lib.hid (K_39.out.grown hg9 hwG)
  have W_43 := Lib.hid (W_34.out.under Wai.len hbx HWO.out)
  have V_44 := Lib.hid (V_35.out.under Wai.len hbx HVO.out)
  have B_45 := Lib.hid (B_33.out.trans (hbx.mono hwW))
  clear hg9 hbx G_38 K_39 W_34 V_35 B_33
  clear XM_37
  go_wp2_with fail
  refine (eqWaitS_same _ _ G_41.out.1 W_43.out hm1).mono ?_
  rintro e w10 ⟨rfl, hb10⟩
  have B_46 := Lib.hid (below_trans B_45.out hb10)
  have W_47 := Lib.hid (W_43.out.below hb10)
  have V_48 := Lib.hid (V_44.out.below hb10)
  have G_49 := Lib.hid (G_41.out.below hb10)
  have K_50 := Lib.hid (K_42.out.below hb10)
  clear hb10 B_45 W_43 V_44 G_41 K_42
  go_wp2_with fail
  refine (eqWaitS_same _ _ K_50.out.1 V_48.out hm2).mono ?_
  rintro e w11 ⟨rfl, hb11⟩
  have B_51 := Lib.hid (below_trans B_46.out hb11)
  have W_52 := Lib.hid (W_47.out.below hb11)
  have V_53 := Lib.hid (V_48.out.below hb11)
  have G_54 := Lib.hid (G_49.out.below hb11)
  have K_55 := Lib.hid (K_50.out.below hb11)
  clear hb11 B_46 W_47 V_48 G_49 K_50
  have HFB := Lib.hid (show (laterV ps season).length = 0 ∨ ∃ b, a4 = some ⟨b, 0, none⟩ ∧ b < w11.heap.size from by
    rcases G_54.out.2 with e | ⟨b, e, -, hlt, -⟩
    · exact .inl (by rw [e]; rfl)
    · exact .inr ⟨b, e, hlt⟩)
  go_wp2_with fail
  refine (markOne _ G_54.out K_55.out HAP.out hm1).mono ?_
  rintro e w12 ⟨rfl, hp12, hq12, hb12⟩
  have HN12 := Lib.hid hp12; have HO12 := Lib.hid hq12; have hsz12 := hb12.size
  have W_56 := Lib.hid (W_52.out.under Wai.len hb12 (fun b off e hl => Nat.lt_of_lt_of_le (HWO.out b off e hl) hwG2))
  have V_57 := Lib.hid (V_53.out.under Wai.len hb12 (fun b off e hl => Nat.lt_of_lt_of_le (HVO.out b off e hl) hwG2))
  have B_58 := Lib.hid (B_51.out.trans (hb12.mono (Nat.le_trans hwW hwG2)))
  clear hp12 hq12 hb12 W_52 V_53 B_51
  clear G_54
  clear K_55
  go_wp2_with fail
  refine (markSecond _ HN12.out (HFB.out.imp id (fun ⟨b, e, hlt⟩ => ⟨b, e, Nat.lt_of_lt_of_le hlt hsz12⟩)) HO12.out (fun b1 b2 e1 e2 hn hy => HAP.out b1 b2 e1 e2 (fun e => hn (by rw [e]; rfl)) hy) hm1 hm2).mono ?_
  rintro e w13 ⟨rfl, hp13, hq13, hb13⟩
  have HN13 := Lib.hid hp13; have HO13 := Lib.hid hq13
  have W_59 := Lib.hid (W_56.out.under Wai.len hb13 (fun b off e hl => Nat.lt_of_lt_of_le (HWO.out b off e hl) hwG2))
  have V_60 := Lib.hid (V_57.out.under Wai.len hb13 (fun b off e hl => Nat.lt_of_lt_of_le (HVO.out b off e hl) hwG2))
  have B_61 := Lib.hid (B_58.out.trans (hb13.mono (Nat.le_trans hwW hwG2)))
  clear hp13 hq13 hb13 hsz12 W_56 V_57 B_58
  clear HN12
  clear HO12
  go_wp2_with fail
  refine (heldOwn_Wait _ HO13.out hm1).mono ?_
  rintro e w14 ⟨rfl, hb14⟩
  have B_62 := Lib.hid (below_trans B_61.out hb14)
  have W_63 := Lib.hid (W_59.out.below hb14)
  have V_64 := Lib.hid (V_60.out.below hb14)
  have G_65 := Lib.hid (HO13.out.below hb14)
  have K_66 := Lib.hid (HN13.out.below hb14)
  clear hb14 B_61 W_59 V_60 HO13 HN13
  go_wp2_with fail
  refine (heldSecond _ K_66.out hm1 hm2).mono ?_
  rintro e w15 ⟨rfl, hb15⟩
  have B_67 := Lib.hid (below_trans B_62.out hb15)
  have W_68 := Lib.hid (W_63.out.below hb15)
  have V_69 := Lib.hid (V_64.out.below hb15)
  have G_70 := Lib.hid (G_65.out.below hb15)
  have K_71 := Lib.hid (K_66.out.below hb15)
  clear hb15 B_62 W_63 V_64 G_65 K_66
  go_wp2_with fail
  refine (toWaitS_any _ (HH.out.below B_67.out) hlen).mono ?_
  rintro e w16 ⟨rfl, hs16, hb16, hm16_, hx16⟩
  have HN16 := Lib.hid hs16; clear hs16
  have B_72 := Lib.hid (below_trans B_67.out hb16)
  have W_73 := Lib.hid (W_68.out.below hb16)
  have V_74 := Lib.hid (V_69.out.below hb16)
  have G_75 := Lib.hid (G_70.out.below hb16)
  have K_76 := Lib.hid (K_71.out.below hb16)
  clear hb16 B_67 W_68 V_69 G_70 K_71
  clear hm16_
  clear hx16
  go_wp2_with fail
  refine (iRipeAt_any _ _ HN16.out hlen HZ.out).mono ?_
  rintro e w17 ⟨a17, c17, d17, f17, rfl, ho17, hp17, hq17, hb17⟩
  have HN17 := Lib.hid ho17.1; have HO17 := Lib.hid hp17.1
  have B_77 := Lib.hid (below_trans B_72.out hb17)
  have W_78 := Lib.hid (W_73.out.below hb17)
  have V_79 := Lib.hid (V_74.out.below hb17)
  have G_80 := Lib.hid (G_75.out.below hb17)
  have K_81 := Lib.hid (K_76.out.below hb17)
  have C_82 := Lib.hid (HN16.out.below hb17)
  clear hb17 B_72 W_73 V_74 G_75 K_76 HN16
  clear ho17 hp17 hq17
  clear C_82
  go_wp2_with fail
  refine (eqWaitS_same _ _ HN17.out W_78.out hm1).mono ?_
  rintro e w18 ⟨rfl, hb18⟩
  have B_83 := Lib.hid (below_trans B_77.out hb18)
  have W_84 := Lib.hid (W_78.out.below hb18)
  have V_85 := Lib.hid (V_79.out.below hb18)
  have G_86 := Lib.hid (G_80.out.below hb18)
  have K_87 := Lib.hid (K_81.out.below hb18)
  have H_88 := Lib.hid (HN17.out.below hb18)
  have I_89 := Lib.hid (HO17.out.below hb18)
  clear hb18 B_77 W_78 V_79 G_80 K_81 HN17 HO17
  go_wp2_with fail
  refine (eqWaitS_same _ _ I_89.out V_85.out hm2).mono ?_
  rintro e w19 ⟨rfl, hb19⟩
  have B_90 := Lib.hid (below_trans B_83.out hb19)
  have W_91 := Lib.hid (W_84.out.below hb19)
  have V_92 := Lib.hid (V_85.out.below hb19)
  have G_93 := Lib.hid (G_86.out.below hb19)
  have K_94 := Lib.hid (K_87.out.below hb19)
  have H_95 := Lib.hid (H_88.out.below hb19)
  have I_96 := Lib.hid (I_89.out.below hb19)
  clear hb19 B_83 W_84 V_85 G_86 K_87 H_88 I_89
  clear H_95
  clear I_96
  clear W_91
  clear V_92
  go_wp2_with fail
  refine (heldOwn_Wait _ G_93.out hm1).mono ?_
  rintro e w20 ⟨rfl, hb20⟩
  have B_97 := Lib.hid (below_trans B_90.out hb20)
  have G_98 := Lib.hid (G_93.out.below hb20)
  have K_99 := Lib.hid (K_94.out.below hb20)
  clear hb20 B_90 G_93 K_94
  go_wp2_with fail
  refine (heldSecond _ K_99.out hm1 hm2).mono ?_
  rintro e w21 ⟨rfl, hb21⟩
  have B_100 := Lib.hid (below_trans B_97.out hb21)
  have G_101 := Lib.hid (G_98.out.below hb21)
  have K_102 := Lib.hid (K_99.out.below hb21)
  clear hb21 B_97 G_98 K_99
  go_wp2
  go_ret
  exact ⟨rfl, B_100.out⟩

set_option maxRecDepth 100000 in
theorem lifted (os : Os) (started : os.Started) (H : Type) (enc : TypeId × Value → H) :
    ReturnsInHanded {} Try.checked os 7 .any (Rows.fnExactRipeAtSpec.pre6 enc Try.prog Try.f7 Rows.fnExactRipeAtRow.domain false) (Rows.fnExactRipeAtSpec.post enc Try.prog Try.f7 false true false false) := by
  refine returnsInHanded_of_change (C := Try.checked) ownKnobNone started (by kernel_rfl) Try.func7
    (ChangeSpec.witness6 (enc := enc) (C := Try.checked) false ⟨#[], #[.slice none 0 0, .int .i64 0], []⟩ 8 (by kernel_rfl) (by kernel_rfl) (by kernel_rfl) (by kernel_rfl)) ?_
  intro W base args ds gs before hval0 hW hcnd _
  have hval : ∀ (j : Nat) t v, Try.f7.params[j]? = some t → args[j]? = some v → Value.okWide Try.prog W .any base t v := hval0
  have hW' := hW
  obtain ⟨p, q, hA0, hV, rfl, hfz, hnd⟩ := hW
  have hA : DataW.TrodAll enc Try.prog W 0 (fun _ => true) true Try.f7.params.toList args.toList ds p := hA0
  rw [Try.params7] at hA hval
  obtain ⟨v0, vs0, d0, ds0, p0, q0, hargs, rfl, rfl, h0, r0⟩ := trodAll_cons hA
  obtain ⟨v1, vs1, d1, ds1, p1, q1, rfl, rfl, rfl, h1, r1⟩ := trodAll_cons r0
  obtain ⟨rfl, rfl, rfl⟩ := trodAll_nil r1
  obtain rfl : args = #[v0, v1] := by cases args; simp_all
  obtain ⟨rfl, rfl⟩ := trodVars_none hV
  have lt0 : ∀ x ∈ p0, x.block < W.heap.size := by obtain ⟨m, hm⟩ := h0; exact DataW.trod_lt m _ _ _ hm
  have lt1 : ∀ x ∈ p1, x.block < W.heap.size := by obtain ⟨m, hm⟩ := h1; exact DataW.trod_lt m _ _ _ hm
  have o0 := hval 0 44 v0 rfl rfl
  have o1 := hval 1 2 v1 rfl rfl
  clear hA0 hval0 hval
  have hwalk : Calls Try.prog 7 #[v0, v1] W fun e w' => e = .returned (.bool true) ∧ Below W.heap.size W w' := by
    clear hW' hfz hnd hcnd lt0 lt1
    obtain ⟨a, cap, ps, rfl, hst, hl, hs⟩ := arg_Waits o0 h0
    obtain ⟨season, rfl, -, -, -⟩ := open_int Try.underlying2 o1 h1
    exact walk cap season hst hl hs
  refine hwalk.mono fun e W' ⟨he, bel⟩ => ?_
  subst he
  exact ⟨_, rfl, _, _, _, [], _, [], hW', trodAll_mk1 (shut_bool Try.underlying4 _), (trodAll_cons_mk (Below.trod laidOut (by kernel_rfl) (of_decide_eq_true (by kernel_rfl)) h0 bel lt0) (trodAll_cons_mk (Below.trod laidOut (by kernel_rfl) (of_decide_eq_true (by kernel_rfl)) h1 bel lt1) trodAll_mk0)), rfl, bel.frame _, fun h => by cases h⟩

theorem over : Rows.fnExactRipeAtRow.holds Try.pinned (OpenSpec.ofChange Rows.fnExactRipeAtSpec) :=
  OpenClaim.holds_of_wide 7 Try.f7 rfl rfl rfl rfl rfl rfl rfl ⟨rfl, rfl, rfl, rfl, rfl⟩ rfl rfl rfl rfl rfl (by kernel_rfl) Try.func7 (by kernel_rfl)
    (of_decide_eq_true (by kernel_rfl)) (by unfold Func.isWrapper; first | (rw [if_pos (by decide +kernel)]; kernel_rfl) | (rw [if_neg (by decide +kernel)]; exact ⟨rfl, rfl⟩))
    (fun os started H enc _ => lifted os started H enc)

/-- THE STATEMENT -/
theorem proved : Rows.FnExactRipeAtSaid := over
#print axioms proved
end Go.Proofs.Ytkdelfadmnpkhaa.fnExactRipeAt
