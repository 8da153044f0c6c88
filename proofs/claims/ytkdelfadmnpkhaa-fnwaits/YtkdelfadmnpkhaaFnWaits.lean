/-
  Of whatever is drawn, ripe or not, nothing that waits is lost, and it waits behind what is ripe no later; Waiting, RipeAt, WaitsFor, WaitsOk and AmountIn answer as the model does: the law FnWaits returns true at every slice of bytes, which reads as before. No condition.
-/
import Derived.Test.YtkdelfadmnpkhaaWaitI
import Derived.Test.YtkdelfadmnpkhaaDraw6M
import Derived.WalkKit
import Derived.ProofKit
import Derived.OpenShut
import Derived.ShutString
import Derived.ChangeOld
import Derived.Below
namespace Go.Proofs.Ytkdelfadmnpkhaa.fnWaits
open Go.ChangeShapes Go.WideShapes Go.ChangeAt Go.RowKit
open Go.ChangeMaps (open_string shut_string)
set_option linter.unusedVariables false

theorem own : ownKnob Try.prog.godebug = none := by kernel_rfl
theorem laidOut : laidOutB Try.prog = true := by kernel_rfl

/-- WHAT THE WALK IS TOLD OF A SLICE OF INTEGERS THAT CAME IN: it is nil; or it leads to a row of 'cap' cells, the numbers 'zs' (the first 'len' are its elements, the rest its spare room), each fitting its kind. -/
def IsRow (k : IntKind) (w : World) (a : Option Addr) (len cap : Nat) (zs : List Int) : Prop :=
  (a = none ∧ len = 0 ∧ cap = 0 ∧ zs = []) ∨
  ∃ x, a = some x ∧ len ≤ cap ∧ cap ≤ maxLen ∧ zs.length = cap ∧ (∀ i, i < zs.length → w.cell? (x.add i) = some (.int k (zs.getD i 0))) ∧ ∀ n ∈ zs, (Lit.int k n).wf = true

set_option maxRecDepth 100000 in
theorem walk_big (a0 : Option Addr) (len0 cap0 : Nat) (w : World) (hbig : ¬ len0 ≤ 4096) :
    Calls Try.prog 3 #[.slice a0 len0 cap0] w fun e w' => e = .returned (.bool true) ∧ Below w.heap.size w w' := by
  go_enter Try.func3, Try.ntmps3
  go_wp2_with fail
  refine (big_yes _ _ _ _ hbig).mono ?_
  rintro e w' ⟨rfl, rfl⟩
  go_wp2
  go_ret
  exact ⟨rfl, Below.refl _ _⟩

/-- The first ones of a list. -/
theorem recs_first {w : World} {a : Option Addr} {ps rs : List Wai} (h : Recs Wai.cs w a ps) (hr : rs = ps.take rs.length) : Recs Wai.cs w a rs := by
  rw [hr]; exact Recs.takeR Wai.len h _

set_option maxRecDepth 100000 in
set_option maxHeartbeats 16000000 in
theorem walk_small (a0 : Option Addr) (len0 cap0 : Nat) (w : World) (hsrc : Src w a0 len0) :
    Calls Try.prog 3 #[.slice a0 len0 cap0] w fun e w' => e = .returned (.bool true) ∧ Below w.heap.size w w' := by
  have HSRC := Lib.hid hsrc
  clear hsrc
  go_enter Try.func3, Try.ntmps3
  go_wp2_with fail
  refine (big_any _ _ _ _ HSRC.out.small).mono ?_
  rintro e w' ⟨rfl, rfl⟩
  go_wp2_with fail
  refine (drawWaiting_any HSRC.out).mono ?_
  rintro e w1 ⟨g, c, ps, q, rfl, hP, hq, hb1⟩
  have hfp := hP.few
  have HCP := Lib.hid hP.fits
  have HZP := Lib.hid (wshort_sized hP.short)
  have HZX := Lib.hid (waitingL_sized hP.short hq)
  have HQ := Lib.hid (show q.who.size ≤ maxLen ∧ q.mill.size ≤ maxLen from ⟨wshort_max hq.1, wshort_max hq.2⟩)
  have bq := below_new w1 (.cells #[.string q.who, .string q.mill, .int .i64 q.amount, .int .i64 q.ripe] 26)
  have B_1 := Lib.hid (below_trans hb1 bq)
  have HL_2 := Lib.hid (hP.lies.below bq)
  have R_3 := Lib.hid (show RecAt Wai.cs (w1.alloc (.cells #[.string q.who, .string q.mill, .int .i64 q.amount, .int .i64 q.ripe] 26)) w1.heap.size q from RecAt.new Wai.cs w1 q 26)
  clear hP hq hb1 bq
  go_wp2_with fail
  refine (iWaiting_any _ q HL_2.out HCP.out (by omega) HZP.out HQ.out).mono ?_
  rintro e w2 ⟨ax, cx, rfl, hx, hb2, -⟩
  have hxl := waitingL_le ps q
  have B_4 := Lib.hid (below_trans B_1.out hb2)
  have HL_5 := Lib.hid (HL_2.out.below hb2)
  have R_6 := Lib.hid (R_3.out.below hb2)
  clear hb2 B_1 HL_2 R_3
  have HX_7 := Lib.hid (hx.1)
  clear hx
  go_wp2_with fail
  refine (drawRipeAt_any (HSRC.out.kept B_4.out)).mono ?_
  rintro e w3 ⟨gq, cq, qs, season, rfl, hP, ⟨hs1, hs2⟩, hb3⟩
  have hfq := hP.few
  have hcq := hP.fits
  have HZQ := Lib.hid (wshort_sized hP.short)
  have B_8 := Lib.hid (below_trans B_4.out hb3)
  have HL_9 := Lib.hid (HL_5.out.below hb3)
  have R_10 := Lib.hid (R_6.out.below hb3)
  have HX_11 := Lib.hid (HX_7.out.below hb3)
  clear hb3 B_4 HL_5 R_6 HX_7
  have HQS_12 := Lib.hid (hP.lies)
  clear hP
  go_wp2_with fail
  refine (iRipeAt_any _ season HQS_12.out (by omega) HZQ.out).mono ?_
  rintro e w4 ⟨al, cl, ar, cr, rfl, h1, h2, -, hb4⟩
  have hll := laterV_le qs season
  have hrl := ripeV_le qs season
  have B_13 := Lib.hid (below_trans B_8.out hb4)
  have HL_14 := Lib.hid (HL_9.out.below hb4)
  have R_15 := Lib.hid (R_10.out.below hb4)
  have HX_16 := Lib.hid (HX_11.out.below hb4)
  have HQS_17 := Lib.hid (HQS_12.out.below hb4)
  clear hb4 B_8 HL_9 R_10 HX_11 HQS_12
  have HLA_18 := Lib.hid (h1.1)
  have HRI_19 := Lib.hid (h2.1)
  clear h1 h2
  go_wp2_with fail
  refine (drawWaitsFor_any (HSRC.out.kept B_13.out)).mono ?_
  rintro e w5 ⟨gr, cg, rs, one, rfl, hP, hs, hb5⟩
  have hfr := hP.few
  have HZR := Lib.hid (wshort_sized hP.short)
  have B_20 := Lib.hid (below_trans B_13.out hb5)
  have HL_21 := Lib.hid (HL_14.out.below hb5)
  have R_22 := Lib.hid (R_15.out.below hb5)
  have HX_23 := Lib.hid (HX_16.out.below hb5)
  have HQS_24 := Lib.hid (HQS_17.out.below hb5)
  have HLA_25 := Lib.hid (HLA_18.out.below hb5)
  have HRI_26 := Lib.hid (HRI_19.out.below hb5)
  clear hb5 B_13 HL_14 R_15 HX_16 HQS_17 HLA_18 HRI_19
  have HRS_27 := Lib.hid (hP.lies)
  clear hP hs HSRC
  go_wp2_with fail
  refine (iWaitsFor_any _ one HRS_27.out (by omega) HZR.out).mono ?_
  rintro e w6 ⟨af, cf, rfl, hf, hb6⟩
  have hfl := waitsFor_le rs one
  have B_28 := Lib.hid (below_trans B_20.out hb6)
  have HL_29 := Lib.hid (HL_21.out.below hb6)
  have R_30 := Lib.hid (R_22.out.below hb6)
  have HX_31 := Lib.hid (HX_23.out.below hb6)
  have HQS_32 := Lib.hid (HQS_24.out.below hb6)
  have HLA_33 := Lib.hid (HLA_25.out.below hb6)
  have HRI_34 := Lib.hid (HRI_26.out.below hb6)
  have HRS_35 := Lib.hid (HRS_27.out.below hb6)
  clear hb6 B_20 HL_21 R_22 HX_23 HQS_24 HLA_25 HRI_26 HRS_27
  have HF_36 := Lib.hid (hf.1)
  clear hf
  have c0 := R_30.out 0 _ rfl
  have c1 := R_30.out 1 _ rfl
  have c2 := R_30.out 2 _ rfl
  have c3 := R_30.out 3 _ rfl
  go_wp2_with fail
  refine (sWaiting_own _ q HL_29.out HCP.out (by omega) HZP.out HQ.out).mono ?_
  rintro e w7 ⟨ay, cy, rfl, hy, hb7, -⟩
  have B_37 := Lib.hid (below_trans B_28.out hb7)
  have HL_38 := Lib.hid (HL_29.out.below hb7)
  have R_39 := Lib.hid (R_30.out.below hb7)
  have HX_40 := Lib.hid (HX_31.out.below hb7)
  have HQS_41 := Lib.hid (HQS_32.out.below hb7)
  have HLA_42 := Lib.hid (HLA_33.out.below hb7)
  have HRI_43 := Lib.hid (HRI_34.out.below hb7)
  have HRS_44 := Lib.hid (HRS_35.out.below hb7)
  have HF_45 := Lib.hid (HF_36.out.below hb7)
  clear hb7 B_28 HL_29 R_30 HX_31 HQS_32 HLA_33 HRI_34 HRS_35 HF_36
  have HY_46 := Lib.hid (hy.1)
  clear hy c0 c1 c2 c3
  go_wp2_with fail
  refine (likeWaits_same _ _ HX_40.out HY_46.out (by omega)).mono ?_
  rintro e w8 ⟨rfl, hb8⟩
  have B_47 := Lib.hid (below_trans B_37.out hb8)
  have HL_48 := Lib.hid (HL_38.out.below hb8)
  have R_49 := Lib.hid (R_39.out.below hb8)
  have HX_50 := Lib.hid (HX_40.out.below hb8)
  have HQS_51 := Lib.hid (HQS_41.out.below hb8)
  have HLA_52 := Lib.hid (HLA_42.out.below hb8)
  have HRI_53 := Lib.hid (HRI_43.out.below hb8)
  have HRS_54 := Lib.hid (HRS_44.out.below hb8)
  have HF_55 := Lib.hid (HF_45.out.below hb8)
  have HY_56 := Lib.hid (HY_46.out.below hb8)
  clear hb8 B_37 HL_38 R_39 HX_40 HQS_41 HLA_42 HRI_43 HRS_44 HF_45 HY_46
  clear HY_56
  go_wp2_with fail
  refine (iWaitsOk_any _ HL_48.out (by omega) HZP.out).mono ?_
  rintro e w9 ⟨rfl, hb9⟩
  have B_57 := Lib.hid (below_trans B_47.out hb9)
  have HL_58 := Lib.hid (HL_48.out.below hb9)
  have R_59 := Lib.hid (R_49.out.below hb9)
  have HX_60 := Lib.hid (HX_50.out.below hb9)
  have HQS_61 := Lib.hid (HQS_51.out.below hb9)
  have HLA_62 := Lib.hid (HLA_52.out.below hb9)
  have HRI_63 := Lib.hid (HRI_53.out.below hb9)
  have HRS_64 := Lib.hid (HRS_54.out.below hb9)
  have HF_65 := Lib.hid (HF_55.out.below hb9)
  clear hb9 B_47 HL_48 R_49 HX_50 HQS_51 HLA_52 HRI_53 HRS_54 HF_55
  go_wp2_with fail
  refine (sWaitsOk_any _ HL_58.out (by omega) HZP.out).mono ?_
  rintro e w10 ⟨rfl, hb10⟩
  have B_66 := Lib.hid (below_trans B_57.out hb10)
  have HL_67 := Lib.hid (HL_58.out.below hb10)
  have R_68 := Lib.hid (R_59.out.below hb10)
  have HX_69 := Lib.hid (HX_60.out.below hb10)
  have HQS_70 := Lib.hid (HQS_61.out.below hb10)
  have HLA_71 := Lib.hid (HLA_62.out.below hb10)
  have HRI_72 := Lib.hid (HRI_63.out.below hb10)
  have HRS_73 := Lib.hid (HRS_64.out.below hb10)
  have HF_74 := Lib.hid (HF_65.out.below hb10)
  clear hb10 B_57 HL_58 R_59 HX_60 HQS_61 HLA_62 HRI_63 HRS_64 HF_65
  go_wp2_with fail
  refine (sWaitsFor_any _ one HRS_73.out (by omega) HZR.out).mono ?_
  rintro e w11 ⟨ah, ch, rfl, hh, hb11⟩
  have B_75 := Lib.hid (below_trans B_66.out hb11)
  have HL_76 := Lib.hid (HL_67.out.below hb11)
  have R_77 := Lib.hid (R_68.out.below hb11)
  have HX_78 := Lib.hid (HX_69.out.below hb11)
  have HQS_79 := Lib.hid (HQS_70.out.below hb11)
  have HLA_80 := Lib.hid (HLA_71.out.below hb11)
  have HRI_81 := Lib.hid (HRI_72.out.below hb11)
  have HRS_82 := Lib.hid (HRS_73.out.below hb11)
  have HF_83 := Lib.hid (HF_74.out.below hb11)
  clear hb11 B_66 HL_67 R_68 HX_69 HQS_70 HLA_71 HRI_72 HRS_73 HF_74
  have HH_84 := Lib.hid (hh.1)
  clear hh
  go_wp2_with fail
  refine (likeWaits_same _ _ HF_83.out HH_84.out (by omega)).mono ?_
  rintro e w12 ⟨rfl, hb12⟩
  have B_85 := Lib.hid (below_trans B_75.out hb12)
  have HL_86 := Lib.hid (HL_76.out.below hb12)
  have R_87 := Lib.hid (R_77.out.below hb12)
  have HX_88 := Lib.hid (HX_78.out.below hb12)
  have HQS_89 := Lib.hid (HQS_79.out.below hb12)
  have HLA_90 := Lib.hid (HLA_80.out.below hb12)
  have HRI_91 := Lib.hid (HRI_81.out.below hb12)
  have HRS_92 := Lib.hid (HRS_82.out.below hb12)
  have HF_93 := Lib.hid (HF_83.out.below hb12)
  have HH_94 := Lib.hid (HH_84.out.below hb12)
  clear hb12 B_75 HL_76 R_77 HX_78 HQS_79 HLA_80 HRI_81 HRS_82 HF_83 HH_84
  clear HH_94
  clear HF_93
  go_wp2_with fail
  refine (iAmountIn_any _ HRS_92.out (by omega) HZR.out).mono ?_
  rintro e w13 ⟨rfl, hb13⟩
  have B_95 := Lib.hid (below_trans B_85.out hb13)
  have HL_96 := Lib.hid (HL_86.out.below hb13)
  have R_97 := Lib.hid (R_87.out.below hb13)
  have HX_98 := Lib.hid (HX_88.out.below hb13)
  have HQS_99 := Lib.hid (HQS_89.out.below hb13)
  have HLA_100 := Lib.hid (HLA_90.out.below hb13)
  have HRI_101 := Lib.hid (HRI_91.out.below hb13)
  have HRS_102 := Lib.hid (HRS_92.out.below hb13)
  clear hb13 B_85 HL_86 R_87 HX_88 HQS_89 HLA_90 HRI_91 HRS_92
  go_wp2_with fail
  refine (sAmountIn_any _ HRS_102.out (by omega) HZR.out).mono ?_
  rintro e w14 ⟨rfl, hb14⟩
  have B_103 := Lib.hid (below_trans B_95.out hb14)
  have HL_104 := Lib.hid (HL_96.out.below hb14)
  have R_105 := Lib.hid (R_97.out.below hb14)
  have HX_106 := Lib.hid (HX_98.out.below hb14)
  have HQS_107 := Lib.hid (HQS_99.out.below hb14)
  have HLA_108 := Lib.hid (HLA_100.out.below hb14)
  have HRI_109 := Lib.hid (HRI_101.out.below hb14)
  have HRS_110 := Lib.hid (HRS_102.out.below hb14)
  clear hb14 B_95 HL_96 R_97 HX_98 HQS_99 HLA_100 HRI_101 HRS_102
  clear HRS_110
  go_wp2_with fail
  refine (sRipeAt_any _ season HQS_107.out (by omega) HZQ.out).mono ?_
  rintro e w15 ⟨ai, ci, aj, cj, rfl, h1, h2, -, hb15⟩
  have B_111 := Lib.hid (below_trans B_103.out hb15)
  have HL_112 := Lib.hid (HL_104.out.below hb15)
  have R_113 := Lib.hid (R_105.out.below hb15)
  have HX_114 := Lib.hid (HX_106.out.below hb15)
  have HQS_115 := Lib.hid (HQS_107.out.below hb15)
  have HLA_116 := Lib.hid (HLA_108.out.below hb15)
  have HRI_117 := Lib.hid (HRI_109.out.below hb15)
  clear hb15 B_103 HL_104 R_105 HX_106 HQS_107 HLA_108 HRI_109
  have HI_118 := Lib.hid (h1.1)
  have HJ_119 := Lib.hid (h2.1)
  clear h1 h2
  go_wp2_with fail
  refine (likeWaits_same _ _ HLA_116.out HI_118.out (by omega)).mono ?_
  rintro e w16 ⟨rfl, hb16⟩
  have B_120 := Lib.hid (below_trans B_111.out hb16)
  have HL_121 := Lib.hid (HL_112.out.below hb16)
  have R_122 := Lib.hid (R_113.out.below hb16)
  have HX_123 := Lib.hid (HX_114.out.below hb16)
  have HQS_124 := Lib.hid (HQS_115.out.below hb16)
  have HLA_125 := Lib.hid (HLA_116.out.below hb16)
  have HRI_126 := Lib.hid (HRI_117.out.below hb16)
  have HI_127 := Lib.hid (HI_118.out.below hb16)
  have HJ_128 := Lib.hid (HJ_119.out.below hb16)
  clear hb16 B_111 HL_112 R_113 HX_114 HQS_115 HLA_116 HRI_117 HI_118 HJ_119
  clear HI_127
  go_wp2_with fail
  refine (likeWaits_same _ _ HRI_126.out HJ_128.out (by omega)).mono ?_
  rintro e w17 ⟨rfl, hb17⟩
  have B_129 := Lib.hid (below_trans B_120.out hb17)
  have HL_130 := Lib.hid (HL_121.out.below hb17)
  have R_131 := Lib.hid (R_122.out.below hb17)
  have HX_132 := Lib.hid (HX_123.out.below hb17)
  have HQS_133 := Lib.hid (HQS_124.out.below hb17)
  have HLA_134 := Lib.hid (HLA_125.out.below hb17)
  have HRI_135 := Lib.hid (HRI_126.out.below hb17)
  have HJ_136 := Lib.hid (HJ_128.out.below hb17)
  clear hb17 B_120 HL_121 R_122 HX_123 HQS_124 HLA_125 HRI_126 HJ_128
  clear HJ_136
  cases hQ : waitsB qs
  case' false =>
    go_wp2_with fail
    refine (sWaitsOk_any _ HQS_133.out (by omega) HZQ.out).mono ?_
    rw [hQ]
    rintro e w18 ⟨rfl, hb18⟩
    have B_137 := Lib.hid (below_trans B_129.out hb18)
    have HL_138 := Lib.hid (HL_130.out.below hb18)
    have R_139 := Lib.hid (R_131.out.below hb18)
    have HX_140 := Lib.hid (HX_132.out.below hb18)
    have HQS_141 := Lib.hid (HQS_133.out.below hb18)
    have HLA_142 := Lib.hid (HLA_134.out.below hb18)
    have HRI_143 := Lib.hid (HRI_135.out.below hb18)
    clear hb18 B_129 HL_130 R_131 HX_132 HQS_133 HLA_134 HRI_135
    have BE := B_137
    have HLE := HL_138
    have RE := R_139
    have HXE := HX_140
    have HQSE := HQS_141
    have HRIE := HRI_143
    clear B_137 HL_138 R_139 HX_140 HQS_141 HLA_142 HRI_143
    go_wp2_with fail
  case' true =>
    have HRA := Lib.hid (ripe_all hQ season)
    have ba := amount_bd HRA.out.1
    have bb := amount_bd HRA.out.2.1
    obtain ⟨A1, hA1⟩ : ∃ A1, amountInV (laterV qs season) = A1 := ⟨_, rfl⟩
    obtain ⟨A2, hA2⟩ : ∃ A2, amountInV (ripeV qs season) = A2 := ⟨_, rfl⟩
    have HA := Lib.hid (show A1 + A2 = amountInV qs by rw [← hA1, ← hA2]; exact HRA.out.2.2.1)
    have hlen := HRA.out.2.2.2
    have hlb : (((laterV qs season).length : Int) + ((ripeV qs season).length : Int) != (qs.length : Int)) = false := by simp; omega
    clear hlen
    rw [hA1] at ba
    rw [hA2] at bb
    have HA1 := Lib.hid hA1
    have HA2 := Lib.hid hA2
    clear hA1 hA2
    have HZL := Lib.hid (laterV_sized HZQ.out season)
    have HZI := Lib.hid (ripeV_sized HZQ.out season)
    go_wp2_with fail
    refine (sWaitsOk_any _ HQS_133.out (by omega) HZQ.out).mono ?_
    rw [hQ]
    rintro e w19 ⟨rfl, hb19⟩
    have B_144 := Lib.hid (below_trans B_129.out hb19)
    have HL_145 := Lib.hid (HL_130.out.below hb19)
    have R_146 := Lib.hid (R_131.out.below hb19)
    have HX_147 := Lib.hid (HX_132.out.below hb19)
    have HQS_148 := Lib.hid (HQS_133.out.below hb19)
    have HLA_149 := Lib.hid (HLA_134.out.below hb19)
    have HRI_150 := Lib.hid (HRI_135.out.below hb19)
    clear hb19 B_129 HL_130 R_131 HX_132 HQS_133 HLA_134 HRI_135
    go_wp2_with fail
    refine (iAmountIn_any _ HLA_149.out (by omega) HZL.out).mono ?_
    rw [HA1.out]
    rintro e w20 ⟨rfl, hb20⟩
    have B_151 := Lib.hid (below_trans B_144.out hb20)
    have HL_152 := Lib.hid (HL_145.out.below hb20)
    have R_153 := Lib.hid (R_146.out.below hb20)
    have HX_154 := Lib.hid (HX_147.out.below hb20)
    have HQS_155 := Lib.hid (HQS_148.out.below hb20)
    have HLA_156 := Lib.hid (HLA_149.out.below hb20)
    have HRI_157 := Lib.hid (HRI_150.out.below hb20)
    clear hb20 B_144 HL_145 R_146 HX_147 HQS_148 HLA_149 HRI_150
    go_wp2_with fail
    refine (iAmountIn_any _ HRI_157.out (by omega) HZI.out).mono ?_
    rw [HA2.out]
    rintro e w21 ⟨rfl, hb21⟩
    have B_158 := Lib.hid (below_trans B_151.out hb21)
    have HL_159 := Lib.hid (HL_152.out.below hb21)
    have R_160 := Lib.hid (R_153.out.below hb21)
    have HX_161 := Lib.hid (HX_154.out.below hb21)
    have HQS_162 := Lib.hid (HQS_155.out.below hb21)
    have HLA_163 := Lib.hid (HLA_156.out.below hb21)
    have HRI_164 := Lib.hid (HRI_157.out.below hb21)
    clear hb21 B_151 HL_152 R_153 HX_154 HQS_155 HLA_156 HRI_157
    have hwa : IntKind.i64.wrap (A1 + A2) = A1 + A2 := IntWalk.i64_in _ (by omega)
    go_wp2_with fail
    refine (sAmountIn_any _ HQS_162.out (by omega) HZQ.out).mono ?_
    rw [← HA.out]
    rintro e w22 ⟨rfl, hb22⟩
    have B_165 := Lib.hid (below_trans B_158.out hb22)
    have HL_166 := Lib.hid (HL_159.out.below hb22)
    have R_167 := Lib.hid (R_160.out.below hb22)
    have HX_168 := Lib.hid (HX_161.out.below hb22)
    have HQS_169 := Lib.hid (HQS_162.out.below hb22)
    have HLA_170 := Lib.hid (HLA_163.out.below hb22)
    have HRI_171 := Lib.hid (HRI_164.out.below hb22)
    clear hb22 B_158 HL_159 R_160 HX_161 HQS_162 HLA_163 HRI_164
    have BE := B_165
    have HLE := HL_166
    have RE := R_167
    have HXE := HX_168
    have HQSE := HQS_169
    have HRIE := HRI_171
    clear B_165 HL_166 R_167 HX_168 HQS_169 HLA_170 HRI_171
    go_wp2_with fail
    clear HRA ba bb HA hlb HA1 HA2 HZL HZI hwa
  all_goals
    clear hQ
    go_loopw [18] (fun i w' => ∃ k : Nat, k ≤ (ripeV qs season).length ∧ i = .int .i64 k ∧ Below w.heap.size w w' ∧ Recs Wai.cs w' (some ⟨g, 0, none⟩) ps ∧ RecAt Wai.cs w' w1.heap.size q ∧ Recs Wai.cs w' ax (waitingL ps q) ∧ Recs Wai.cs w' (some ⟨gq, 0, none⟩) qs ∧ Recs Wai.cs w' ar (ripeV qs season)) (fun i _ => (ripeV qs season).length - (intOf i).toNat)
    case atStart => exact ⟨0, Nat.zero_le _, rfl, BE.out, HLE.out, RE.out, HXE.out, HQSE.out, HRIE.out⟩
    case round =>
      clear BE HLE RE HXE HQSE HRIE
      obtain ⟨k, hk, rfl, hb, hl, hr, hx, hqs, hri⟩ := hrel
      have B0 := Lib.hid hb; have HL0 := Lib.hid hl; have R0 := Lib.hid hr; have HX0 := Lib.hid hx; have HQ0 := Lib.hid hqs; have HI0 := Lib.hid hri
      clear hb hl hr hx hqs hri
      by_cases hlt : k < (ripeV qs season).length
      · obtain ⟨hf1, hf2⟩ := ripe_first qs season
        have hf3 := hf2 k hlt
        have HT := Lib.hid (recs_first HQ0.out hf1)
        have hrq : (ripeV qs season).length ≤ cq := by
          have := congrArg List.length hf1
          simp at this
          omega
        clear hf1 hf2
        obtain ⟨br, off, rfl, _, d0, d1, d2, d3⟩ := Wai.at HI0.out k hlt
        go_wp2_with fail
        refine (likeWaits_same _ _ HI0.out HT.out (by omega)).mono ?_
        rintro e wo ⟨rfl, hbo⟩
        have BN := Lib.hid (below_trans B0.out hbo); have HLN := Lib.hid (HL0.out.below hbo); have RN := Lib.hid (R0.out.below hbo); have HXN := Lib.hid (HX0.out.below hbo); have HQN := Lib.hid (HQ0.out.below hbo); have HIN := Lib.hid (HI0.out.below hbo)
        clear hbo
        go_wp2
        go_roundw
        case rel => exact ⟨k + 1, by omega, by go_num, BN.out, HLN.out, RN.out, HXN.out, HQN.out, HIN.out⟩
        case measure => simp [intOf]; omega
      · cases hG : waitingB ps q
        · cases hp : waitsB ps
          · have hx0 : (waitingL ps q).length = 0 := by rw [(waiting_no hp).2]; rfl
            go_wp2_with fail
            refine (sWaitsOk_any _ HL0.out (by omega) HZP.out).mono ?_
            rw [hp]
            rintro e wo ⟨rfl, hbo⟩
            have BO := Lib.hid (below_trans B0.out hbo)
            clear hbo
            go_wp2
            go_ret
            exact ⟨rfl, BO.out⟩
          · have HXL := Lib.hid (waiting_keep hp hG)
            have hx1 := HX0.out
            rw [HXL.out] at hx1
            have HX1 := Lib.hid hx1
            have HLN := Lib.hid (show (waitingL ps q).length = ps.length by rw [HXL.out])
            clear hx1
            go_wp2_with fail
            refine (sWaitsOk_any _ HL0.out (by omega) HZP.out).mono ?_
            rw [hp]
            rintro e wo ⟨rfl, hbo⟩
            have BO := Lib.hid (below_trans B0.out hbo); have HLO := Lib.hid (HL0.out.below hbo); have HXO2 := Lib.hid (HX1.out.below hbo)
            clear hbo
            go_wp2_with fail
            rw [HLN.out]
            refine (likeWaits_same _ _ HXO2.out HLO.out (by omega)).mono ?_
            rintro e wp ⟨rfl, hbp⟩
            have BP := Lib.hid (below_trans BO.out hbp)
            clear hbp
            go_wp2
            go_ret
            exact ⟨rfl, BP.out⟩
        · obtain ⟨m1, m2, m3⟩ := waiting_more hG
          have hpw : waitsB ps = true := by
            simp only [waitingB, Bool.and_eq_true] at hG
            exact hG.1
          have hbd := amount_bd hpw
          have hbd2 := amount_bd m1
          rw [m3] at hbd2
          obtain ⟨A, hA⟩ : ∃ A, amountInV ps = A := ⟨_, rfl⟩
          rw [hA] at hbd hbd2 m3
          have M1 := Lib.hid m1
          have M3 := Lib.hid m3
          have HA := Lib.hid hA
          have hlb : (((waitingL ps q).length : Int) == (ps.length : Int) + 1) = true := by simp; omega
          clear m1 m2 m3 hA
          have e2 := Grow.cell (R0.out 2 _ rfl)
          have hwa : IntKind.i64.wrap (A + q.amount) = A + q.amount := IntWalk.i64_in _ (by omega)
          go_wp2
          refine wp_region_grow (by kernel_rfl) (by kernel_rfl) ?_
          repeat (go_big_quiet_step (first | (go_at_call 20; exact grow_call (bool_is M1.out) (iWaitsOk_any _ (HX0.out.below (Grow.ok _)) (by omega) HZX.out)) | (go_at_call 23; exact grow_call (int_is M3.out) (iAmountIn_any _ (HX0.out.below (Grow.ok _)) (by omega) HZX.out)) | (go_at_call 24; exact grow_call (int_is HA.out) (sAmountIn_any _ (HL0.out.below (Grow.ok _)) (by omega) HZP.out))))
          refine wpQuiet_nil ?_
          intro _ hw'
          obtain ⟨gq2, rfl⟩ := hw'
          have BN := Lib.hid (below_trans B0.out gq2.ok)
          go_wp2
          go_ret
          exact ⟨rfl, BN.out⟩

/-! ### STEP 1: THE WALK: the Go text returns true, AND WRITES NOTHING THAT WAS THERE: 'Below w.heap.size w w'' (Derived/Below.lean: '.refl', '.alloc', '.drew', '.setCell' at a new block, '.trans'). Open each 'IsRow' by 'rcases' AHEAD of 'go_enter'; part every test ahead of the walk. -/
theorem walk (a0 : Option Addr) (len0 cap0 : Nat) (z0 : List Int) (w : World) (w0 : IsRow .u8 w a0 len0 cap0 z0) :
    Calls Try.prog 3 #[.slice a0 len0 cap0] w fun e w' => e = .returned (.bool true) ∧ Below w.heap.size w w' := by
  by_cases hbig : len0 ≤ 4096
  case neg => exact walk_big _ _ _ _ hbig
  refine walk_small _ _ _ _ ⟨fun k hk => ?_, hbig⟩
  rcases w0 with ⟨_, rfl, _, _⟩ | ⟨x, rfl, hl, _, hz, hc, hwf⟩
  · omega
  · obtain ⟨b, off, rfl, hc2⟩ := ints_at hc (by omega)
    have hk2 : k < z0.length := by omega
    have hw := hwf (z0.getD k 0) (by rw [List.getD_eq_getElem?_getD, List.getElem?_eq_getElem hk2, Option.getD_some]; exact List.getElem_mem hk2)
    have hb := bounds_u8 hw
    exact ⟨b, off, _, rfl, by omega, by omega, hc2 k hk2⟩

/-! ### THE ROW's STEP: WRITTEN OUT: LEAVE IT -/
set_option maxRecDepth 100000 in
theorem lifted (os : Os) (started : os.Started) (H : Type) (enc : TypeId × Value → H) :
    ReturnsInHanded {} Try.checked os 3 .any (Rows.fnWaitsSpec.pre6 enc Try.prog Try.f3 Rows.fnWaitsRow.domain false) (Rows.fnWaitsSpec.post enc Try.prog Try.f3 false true false false) := by
  refine returnsInHanded_of_change (C := Try.checked) own started (by kernel_rfl) Try.func3
    (ChangeSpec.witness6 (enc := enc) (C := Try.checked) false ⟨#[], #[.slice none 0 0], []⟩ 8 (by kernel_rfl) (by kernel_rfl) (by kernel_rfl) (by kernel_rfl)) ?_
  intro W base args ds gs before hval0 hW hcnd _
  have hval : ∀ (j : Nat) t v, Try.f3.params[j]? = some t → args[j]? = some v → Value.okWide Try.prog W .any base t v := hval0
  have hW' := hW
  obtain ⟨p, q, hA0, hV, rfl, hfz, hnd⟩ := hW
  have hA : DataW.TrodAll enc Try.prog W 0 (fun _ => true) true Try.f3.params.toList args.toList ds p := hA0
  rw [Try.params3] at hA hval
  obtain ⟨v0, vs0, d0, ds0, p0, q0, hargs, rfl, rfl, h0, r0⟩ := trodAll_cons hA
  obtain ⟨rfl, rfl, rfl⟩ := trodAll_nil r0
  obtain rfl : args = #[v0] := by cases args; simp_all
  obtain ⟨rfl, rfl⟩ := trodVars_none hV
  obtain ⟨a0, len0, cap0, rfl⟩ := okWide_slice Try.underlying22 (hval 0 22 v0 rfl rfl)
  have k0 := h0
  have lt0 : ∀ x ∈ p0, x.block < W.heap.size := by obtain ⟨m, hm⟩ := k0; exact DataW.trod_lt m _ _ _ hm
  obtain ⟨z0, w0⟩ : ∃ zs, IsRow .u8 W a0 len0 cap0 zs := by
    obtain ⟨fuel, hf⟩ := h0
    rcases open_ints Try.underlying22 Try.underlying5 (by kernel_rfl) hf with ⟨hcs, _⟩ | ⟨x, l, c, zs, hcs, _, hl, hm, hz, _, hcell, hwz⟩
    · simp [Value.cells] at hcs
      obtain ⟨rfl, rfl, rfl⟩ := hcs
      exact ⟨[], .inl ⟨rfl, rfl, rfl, rfl⟩⟩
    · simp [Value.cells] at hcs
      obtain ⟨rfl, rfl, rfl⟩ := hcs
      exact ⟨zs, .inr ⟨_, rfl, hl, hm, by simpa using hz, hcell, hwz⟩⟩
  clear hA0 hval0
  refine (walk a0 len0 cap0 z0 W w0).mono fun e W' ⟨he, bel⟩ => ?_
  subst he
  exact ⟨_, rfl, _, _, _, [], _, [], hW', trodAll_mk1 (shut_bool Try.underlying4 _), (trodAll_cons_mk (Below.trod laidOut (by kernel_rfl) (of_decide_eq_true (by kernel_rfl)) k0 bel lt0) trodAll_mk0), rfl, bel.frame _, fun h => by cases h⟩

theorem over : Rows.fnWaitsRow.holds Try.pinned (OpenSpec.ofChange Rows.fnWaitsSpec) :=
  OpenClaim.holds_of_wide 3 Try.f3 rfl rfl rfl rfl rfl rfl rfl ⟨rfl, rfl, rfl, rfl, rfl⟩ rfl rfl rfl rfl rfl (by kernel_rfl) Try.func3 (by kernel_rfl)
    (of_decide_eq_true (by kernel_rfl)) (by unfold Func.isWrapper; first | (rw [if_pos (by decide +kernel)]; kernel_rfl) | (rw [if_neg (by decide +kernel)]; exact ⟨rfl, rfl⟩))
    (fun os started H enc _ => lifted os started H enc)

/-- ████ THE STATEMENT ████ -/
theorem proved : Rows.FnWaitsSaid := over
#print axioms proved
end Go.Proofs.Ytkdelfadmnpkhaa.fnWaits
