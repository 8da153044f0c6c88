/-
  Of whatever is drawn, what one gave can be took again, and of all others nothing changes; Gave, Took, PartsFor, PartsOk, SharesOf and SharesIn answer as the model does: the law FnParts returns true at every slice of bytes, which reads as before. No condition.
-/
import Derived.Test.YtpmibegfpfjdgaaPartI
import Derived.Test.YtpmibegfpfjdgaaDraw5L
import Derived.Test.YtpmibegfpfjdgaaFacts5
import Derived.WalkKit
import Derived.ProofKit
import Derived.OpenShut
import Derived.ShutString
import Derived.ChangeOld
import Derived.Below
namespace Go.Proofs.Ytpmibegfpfjdgaa.fnParts
open Go.ChangeShapes Go.WideShapes Go.ChangeAt Go.RowKit
open Go.ChangeMaps (open_string shut_string)
set_option linter.unusedVariables false

theorem own : ownKnob Try.prog.godebug = none := by kernel_rfl
theorem laidOut : laidOutB Try.prog = true := by kernel_rfl

/-- WHAT THE WALK IS TOLD OF A SLICE OF INTEGERS THAT CAME IN: it is nil; or it leads to a row of 'cap' cells, the numbers 'zs' (the first 'len' are its elements, the rest its spare room), each fitting its kind. -/
def IsRow (k : IntKind) (w : World) (a : Option Addr) (len cap : Nat) (zs : List Int) : Prop :=
  (a = none ∧ len = 0 ∧ cap = 0 ∧ zs = []) ∨
  ∃ x, a = some x ∧ len ≤ cap ∧ cap ≤ maxLen ∧ zs.length = cap ∧ (∀ i, i < zs.length → w.cell? (x.add i) = some (.int k (zs.getD i 0))) ∧ ∀ n ∈ zs, (Lit.int k n).wf = true

set_option maxRecDepth 100000 in
theorem walk_big (a0 : Option Addr) (len0 cap0 : Nat) (w : World) (hbig : ¬ len0 ≤ 4096) :
    Calls Try.prog 3 #[.slice a0 len0 cap0] w fun e w' => e = .returned (.bool true) ∧ Below w.heap.size w w' := by
  go_enter Try.func3, Try.ntmps3
  go_wp2_with fail
  refine (big_yes _ _ _ _ hbig).mono ?_
  rintro e w' ⟨rfl, rfl⟩
  go_wp2
  go_ret
  exact ⟨rfl, Below.refl _ _⟩

theorem short_max {s : ByteArray} (h : s.size ≤ 7) : s.size ≤ maxLen := Nat.le_trans h (by unfold maxLen; omega)
theorem sharesIn_bd {ps : List Par} (h : partsB ps = true) (m : ByteArray) : 0 ≤ sharesInV ps m ∧ sharesInV ps m ≤ 20000000000 := by
  have h1 := parts_true h
  have h2 := sumS_bd (mill := m) h1.2 ps.length (Nat.le_refl _)
  rw [sharesInV, if_pos h]
  omega
theorem sharesOf_bd {ps : List Par} (h : partsB ps = true) (s m : ByteArray) : 0 ≤ sharesOfV ps s m ∧ sharesOfV ps s m ≤ 1000000000 := by
  rw [sharesOfV, if_pos h]
  split
  · rename_i hp
    obtain ⟨k, e, hk, -⟩ := pfind_hit hp
    have := part_bd1 ((parts_true h).2.1 k hk hk)
    rw [e, Int.toNat_natCast, patn_eq hk]
    omega
  · omega
theorem took_n_bd {ps : List Par} {s m : ByteArray} {n : Int} (h : tookB ps s m n = true) : partsB ps = true ∧ 1 ≤ n ∧ n ≤ 1000000000 := by
  simp only [tookB, Bool.and_eq_true, decide_eq_true_eq] at h
  obtain ⟨hf, hp, hn⟩ := h
  obtain ⟨k, e, hk, -⟩ := pfind_hit hp
  have h1 := part_bd1 ((parts_true hf).2.1 k hk hk)
  rw [e, Int.toNat_natCast, patn_eq hk] at hn
  have := inB_true hn
  exact ⟨hf, by omega, by omega⟩
theorem gave_n_bd {ps : List Par} {s m : ByteArray} {n : Int} (h : gaveB ps s m n = true) : partsB ps = true ∧ 1 ≤ n ∧ n ≤ 1000000000 := by
  simp only [gaveB, Bool.and_eq_true] at h
  have := inB_true h.2.1
  exact ⟨h.1, by omega, by omega⟩
theorem gave_some {ps : List Par} {s m : ByteArray} {n : Int} (h : gaveB ps s m n = true) : gaveL ps s m n ≠ [] := by
  intro e
  have := (gave_took h).2.1
  rw [e] at this
  obtain ⟨-, hp, -⟩ : partsB [] = true ∧ 0 ≤ pfindV [] s m ∧ True := by
    simp only [tookB, Bool.and_eq_true, decide_eq_true_eq] at this
    exact ⟨this.1, this.2.1, trivial⟩
  obtain ⟨k, -, hk, -⟩ := pfind_hit hp
  simp at hk

set_option maxRecDepth 100000 in
set_option maxHeartbeats 16000000 in
theorem walk_small (a0 : Option Addr) (len0 cap0 : Nat) (w : World) (hsrc : Src w a0 len0) :
    Calls Try.prog 3 #[.slice a0 len0 cap0] w fun e w' => e = .returned (.bool true) ∧ Below w.heap.size w w' := by
  have HSRC := Lib.hid hsrc
  clear hsrc
  go_enter Try.func3, Try.ntmps3
  go_wp2_with fail
  refine (big_any _ _ _ _ HSRC.out.small).mono ?_
  rintro e w' ⟨rfl, rfl⟩
  go_wp2_with fail
  refine (drawGave_any HSRC.out).mono ?_
  rintro e w1 ⟨g, c, ps, s, t, n, rfl, hP, hs, ht, hb1⟩
  have hfp := hP.few; have HCP := Lib.hid hP.fits; have HZP := Lib.hid (short_sized hP.short); have HS := Lib.hid (short_max hs); have HT := Lib.hid (short_max ht); have HL1 := Lib.hid hP.lies; have HSRC1 := Lib.hid (HSRC.out.kept hb1); have B1 := Lib.hid hb1; clear hP hs ht hb1 HSRC
  go_wp2_with fail
  refine (iGave_any _ _ _ _ HL1.out HCP.out (by omega) HZP.out HS.out HT.out).mono ?_
  rintro e w2 ⟨ax, cx, rfl, hx, hb2, hcx⟩
  have hxl := gaveL_le ps s t n; have HXO := Lib.hid hx.2; have HCX := Lib.hid hcx; have HX1 := Lib.hid hx.1
  have HSRC2 := Lib.hid (HSRC1.out.kept hb2)
  have HL2 := Lib.hid (HL1.out.below hb2); have B2 := Lib.hid (below_trans B1.out hb2)
  clear hb2 HL1 B1
  clear hx hcx HSRC1
  go_wp2_with fail
  refine (drawTook_any HSRC2.out).mono ?_
  rintro e w3 ⟨gq, cq, qs, s2, t2, n2, rfl, hQ, hs, ht, hb3⟩
  have hfq := hQ.few; have HCQ := Lib.hid hQ.fits; have HZQ := Lib.hid (short_sized hQ.short); have HS2 := Lib.hid (short_max hs); have HT2 := Lib.hid (short_max ht); have HQ1 := Lib.hid hQ.lies
  have HSRC3 := Lib.hid (HSRC2.out.kept hb3)
  have HL3 := Lib.hid (HL2.out.below hb3); have B3 := Lib.hid (below_trans B2.out hb3); have HX3 := Lib.hid (HX1.out.below hb3)
  clear hb3 HL2 B2 HX1
  clear hQ hs ht HSRC2
  go_wp2_with fail
  refine (iTook_any _ _ _ _ HQ1.out HCQ.out (by omega) HZQ.out HS2.out HT2.out).mono ?_
  rintro e w4 ⟨ay, cy, rfl, hy, hb4, -⟩
  have hyl := tookL_le qs s2 t2 n2; have HY1 := Lib.hid hy.1
  have HSRC4 := Lib.hid (HSRC3.out.kept hb4)
  have HL4 := Lib.hid (HL3.out.below hb4); have B4 := Lib.hid (below_trans B3.out hb4); have HX4 := Lib.hid (HX3.out.below hb4); have HQ4 := Lib.hid (HQ1.out.below hb4)
  clear hb4 HL3 B3 HX3 HQ1
  clear hy HSRC3
  go_wp2_with fail
  refine (drawPartsFor_any HSRC4.out).mono ?_
  rintro e w5 ⟨gr, cr, rs, one, rfl, hR, hs, hb5⟩
  have hfr := hR.few; have HZR := Lib.hid (short_sized hR.short); have HO := Lib.hid (short_max hs); have HR1 := Lib.hid hR.lies
  have HL5 := Lib.hid (HL4.out.below hb5); have B5 := Lib.hid (below_trans B4.out hb5); have HX5 := Lib.hid (HX4.out.below hb5); have HQ5 := Lib.hid (HQ4.out.below hb5); have HY5 := Lib.hid (HY1.out.below hb5)
  clear hb5 HL4 B4 HX4 HQ4 HY1
  clear hR hs HSRC4
  go_wp2_with fail
  refine (iPartsFor_any _ _ HR1.out (by omega) HZR.out).mono ?_
  rintro e w6 ⟨af, cf, rfl, hf, hb6⟩
  have hfl := partsFor_le rs one; have HF1 := Lib.hid hf.1
  have HL6 := Lib.hid (HL5.out.below hb6); have B6 := Lib.hid (below_trans B5.out hb6); have HX6 := Lib.hid (HX5.out.below hb6); have HQ6 := Lib.hid (HQ5.out.below hb6); have HY6 := Lib.hid (HY5.out.below hb6); have HR6 := Lib.hid (HR1.out.below hb6)
  clear hb6 HL5 B5 HX5 HQ5 HY5 HR1
  clear hf
  go_wp2_with fail
  refine (sGave_own _ _ _ _ HL6.out HCP.out (by omega) HZP.out HS.out HT.out).mono ?_
  rintro e w7 ⟨az, cz, rfl, hz, hb7, -⟩
  have HZ1 := Lib.hid hz.1
  have HL7 := Lib.hid (HL6.out.below hb7); have B7 := Lib.hid (below_trans B6.out hb7); have HX7 := Lib.hid (HX6.out.below hb7); have HQ7 := Lib.hid (HQ6.out.below hb7); have HY7 := Lib.hid (HY6.out.below hb7); have HR7 := Lib.hid (HR6.out.below hb7); have HF7 := Lib.hid (HF1.out.below hb7)
  clear hb7 HL6 B6 HX6 HQ6 HY6 HR6 HF1
  clear hz
  go_wp2_with fail
  refine (likeParts_same _ _ HX7.out HZ1.out (by omega)).mono ?_
  rintro e w8 ⟨rfl, hb8⟩
  have HL8 := Lib.hid (HL7.out.below hb8); have B8 := Lib.hid (below_trans B7.out hb8); have HX8 := Lib.hid (HX7.out.below hb8); have HQ8 := Lib.hid (HQ7.out.below hb8); have HY8 := Lib.hid (HY7.out.below hb8); have HR8 := Lib.hid (HR7.out.below hb8); have HF8 := Lib.hid (HF7.out.below hb8); have HZ8 := Lib.hid (HZ1.out.below hb8)
  clear hb8 HL7 B7 HX7 HQ7 HY7 HR7 HF7 HZ1
  clear HZ8
  go_wp2_with fail
  refine (iPartsOk_any _ HL8.out (by omega) HZP.out).mono ?_
  rintro e w9 ⟨rfl, hb9⟩
  have HL9 := Lib.hid (HL8.out.below hb9); have B9 := Lib.hid (below_trans B8.out hb9); have HX9 := Lib.hid (HX8.out.below hb9); have HQ9 := Lib.hid (HQ8.out.below hb9); have HY9 := Lib.hid (HY8.out.below hb9); have HR9 := Lib.hid (HR8.out.below hb9); have HF9 := Lib.hid (HF8.out.below hb9)
  clear hb9 HL8 B8 HX8 HQ8 HY8 HR8 HF8
  go_wp2_with fail
  refine (sPartsOk_any _ HL9.out (by omega) HZP.out).mono ?_
  rintro e wa ⟨rfl, hba⟩
  have HL10 := Lib.hid (HL9.out.below hba); have B10 := Lib.hid (below_trans B9.out hba); have HX10 := Lib.hid (HX9.out.below hba); have HQ10 := Lib.hid (HQ9.out.below hba); have HY10 := Lib.hid (HY9.out.below hba); have HR10 := Lib.hid (HR9.out.below hba); have HF10 := Lib.hid (HF9.out.below hba)
  clear hba HL9 B9 HX9 HQ9 HY9 HR9 HF9
  go_wp2_with fail
  refine (iSharesOf_any _ _ _ HL10.out (by omega) HZP.out HS.out HT.out).mono ?_
  rintro e wb ⟨rfl, hbb⟩
  have HL11 := Lib.hid (HL10.out.below hbb); have B11 := Lib.hid (below_trans B10.out hbb); have HX11 := Lib.hid (HX10.out.below hbb); have HQ11 := Lib.hid (HQ10.out.below hbb); have HY11 := Lib.hid (HY10.out.below hbb); have HR11 := Lib.hid (HR10.out.below hbb); have HF11 := Lib.hid (HF10.out.below hbb)
  clear hbb HL10 B10 HX10 HQ10 HY10 HR10 HF10
  go_wp2_with fail
  refine (sSharesOf_any _ _ _ HL11.out (by omega) HZP.out).mono ?_
  rintro e wc ⟨rfl, hbc⟩
  have HL12 := Lib.hid (HL11.out.below hbc); have B12 := Lib.hid (below_trans B11.out hbc); have HX12 := Lib.hid (HX11.out.below hbc); have HQ12 := Lib.hid (HQ11.out.below hbc); have HY12 := Lib.hid (HY11.out.below hbc); have HR12 := Lib.hid (HR11.out.below hbc); have HF12 := Lib.hid (HF11.out.below hbc)
  clear hbc HL11 B11 HX11 HQ11 HY11 HR11 HF11
  go_wp2_with fail
  refine (iSharesIn_any _ _ HR12.out (by omega) HZR.out).mono ?_
  rintro e wd ⟨rfl, hbd⟩
  have HL13 := Lib.hid (HL12.out.below hbd); have B13 := Lib.hid (below_trans B12.out hbd); have HX13 := Lib.hid (HX12.out.below hbd); have HQ13 := Lib.hid (HQ12.out.below hbd); have HY13 := Lib.hid (HY12.out.below hbd); have HR13 := Lib.hid (HR12.out.below hbd); have HF13 := Lib.hid (HF12.out.below hbd)
  clear hbd HL12 B12 HX12 HQ12 HY12 HR12 HF12
  go_wp2_with fail
  refine (sSharesIn_any _ _ HR13.out (by omega) HZR.out).mono ?_
  rintro e we ⟨rfl, hbe⟩
  have HL14 := Lib.hid (HL13.out.below hbe); have B14 := Lib.hid (below_trans B13.out hbe); have HX14 := Lib.hid (HX13.out.below hbe); have HQ14 := Lib.hid (HQ13.out.below hbe); have HY14 := Lib.hid (HY13.out.below hbe); have HR14 := Lib.hid (HR13.out.below hbe); have HF14 := Lib.hid (HF13.out.below hbe)
  clear hbe HL13 B13 HX13 HQ13 HY13 HR13 HF13
  go_wp2_with fail
  refine (sPartsFor_any _ _ HR14.out (by omega) HZR.out).mono ?_
  rintro e wf ⟨ah, ch, rfl, hh, hbf⟩
  have HH1 := Lib.hid hh.1
  have HL15 := Lib.hid (HL14.out.below hbf); have B15 := Lib.hid (below_trans B14.out hbf); have HX15 := Lib.hid (HX14.out.below hbf); have HQ15 := Lib.hid (HQ14.out.below hbf); have HY15 := Lib.hid (HY14.out.below hbf); have HR15 := Lib.hid (HR14.out.below hbf); have HF15 := Lib.hid (HF14.out.below hbf)
  clear hbf HL14 B14 HX14 HQ14 HY14 HR14 HF14
  clear hh
  go_wp2_with fail
  refine (likeParts_same _ _ HF15.out HH1.out (by omega)).mono ?_
  rintro e wg ⟨rfl, hbg⟩
  have HL16 := Lib.hid (HL15.out.below hbg); have B16 := Lib.hid (below_trans B15.out hbg); have HX16 := Lib.hid (HX15.out.below hbg); have HQ16 := Lib.hid (HQ15.out.below hbg); have HY16 := Lib.hid (HY15.out.below hbg); have HR16 := Lib.hid (HR15.out.below hbg); have HF16 := Lib.hid (HF15.out.below hbg); have HH16 := Lib.hid (HH1.out.below hbg)
  clear hbg HL15 B15 HX15 HQ15 HY15 HR15 HF15 HH1
  clear HH16
  go_wp2_with fail
  refine (sTook_own _ _ _ _ HQ16.out HCQ.out (by omega) HZQ.out HS2.out HT2.out).mono ?_
  rintro e wh ⟨ai, ci, rfl, hi, hbh, -⟩
  have HI1 := Lib.hid hi.1
  have HL17 := Lib.hid (HL16.out.below hbh); have B17 := Lib.hid (below_trans B16.out hbh); have HX17 := Lib.hid (HX16.out.below hbh); have HQ17 := Lib.hid (HQ16.out.below hbh); have HY17 := Lib.hid (HY16.out.below hbh); have HR17 := Lib.hid (HR16.out.below hbh); have HF17 := Lib.hid (HF16.out.below hbh)
  clear hbh HL16 B16 HX16 HQ16 HY16 HR16 HF16
  clear hi
  go_wp2_with fail
  refine (likeParts_same _ _ HY17.out HI1.out (by omega)).mono ?_
  rintro e wi ⟨rfl, hbi⟩
  have HL18 := Lib.hid (HL17.out.below hbi); have B18 := Lib.hid (below_trans B17.out hbi); have HX18 := Lib.hid (HX17.out.below hbi); have HQ18 := Lib.hid (HQ17.out.below hbi); have HY18 := Lib.hid (HY17.out.below hbi); have HR18 := Lib.hid (HR17.out.below hbi); have HF18 := Lib.hid (HF17.out.below hbi); have HI18 := Lib.hid (HI1.out.below hbi)
  clear hbi HL17 B17 HX17 HQ17 HY17 HR17 HF17 HI1
  clear HI18
  cases hT : tookB qs s2 t2 n2
  case' false =>
    have HLE := HL18
    have BE := B18
    have HXE := HX18
    have HRE := HR18
    have HFE := HF18
    clear HL18 B18 HX18 HQ18 HY18 HR18 HF18
    go_wp2_with fail
  case' true =>
    obtain ⟨hqf, hn1, hn2⟩ := took_n_bd hT
    have HTL := Lib.hid (took_less hT)
    obtain ⟨q1, q2⟩ := sharesIn_bd hqf t2
    obtain ⟨q3, q4⟩ := sharesOf_bd hqf s2 t2
    have HZY := Lib.hid (tookL_sized HZQ.out s2 t2 n2)
    go_wp2_with fail
    refine (iPartsOk_any _ HY18.out (by omega) HZY.out).mono ?_
    rw [HTL.out.1]
    rintro e wj ⟨rfl, hbj⟩
    have HL19 := Lib.hid (HL18.out.below hbj); have B19 := Lib.hid (below_trans B18.out hbj); have HX19 := Lib.hid (HX18.out.below hbj); have HQ19 := Lib.hid (HQ18.out.below hbj); have HY19 := Lib.hid (HY18.out.below hbj); have HR19 := Lib.hid (HR18.out.below hbj); have HF19 := Lib.hid (HF18.out.below hbj)
    clear hbj HL18 B18 HX18 HQ18 HY18 HR18 HF18
    go_wp2_with fail
    refine (iSharesIn_any _ _ HY19.out (by omega) HZY.out).mono ?_
    rw [HTL.out.2.1]
    rintro e wk ⟨rfl, hbk⟩
    have HL20 := Lib.hid (HL19.out.below hbk); have B20 := Lib.hid (below_trans B19.out hbk); have HX20 := Lib.hid (HX19.out.below hbk); have HQ20 := Lib.hid (HQ19.out.below hbk); have HY20 := Lib.hid (HY19.out.below hbk); have HR20 := Lib.hid (HR19.out.below hbk); have HF20 := Lib.hid (HF19.out.below hbk)
    clear hbk HL19 B19 HX19 HQ19 HY19 HR19 HF19
    go_wp2_with fail
    refine (sSharesIn_any _ _ HQ20.out (by omega) HZQ.out).mono ?_
    rintro e wl ⟨rfl, hbl⟩
    have HL21 := Lib.hid (HL20.out.below hbl); have B21 := Lib.hid (below_trans B20.out hbl); have HX21 := Lib.hid (HX20.out.below hbl); have HQ21 := Lib.hid (HQ20.out.below hbl); have HY21 := Lib.hid (HY20.out.below hbl); have HR21 := Lib.hid (HR20.out.below hbl); have HF21 := Lib.hid (HF20.out.below hbl)
    clear hbl HL20 B20 HX20 HQ20 HY20 HR20 HF20
    go_wp2_with fail
    refine (iSharesOf_any _ _ _ HY21.out (by omega) HZY.out HS2.out HT2.out).mono ?_
    rw [HTL.out.2.2]
    rintro e wm ⟨rfl, hbm⟩
    have HL22 := Lib.hid (HL21.out.below hbm); have B22 := Lib.hid (below_trans B21.out hbm); have HX22 := Lib.hid (HX21.out.below hbm); have HQ22 := Lib.hid (HQ21.out.below hbm); have HY22 := Lib.hid (HY21.out.below hbm); have HR22 := Lib.hid (HR21.out.below hbm); have HF22 := Lib.hid (HF21.out.below hbm)
    clear hbm HL21 B21 HX21 HQ21 HY21 HR21 HF21
    go_wp2_with fail
    refine (sSharesOf_any _ _ _ HQ22.out (by omega) HZQ.out).mono ?_
    rintro e wn ⟨rfl, hbn⟩
    have HL23 := Lib.hid (HL22.out.below hbn); have B23 := Lib.hid (below_trans B22.out hbn); have HX23 := Lib.hid (HX22.out.below hbn); have HQ23 := Lib.hid (HQ22.out.below hbn); have HY23 := Lib.hid (HY22.out.below hbn); have HR23 := Lib.hid (HR22.out.below hbn); have HF23 := Lib.hid (HF22.out.below hbn)
    clear hbn HL22 B22 HX22 HQ22 HY22 HR22 HF22
    have HLE := HL23
    have BE := B23
    have HXE := HX23
    have HRE := HR23
    have HFE := HF23
    clear HL23 B23 HX23 HQ23 HY23 HR23 HF23
    go_wp2_with fail
    clear q1 q2 q3 q4 hqf hn1 hn2 HTL HZY
  all_goals
    clear hT
    go_loopw [22] (fun i w' => ∃ k : Nat, k ≤ (partsForV rs one).length ∧ i = .int .i64 k ∧ Below w.heap.size w w' ∧ Recs Par.cs w' (some ⟨g, 0, none⟩) ps ∧ Recs Par.cs w' ax (gaveL ps s t n) ∧ Recs Par.cs w' (some ⟨gr, 0, none⟩) rs ∧ Recs Par.cs w' af (partsForV rs one)) (fun i _ => (partsForV rs one).length - (intOf i).toNat)
    case atStart => exact ⟨0, Nat.zero_le _, rfl, BE.out, HLE.out, HXE.out, HRE.out, HFE.out⟩
    case round =>
      clear BE HLE HXE HRE HFE
      obtain ⟨k, hk, rfl, hb, hl, hx, hr, hf⟩ := hrel
      have B0 := Lib.hid hb; have HL0 := Lib.hid hl; have HX0 := Lib.hid hx; have HR0 := Lib.hid hr; have HF0 := Lib.hid hf
      clear hb hl hx hr hf
      by_cases hlt : k < (partsForV rs one).length
      · obtain ⟨hq1, hq2⟩ := for_one hlt
        obtain ⟨bf, off, rfl, _, c0, c1, c2⟩ := Par.at HF0.out k hlt
        have e0 := Grow.cell c0
        have e1 := Grow.cell c1
        have e2 := Grow.cell c2
        have HQ2 := Lib.hid hq2
        have HMZ := Lib.hid (for_sized HZR.out one k hlt).2
        clear hq2 c0 c1 c2
        go_wp2
        refine wp_region_grow (by kernel_rfl) (by kernel_rfl) ?_
        repeat (go_big_quiet_step ((go_at_call 21; exact grow_call (int_is HQ2.out) (iSharesOf_any _ _ _ (HR0.out.below (Grow.ok _)) (by omega) HZR.out HO.out HMZ.out))))
        refine wpQuiet_nil ?_
        intro _ hw'
        obtain ⟨gq, rfl⟩ := hw'
        have BN := Lib.hid (below_trans B0.out gq.ok); have HLN := Lib.hid (HL0.out.below gq.ok); have HXN := Lib.hid (HX0.out.below gq.ok); have HRN := Lib.hid (HR0.out.below gq.ok); have HFN := Lib.hid (HF0.out.below gq.ok)
        go_wp2
        go_roundw
        case rel => exact ⟨k + 1, by omega, by go_num, BN.out, HLN.out, HXN.out, HRN.out, HFN.out⟩
        case measure => simp [intOf]; omega
      · cases hG : gaveB ps s t n
        · cases hp : partsB ps
          · have hx0 : (gaveL ps s t n).length = 0 := by rw [(gave_no hp).2]; rfl
            go_wp2_with fail
            refine (sPartsOk_any _ HL0.out (by omega) HZP.out).mono ?_
            rw [hp]
            rintro e wo ⟨rfl, hbo⟩
            have BO := Lib.hid (below_trans B0.out hbo)
            clear hbo
            go_wp2
            go_ret
            exact ⟨rfl, BO.out⟩
          · have HXL := Lib.hid (gave_keep hp hG)
            have hx1 := HX0.out
            rw [HXL.out] at hx1
            have HX1 := Lib.hid hx1
            have HLN := Lib.hid (show (gaveL ps s t n).length = ps.length by rw [HXL.out])
            clear hx1
            go_wp2_with fail
            refine (sPartsOk_any _ HL0.out (by omega) HZP.out).mono ?_
            rw [hp]
            rintro e wo ⟨rfl, hbo⟩
            have BO := Lib.hid (below_trans B0.out hbo); have HLO := Lib.hid (HL0.out.below hbo); have HXO2 := Lib.hid (HX1.out.below hbo)
            clear hbo
            go_wp2_with fail
            rw [HLN.out]
            refine (likeParts_same _ _ HXO2.out HLO.out (by omega)).mono ?_
            rintro e wp ⟨rfl, hbp⟩
            have BP := Lib.hid (below_trans BO.out hbp)
            clear hbp
            go_wp2
            go_ret
            exact ⟨rfl, BP.out⟩
        · have HGT := Lib.hid (gave_took hG)
          obtain ⟨hpf, hn1, hn2⟩ := gave_n_bd hG
          obtain ⟨q1, q2⟩ := sharesIn_bd hpf t
          have HZX := Lib.hid (gaveL_sized HZP.out HS.out HT.out n)
          obtain ⟨bx, rfl⟩ : ∃ bx, ax = some ⟨bx, 0, none⟩ := by
            rcases HXO.out with h0 | ⟨bx, e, -⟩
            · exact absurd h0 (gave_some hG)
            · exact ⟨bx, e⟩
          go_wp2_with fail
          refine (iTook_any _ _ _ _ HX0.out HCX.out (by omega) HZX.out HS.out HT.out).mono ?_
          rw [HGT.out.2.1, HGT.out.2.2.1]
          rintro e wo ⟨ak, ck, rfl, hk2, hbo, -⟩
          have HK0 := Lib.hid hk2.1; have BO := Lib.hid (below_trans B0.out hbo); have HLO := Lib.hid (HL0.out.below hbo); have HXO2 := Lib.hid (HX0.out.below hbo)
          clear hk2 hbo
          go_wp2_with fail
          refine (iPartsOk_any _ HXO2.out (by omega) HZX.out).mono ?_
          rw [HGT.out.1]
          rintro e wp ⟨rfl, hbp⟩
          have HKP := Lib.hid (HK0.out.below hbp); have BP := Lib.hid (below_trans BO.out hbp); have HLP := Lib.hid (HLO.out.below hbp); have HXP := Lib.hid (HXO2.out.below hbp)
          clear hbp
          go_wp2_with fail
          refine (likeParts_same _ _ HKP.out HLP.out (by omega)).mono ?_
          rintro e wq ⟨rfl, hbq⟩
          have BQ := Lib.hid (below_trans BP.out hbq); have HLQ := Lib.hid (HLP.out.below hbq); have HXQ := Lib.hid (HXP.out.below hbq)
          clear hbq
          go_wp2_with fail
          refine (iSharesIn_any _ _ HXQ.out (by omega) HZX.out).mono ?_
          rw [HGT.out.2.2.2]
          rintro e wr2 ⟨rfl, hbr⟩
          have BR := Lib.hid (below_trans BQ.out hbr); have HLR := Lib.hid (HLQ.out.below hbr)
          clear hbr
          go_wp2_with fail
          refine (sSharesIn_any _ _ HLR.out (by omega) HZP.out).mono ?_
          rintro e ws ⟨rfl, hbs⟩
          have BS := Lib.hid (below_trans BR.out hbs)
          clear hbs
          go_wp2
          go_ret
          exact ⟨rfl, BS.out⟩

/-! ### STEP 1: THE WALK: the Go text returns true, AND WRITES NOTHING THAT WAS THERE: 'Below w.heap.size w w'' (Derived/Below.lean: '.refl', '.alloc', '.drew', '.setCell' at a new block, '.trans'). Open each 'IsRow' by 'rcases' AHEAD of 'go_enter'; part every test ahead of the walk. -/
theorem walk (a0 : Option Addr) (len0 cap0 : Nat) (z0 : List Int) (w : World) (w0 : IsRow .u8 w a0 len0 cap0 z0) :
    Calls Try.prog 3 #[.slice a0 len0 cap0] w fun e w' => e = .returned (.bool true) ∧ Below w.heap.size w w' := by
  by_cases hbig : len0 ≤ 4096
  case neg => exact walk_big _ _ _ _ hbig
  refine walk_small _ _ _ _ ⟨fun k hk => ?_, hbig⟩
  rcases w0 with ⟨_, rfl, _, _⟩ | ⟨x, rfl, hl, _, hz, hc, hwf⟩
  · omega
  · obtain ⟨b, off, rfl, hc2⟩ := ints_at hc (by omega)
    have hk2 : k < z0.length := by omega
    have hw := hwf (z0.getD k 0) (by rw [List.getD_eq_getElem?_getD, List.getElem?_eq_getElem hk2, Option.getD_some]; exact List.getElem_mem hk2)
    have hb := bounds_u8 hw
    exact ⟨b, off, _, rfl, by omega, by omega, hc2 k hk2⟩

/-! ### THE ROW's STEP: WRITTEN OUT: LEAVE IT -/
set_option maxRecDepth 100000 in
theorem lifted (os : Os) (started : os.Started) (H : Type) (enc : TypeId × Value → H) :
    ReturnsInHanded {} Try.checked os 3 .any (Rows.fnPartsSpec.pre6 enc Try.prog Try.f3 Rows.fnPartsRow.domain false) (Rows.fnPartsSpec.post enc Try.prog Try.f3 false true false false) := by
  refine returnsInHanded_of_change (C := Try.checked) own started (by kernel_rfl) Try.func3
    (ChangeSpec.witness6 (enc := enc) (C := Try.checked) false ⟨#[], #[.slice none 0 0], []⟩ 8 (by kernel_rfl) (by kernel_rfl) (by kernel_rfl) (by kernel_rfl)) ?_
  intro W base args ds gs before hval0 hW hcnd _
  have hval : ∀ (j : Nat) t v, Try.f3.params[j]? = some t → args[j]? = some v → Value.okWide Try.prog W .any base t v := hval0
  have hW' := hW
  obtain ⟨p, q, hA0, hV, rfl, hfz, hnd⟩ := hW
  have hA : DataW.TrodAll enc Try.prog W 0 (fun _ => true) true Try.f3.params.toList args.toList ds p := hA0
  rw [Try.params3] at hA hval
  obtain ⟨v0, vs0, d0, ds0, p0, q0, hargs, rfl, rfl, h0, r0⟩ := trodAll_cons hA
  obtain ⟨rfl, rfl, rfl⟩ := trodAll_nil r0
  obtain rfl : args = #[v0] := by cases args; simp_all
  obtain ⟨rfl, rfl⟩ := trodVars_none hV
  obtain ⟨a0, len0, cap0, rfl⟩ := okWide_slice Try.underlying22 (hval 0 22 v0 rfl rfl)
  have k0 := h0
  have lt0 : ∀ x ∈ p0, x.block < W.heap.size := by obtain ⟨m, hm⟩ := k0; exact DataW.trod_lt m _ _ _ hm
  obtain ⟨z0, w0⟩ : ∃ zs, IsRow .u8 W a0 len0 cap0 zs := by
    obtain ⟨fuel, hf⟩ := h0
    rcases open_ints Try.underlying22 Try.underlying5 (by kernel_rfl) hf with ⟨hcs, _⟩ | ⟨x, l, c, zs, hcs, _, hl, hm, hz, _, hcell, hwz⟩
    · simp [Value.cells] at hcs
      obtain ⟨rfl, rfl, rfl⟩ := hcs
      exact ⟨[], .inl ⟨rfl, rfl, rfl, rfl⟩⟩
    · simp [Value.cells] at hcs
      obtain ⟨rfl, rfl, rfl⟩ := hcs
      exact ⟨zs, .inr ⟨_, rfl, hl, hm, by simpa using hz, hcell, hwz⟩⟩
  clear hA0 hval0
  refine (walk a0 len0 cap0 z0 W w0).mono fun e W' ⟨he, bel⟩ => ?_
  subst he
  exact ⟨_, rfl, _, _, _, [], _, [], hW', trodAll_mk1 (shut_bool Try.underlying4 _), (trodAll_cons_mk (Below.trod laidOut (by kernel_rfl) (of_decide_eq_true (by kernel_rfl)) k0 bel lt0) trodAll_mk0), rfl, bel.frame _, fun h => by cases h⟩

theorem over : Rows.fnPartsRow.holds Try.pinned (OpenSpec.ofChange Rows.fnPartsSpec) :=
  OpenClaim.holds_of_wide 3 Try.f3 rfl rfl rfl rfl rfl rfl rfl ⟨rfl, rfl, rfl, rfl, rfl⟩ rfl rfl rfl rfl rfl (by kernel_rfl) Try.func3 (by kernel_rfl)
    (of_decide_eq_true (by kernel_rfl)) (by unfold Func.isWrapper; first | (rw [if_pos (by decide +kernel)]; kernel_rfl) | (rw [if_neg (by decide +kernel)]; exact ⟨rfl, rfl⟩))
    (fun os started H enc _ => lifted os started H enc)

/-- ████ THE STATEMENT ████ -/
theorem proved : Rows.FnPartsSaid := over
#print axioms proved
end Go.Proofs.Ytpmibegfpfjdgaa.fnParts
