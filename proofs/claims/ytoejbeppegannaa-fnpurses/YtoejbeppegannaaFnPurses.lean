/-
  Of whatever is drawn, what was paid can be spent, and of all others nothing changes; Paid, Spent, FolkOk, FreeOf and FreeIn answer as the model does: the law FnPurses returns true at every slice of bytes, which reads as before. No condition.
-/
import Derived.Test.YtoejbeppegannaaDraw3L
import Derived.Test.YtoejbeppegannaaFacts3
import Derived.WalkKit
import Derived.ProofKit
import Derived.OpenShut
import Derived.ShutString
import Derived.ChangeOld
import Derived.Below
namespace Go.Proofs.Ytoejbeppegannaa.fnPurses
open Go.ChangeShapes Go.WideShapes Go.ChangeAt Go.RowKit
open Go.ChangeMaps (open_string shut_string)
set_option linter.unusedVariables false

theorem own : ownKnob Try.prog.godebug = none := by kernel_rfl
theorem laidOut : laidOutB Try.prog = true := by kernel_rfl

/-- WHAT THE WALK IS TOLD OF A SLICE OF INTEGERS THAT CAME IN: it is nil; or it leads to a row of 'cap' cells, the numbers 'zs' (the first 'len' are its elements, the rest its spare room), each fitting its kind. -/
def IsRow (k : IntKind) (w : World) (a : Option Addr) (len cap : Nat) (zs : List Int) : Prop :=
  (a = none ∧ len = 0 ∧ cap = 0 ∧ zs = []) ∨
  ∃ x, a = some x ∧ len ≤ cap ∧ cap ≤ maxLen ∧ zs.length = cap ∧ (∀ i, i < zs.length → w.cell? (x.add i) = some (.int k (zs.getD i 0))) ∧ ∀ n ∈ zs, (Lit.int k n).wf = true

set_option maxRecDepth 100000 in
theorem walk_big (a0 : Option Addr) (len0 cap0 : Nat) (w : World) (hbig : ¬ len0 ≤ 4096) :
    Calls Try.prog 3 #[.slice a0 len0 cap0] w fun e w' => e = .returned (.bool true) ∧ Below w.heap.size w w' := by
  go_enter Try.func3, Try.ntmps3
  go_wp2_with fail
  refine (big_yes _ _ _ _ hbig).mono ?_
  rintro e w' ⟨rfl, rfl⟩
  go_wp2
  go_ret
  exact ⟨rfl, Below.refl _ _⟩

theorem payL_le (ps : List Pur) (s : ByteArray) (n d : Int) : (payL ps s n d).length ≤ ps.length := by
  unfold payL
  split
  · split
    · rw [setFree_length]; exact Nat.le_refl _
    · exact Nat.le_refl _
  · exact Nat.zero_le _

theorem drawn_below {w w' : World} (h : ∃ n, w' = w.drewN n) : Below w.heap.size w w' := by
  obtain ⟨n, rfl⟩ := h
  exact below_draws (Below.refl _ _) n

set_option maxRecDepth 100000 in
set_option maxHeartbeats 8000000 in
theorem walk_small (a0 : Option Addr) (len0 cap0 : Nat) (w : World) (hsrc : Src w a0 len0) :
    Calls Try.prog 3 #[.slice a0 len0 cap0] w fun e w' => e = .returned (.bool true) ∧ Below w.heap.size w w' := by
  have HSRC := Lib.hid hsrc
  clear hsrc
  go_enter Try.func3, Try.ntmps3
  go_wp2_with fail
  refine (big_any _ _ _ _ HSRC.out.small).mono ?_
  rintro e w' ⟨rfl, rfl⟩
  go_wp2_with fail
  refine (drawPaid_any HSRC.out).mono ?_
  rintro e w1 ⟨g, c, ps, s, n, rfl, hf1, hn1, hb1⟩
  have hn2 := hn1.1; have hn3 := hn1.2; clear hn1
  have hfew := hf1.few
  have HZ := Lib.hid hf1.short
  have hle1 := payL_le ps s n n; have hle2 := payL_le ps s n (-n)
  have HL1 := Lib.hid hf1.lies; have B1 := Lib.hid hb1; clear hf1 hb1
  go_wp2_with fail
  refine (iPaid_any _ _ _ HL1.out (by omega) HZ.out).mono ?_
  rintro e w2 ⟨ax, cx, rfl, hx2, -, hb2⟩
  have HX2 := Lib.hid hx2; have HL2 := Lib.hid (HL1.out.below hb2); have B2 := Lib.hid (below_trans B1.out hb2); clear hx2 hb2 HL1
  go_wp2_with fail
  refine (iSpent_any _ _ _ HL2.out (by omega) HZ.out).mono ?_
  rintro e w3 ⟨ay, cy, rfl, hy3, -, hb3⟩
  have HY3 := Lib.hid hy3; have HX3 := Lib.hid (HX2.out.below hb3); have HL3 := Lib.hid (HL2.out.below hb3); have B3 := Lib.hid (below_trans B2.out hb3); clear hy3 hb3 HX2 HL2
  go_wp2_with fail
  refine (drawFreeOf_any (HSRC.out.kept B3.out)).mono ?_
  rintro e w4 ⟨g4, c4, qs, t, rfl, hf4, hb4⟩
  have hqf := hf4.few
  have HQZ := Lib.hid hf4.short
  have HQ4 := Lib.hid hf4.lies; have HY4 := Lib.hid (HY3.out.below hb4); have HX4 := Lib.hid (HX3.out.below hb4); have HL4 := Lib.hid (HL3.out.below hb4); have B4 := Lib.hid (below_trans B3.out hb4); clear hf4 hb4 HY3 HX3 HL3 HSRC
  go_wp2_with fail
  refine (sPaid_any _ _ _ HL4.out (by omega) HZ.out).mono ?_
  rintro e w5 ⟨az, cz, rfl, hz5, -, hb5⟩
  have HZ5 := Lib.hid hz5; have HQ5 := Lib.hid (HQ4.out.below hb5); have HY5 := Lib.hid (HY4.out.below hb5); have HX5 := Lib.hid (HX4.out.below hb5); have HL5 := Lib.hid (HL4.out.below hb5); have B5 := Lib.hid (below_trans B4.out hb5); clear hz5 hb5 HQ4 HY4 HX4 HL4
  go_wp2_with fail
  refine (likeFolk_same _ _ HX5.out HZ5.out (by omega)).mono ?_
  rintro e w6 ⟨rfl, n6, rfl⟩
  have B6 := Lib.hid (below_draws B5.out n6)
  have HQ6 := Lib.hid (show Purs (w5.drewN n6) _ qs from HQ5.out); have HY6 := Lib.hid (show Purs (w5.drewN n6) ay _ from HY5.out); have HX6 := Lib.hid (show Purs (w5.drewN n6) ax _ from HX5.out); have HL6 := Lib.hid (show Purs (w5.drewN n6) _ ps from HL5.out); clear HZ5 HQ5 HY5 HX5 HL5
  go_wp2_with fail
  refine (iFolkOk_any _ HL6.out (by omega) HZ.out).mono ?_
  rintro e w7 ⟨rfl, hb7⟩
  have HQ7 := Lib.hid (HQ6.out.below hb7); have HY7 := Lib.hid (HY6.out.below hb7); have HX7 := Lib.hid (HX6.out.below hb7); have HL7 := Lib.hid (HL6.out.below hb7); have B7 := Lib.hid (below_trans B6.out hb7); clear hb7 HQ6 HY6 HX6 HL6
  go_wp2_with fail
  refine (sFolkOk_any _ HL7.out (by omega) HZ.out).mono ?_
  rintro e w8 ⟨rfl, n8, rfl⟩
  have B8 := Lib.hid (below_draws B7.out n8)
  have HQ8 := Lib.hid (show Purs (w7.drewN n8) _ qs from HQ7.out); have HY8 := Lib.hid (show Purs (w7.drewN n8) ay _ from HY7.out); have HX8 := Lib.hid (show Purs (w7.drewN n8) ax _ from HX7.out); have HL8 := Lib.hid (show Purs (w7.drewN n8) _ ps from HL7.out); clear HQ7 HY7 HX7 HL7
  go_wp2_with fail
  refine (iFreeOf_any _ _ HQ8.out (by omega) HQZ.out).mono ?_
  rintro e w9 ⟨rfl, hb9⟩
  have HQ9 := Lib.hid (HQ8.out.below hb9); have HY9 := Lib.hid (HY8.out.below hb9); have HX9 := Lib.hid (HX8.out.below hb9); have HL9 := Lib.hid (HL8.out.below hb9); have B9 := Lib.hid (below_trans B8.out hb9); clear hb9 HQ8 HY8 HX8 HL8
  go_wp2_with fail
  refine (sFreeOf_any _ _ HQ9.out (by omega) HQZ.out).mono ?_
  rintro e wa ⟨rfl, hba⟩
  have HQa := Lib.hid (HQ9.out.below hba); have HYa := Lib.hid (HY9.out.below hba); have HXa := Lib.hid (HX9.out.below hba); have HLa := Lib.hid (HL9.out.below hba); have Ba := Lib.hid (below_trans B9.out hba); clear hba HQ9 HY9 HX9 HL9
  go_wp2_with fail
  refine (iFreeIn_any _ HQa.out (by omega) HQZ.out).mono ?_
  rintro e wb ⟨rfl, hbb⟩
  have HQb := Lib.hid (HQa.out.below hbb); have HYb := Lib.hid (HYa.out.below hbb); have HXb := Lib.hid (HXa.out.below hbb); have HLb := Lib.hid (HLa.out.below hbb); have Bb := Lib.hid (below_trans Ba.out hbb); clear hbb HQa HYa HXa HLa
  go_wp2_with fail
  refine (sFreeIn_any _ HQb.out (by omega) HQZ.out).mono ?_
  rintro e wc ⟨rfl, nc, rfl⟩
  have Bc := Lib.hid (below_draws Bb.out nc)
  have HYc := Lib.hid (show Purs (wb.drewN nc) ay _ from HYb.out); have HXc := Lib.hid (show Purs (wb.drewN nc) ax _ from HXb.out); have HLc := Lib.hid (show Purs (wb.drewN nc) _ ps from HLb.out); clear HQb HYb HXb HLb
  go_wp2_with fail
  refine (sSpent_any _ _ _ HLc.out (by omega) HZ.out).mono ?_
  rintro e wd ⟨av, cv, rfl, hvd, -, hbd⟩
  have HVd := Lib.hid hvd; have HYd := Lib.hid (HYc.out.below hbd); have HXd := Lib.hid (HXc.out.below hbd); have HLd := Lib.hid (HLc.out.below hbd); have Bd := Lib.hid (below_trans Bc.out hbd); clear hvd hbd HYc HXc HLc
  go_wp2_with fail
  refine (likeFolk_same _ _ HYd.out HVd.out (by omega)).mono ?_
  rintro e we ⟨rfl, ne, rfl⟩
  have Be := Lib.hid (below_draws Bd.out ne)
  have HYe := Lib.hid (show Purs (wd.drewN ne) ay _ from HYd.out); have HXe := Lib.hid (show Purs (wd.drewN ne) ax _ from HXd.out); have HLe := Lib.hid (show Purs (wd.drewN ne) _ ps from HLd.out); clear HVd HYd HXd HLd
  cases hS : payB ps s n (-n)
  · cases hI : payB ps s n n
    · go_wp2_with fail
      refine (sFolkOk_any _ HLe.out (by omega) HZ.out).mono ?_
      rintro e wp ⟨rfl, hdp⟩
      have hbp := drawn_below hdp
      have Bp := Lib.hid (below_trans Be.out hbp); have HXo := Lib.hid (HXe.out.below hbp); have HLp := Lib.hid (HLe.out.below hbp); clear hdp hbp
      cases hf : folkB ps
      · rw [(pay_no (ps := ps) (s := s) (n := n) (d := n) hf).2]
        go_wp2
        go_ret
        exact ⟨rfl, Bp.out⟩
      · have HE := Lib.hid (pay_keep hf hI)
        have HXp := Lib.hid (show Purs wp ax ps from by have := HXo.out; rw [HE.out] at this; exact this)
        rw [HE.out]
        go_wp2_with fail
        refine (likeFolk_same _ _ HXp.out HLp.out (by omega)).mono ?_
        rintro e wq ⟨rfl, hdq⟩
        have Bq := Lib.hid (below_trans Bp.out (drawn_below hdq)); clear hdq
        go_wp2
        go_ret
        exact ⟨rfl, Bq.out⟩
    · have HBK := Lib.hid (pay_back hI)
      have HIN := Lib.hid (pay_in hI)
      obtain ⟨hb1, hb2, hb3, hb4, -, -⟩ := pay_n_bd hI
      have HSX := Lib.hid (pay_short (s := s) (n := n) (d := n) HZ.out)
      go_wp2_with fail
      refine (iSpent_any _ _ _ HXe.out (by omega) HSX.out).mono ?_
      rw [HBK.out.1, HBK.out.2]
      rintro e wp ⟨ak, ck, rfl, hkp, -, hbp⟩
      have HKp := Lib.hid hkp; have HXp := Lib.hid (HXe.out.below hbp); have HLp := Lib.hid (HLe.out.below hbp); have Bp := Lib.hid (below_trans Be.out hbp); clear hkp hbp
      go_wp2_with fail
      refine (iFolkOk_any _ HXp.out (by omega) HSX.out).mono ?_
      rw [HIN.out.2.2]
      rintro e wq ⟨rfl, hbq⟩
      have HKq := Lib.hid (HKp.out.below hbq); have HXq := Lib.hid (HXp.out.below hbq); have HLq := Lib.hid (HLp.out.below hbq); have Bq := Lib.hid (below_trans Bp.out hbq); clear hbq HKp HXp HLp
      go_wp2_with fail
      refine (likeFolk_same _ _ HKq.out HLq.out (by omega)).mono ?_
      rintro e wr ⟨rfl, hdr⟩
      have hbr := drawn_below hdr
      have Br := Lib.hid (below_trans Bq.out hbr); have HXr := Lib.hid (HXq.out.below hbr); have HLr := Lib.hid (HLq.out.below hbr); clear hdr hbr HKq HXq HLq
      go_wp2_with fail
      refine (iFreeIn_any _ HXr.out (by omega) HSX.out).mono ?_
      rw [HIN.out.1]
      rintro e ws ⟨rfl, hbs⟩
      have HLs := Lib.hid (HLr.out.below hbs); have Bs := Lib.hid (below_trans Br.out hbs); clear hbs HXr HLr
      go_wp2_with fail
      refine (sFreeIn_any _ HLs.out (by omega) HZ.out).mono ?_
      rintro e wt ⟨rfl, hdt⟩
      have Bt := Lib.hid (below_trans Bs.out (drawn_below hdt)); clear hdt
      go_wp2
      go_ret
      exact ⟨rfl, Bt.out⟩
  · have HIN2 := Lib.hid (show freeInV (payL ps s n (-n)) = freeInV ps - n from by have := (pay_in hS).1; omega)
    have HOF2 := Lib.hid (show freeOfV (payL ps s n (-n)) s = freeOfV ps s - n from by have := (pay_in hS).2.1; omega)
    have hbd := pay_n_bd hS
    obtain ⟨hd1, hd2, hd3, hd4, hd5, hd6⟩ := hbd
    have HSY := Lib.hid (pay_short (s := s) (n := n) (d := -n) HZ.out)
    go_wp2_with fail
    refine (iFreeIn_any _ HYe.out (by omega) HSY.out).mono ?_
    rw [HIN2.out]
    rintro e wf ⟨rfl, hbf⟩
    have HYf := Lib.hid (HYe.out.below hbf); have HXf := Lib.hid (HXe.out.below hbf); have HLf := Lib.hid (HLe.out.below hbf); have Bf := Lib.hid (below_trans Be.out hbf); clear hbf HYe HXe HLe
    go_wp2_with fail
    refine (sFreeIn_any _ HLf.out (by omega) HZ.out).mono ?_
    rintro e wg ⟨rfl, ng, rfl⟩
    have Bg := Lib.hid (below_draws Bf.out ng)
    have HYg := Lib.hid (show Purs (wf.drewN ng) ay _ from HYf.out); have HXg := Lib.hid (show Purs (wf.drewN ng) ax _ from HXf.out); have HLg := Lib.hid (show Purs (wf.drewN ng) _ ps from HLf.out); clear HYf HXf HLf
    go_wp2_with fail
    refine (iFreeOf_any _ _ HYg.out (by omega) HSY.out).mono ?_
    rw [HOF2.out]
    rintro e wh ⟨rfl, hbh⟩
    have HXh := Lib.hid (HXg.out.below hbh); have HLh := Lib.hid (HLg.out.below hbh); have Bh := Lib.hid (below_trans Bg.out hbh); clear hbh HYg HXg HLg
    go_wp2_with fail
    refine (sFreeOf_any _ _ HLh.out (by omega) HZ.out).mono ?_
    rintro e wi ⟨rfl, hbi⟩
    have HXi := Lib.hid (HXh.out.below hbi); have HLi := Lib.hid (HLh.out.below hbi); have Bi := Lib.hid (below_trans Bh.out hbi); clear hbi HXh HLh
    cases hI : payB ps s n n
    · go_wp2_with fail
      refine (sFolkOk_any _ HLi.out (by omega) HZ.out).mono ?_
      rintro e wp ⟨rfl, hdp⟩
      have hbp := drawn_below hdp
      have Bp := Lib.hid (below_trans Bi.out hbp); have HXo := Lib.hid (HXi.out.below hbp); have HLp := Lib.hid (HLi.out.below hbp); clear hdp hbp
      cases hf : folkB ps
      · rw [(pay_no (ps := ps) (s := s) (n := n) (d := n) hf).2]
        go_wp2
        go_ret
        exact ⟨rfl, Bp.out⟩
      · have HE := Lib.hid (pay_keep hf hI)
        have HXp := Lib.hid (show Purs wp ax ps from by have := HXo.out; rw [HE.out] at this; exact this)
        rw [HE.out]
        go_wp2_with fail
        refine (likeFolk_same _ _ HXp.out HLp.out (by omega)).mono ?_
        rintro e wq ⟨rfl, hdq⟩
        have Bq := Lib.hid (below_trans Bp.out (drawn_below hdq)); clear hdq
        go_wp2
        go_ret
        exact ⟨rfl, Bq.out⟩
    · have HBK := Lib.hid (pay_back hI)
      have HIN := Lib.hid (pay_in hI)
      obtain ⟨hb1, hb2, hb3, hb4, -, -⟩ := pay_n_bd hI
      have HSX := Lib.hid (pay_short (s := s) (n := n) (d := n) HZ.out)
      go_wp2_with fail
      refine (iSpent_any _ _ _ HXi.out (by omega) HSX.out).mono ?_
      rw [HBK.out.1, HBK.out.2]
      rintro e wp ⟨ak, ck, rfl, hkp, -, hbp⟩
      have HKp := Lib.hid hkp; have HXp := Lib.hid (HXi.out.below hbp); have HLp := Lib.hid (HLi.out.below hbp); have Bp := Lib.hid (below_trans Bi.out hbp); clear hkp hbp
      go_wp2_with fail
      refine (iFolkOk_any _ HXp.out (by omega) HSX.out).mono ?_
      rw [HIN.out.2.2]
      rintro e wq ⟨rfl, hbq⟩
      have HKq := Lib.hid (HKp.out.below hbq); have HXq := Lib.hid (HXp.out.below hbq); have HLq := Lib.hid (HLp.out.below hbq); have Bq := Lib.hid (below_trans Bp.out hbq); clear hbq HKp HXp HLp
      go_wp2_with fail
      refine (likeFolk_same _ _ HKq.out HLq.out (by omega)).mono ?_
      rintro e wr ⟨rfl, hdr⟩
      have hbr := drawn_below hdr
      have Br := Lib.hid (below_trans Bq.out hbr); have HXr := Lib.hid (HXq.out.below hbr); have HLr := Lib.hid (HLq.out.below hbr); clear hdr hbr HKq HXq HLq
      go_wp2_with fail
      refine (iFreeIn_any _ HXr.out (by omega) HSX.out).mono ?_
      rw [HIN.out.1]
      rintro e ws ⟨rfl, hbs⟩
      have HLs := Lib.hid (HLr.out.below hbs); have Bs := Lib.hid (below_trans Br.out hbs); clear hbs HXr HLr
      go_wp2_with fail
      refine (sFreeIn_any _ HLs.out (by omega) HZ.out).mono ?_
      rintro e wt ⟨rfl, hdt⟩
      have Bt := Lib.hid (below_trans Bs.out (drawn_below hdt)); clear hdt
      go_wp2
      go_ret
      exact ⟨rfl, Bt.out⟩

/-! ### STEP 1: THE WALK: the Go text returns true, AND WRITES NOTHING THAT WAS THERE: 'Below w.heap.size w w'' (Derived/Below.lean: '.refl', '.alloc', '.drew', '.setCell' at a new block, '.trans'). Open each 'IsRow' by 'rcases' AHEAD of 'go_enter'; part every test ahead of the walk. -/
theorem walk (a0 : Option Addr) (len0 cap0 : Nat) (z0 : List Int) (w : World) (w0 : IsRow .u8 w a0 len0 cap0 z0) :
    Calls Try.prog 3 #[.slice a0 len0 cap0] w fun e w' => e = .returned (.bool true) ∧ Below w.heap.size w w' := by
  by_cases hbig : len0 ≤ 4096
  case neg => exact walk_big _ _ _ _ hbig
  refine walk_small _ _ _ _ ⟨fun k hk => ?_, hbig⟩
  rcases w0 with ⟨_, rfl, _, _⟩ | ⟨x, rfl, hl, _, hz, hc, hwf⟩
  · omega
  · obtain ⟨b, off, rfl, hc2⟩ := ints_at hc (by omega)
    have hk2 : k < z0.length := by omega
    have hw := hwf (z0.getD k 0) (by rw [List.getD_eq_getElem?_getD, List.getElem?_eq_getElem hk2, Option.getD_some]; exact List.getElem_mem hk2)
    have hb := bounds_u8 hw
    exact ⟨b, off, _, rfl, by omega, by omega, hc2 k hk2⟩

/-! ### THE ROW's STEP: WRITTEN OUT: LEAVE IT -/
set_option maxRecDepth 100000 in
theorem lifted (os : Os) (started : os.Started) (H : Type) (enc : TypeId × Value → H) :
    ReturnsInHanded {} Try.checked os 3 .any (Rows.fnPursesSpec.pre6 enc Try.prog Try.f3 Rows.fnPursesRow.domain false) (Rows.fnPursesSpec.post enc Try.prog Try.f3 false true false false) := by
  refine returnsInHanded_of_change (C := Try.checked) own started (by kernel_rfl) Try.func3
    (ChangeSpec.witness6 (enc := enc) (C := Try.checked) false ⟨#[], #[.slice none 0 0], []⟩ 8 (by kernel_rfl) (by kernel_rfl) (by kernel_rfl) (by kernel_rfl)) ?_
  intro W base args ds gs before hval0 hW hcnd _
  have hval : ∀ (j : Nat) t v, Try.f3.params[j]? = some t → args[j]? = some v → Value.okWide Try.prog W .any base t v := hval0
  have hW' := hW
  obtain ⟨p, q, hA0, hV, rfl, hfz, hnd⟩ := hW
  have hA : DataW.TrodAll enc Try.prog W 0 (fun _ => true) true Try.f3.params.toList args.toList ds p := hA0
  rw [Try.params3] at hA hval
  obtain ⟨v0, vs0, d0, ds0, p0, q0, hargs, rfl, rfl, h0, r0⟩ := trodAll_cons hA
  obtain ⟨rfl, rfl, rfl⟩ := trodAll_nil r0
  obtain rfl : args = #[v0] := by cases args; simp_all
  obtain ⟨rfl, rfl⟩ := trodVars_none hV
  obtain ⟨a0, len0, cap0, rfl⟩ := okWide_slice Try.underlying22 (hval 0 22 v0 rfl rfl)
  have k0 := h0
  have lt0 : ∀ x ∈ p0, x.block < W.heap.size := by obtain ⟨m, hm⟩ := k0; exact DataW.trod_lt m _ _ _ hm
  obtain ⟨z0, w0⟩ : ∃ zs, IsRow .u8 W a0 len0 cap0 zs := by
    obtain ⟨fuel, hf⟩ := h0
    rcases open_ints Try.underlying22 Try.underlying5 (by kernel_rfl) hf with ⟨hcs, _⟩ | ⟨x, l, c, zs, hcs, _, hl, hm, hz, _, hcell, hwz⟩
    · simp [Value.cells] at hcs
      obtain ⟨rfl, rfl, rfl⟩ := hcs
      exact ⟨[], .inl ⟨rfl, rfl, rfl, rfl⟩⟩
    · simp [Value.cells] at hcs
      obtain ⟨rfl, rfl, rfl⟩ := hcs
      exact ⟨zs, .inr ⟨_, rfl, hl, hm, by simpa using hz, hcell, hwz⟩⟩
  clear hA0 hval0
  refine (walk a0 len0 cap0 z0 W w0).mono fun e W' ⟨he, bel⟩ => ?_
  subst he
  exact ⟨_, rfl, _, _, _, [], _, [], hW', trodAll_mk1 (shut_bool Try.underlying4 _), (trodAll_cons_mk (Below.trod laidOut (by kernel_rfl) (of_decide_eq_true (by kernel_rfl)) k0 bel lt0) trodAll_mk0), rfl, bel.frame _, fun h => by cases h⟩

theorem over : Rows.fnPursesRow.holds Try.pinned (OpenSpec.ofChange Rows.fnPursesSpec) :=
  OpenClaim.holds_of_wide 3 Try.f3 rfl rfl rfl rfl rfl rfl rfl ⟨rfl, rfl, rfl, rfl, rfl⟩ rfl rfl rfl rfl rfl (by kernel_rfl) Try.func3 (by kernel_rfl)
    (of_decide_eq_true (by kernel_rfl)) (by unfold Func.isWrapper; first | (rw [if_pos (by decide +kernel)]; kernel_rfl) | (rw [if_neg (by decide +kernel)]; exact ⟨rfl, rfl⟩))
    (fun os started H enc _ => lifted os started H enc)

/-- ████ THE STATEMENT ████ -/
theorem proved : Rows.FnPursesSaid := over
#print axioms proved
end Go.Proofs.Ytoejbeppegannaa.fnPurses
