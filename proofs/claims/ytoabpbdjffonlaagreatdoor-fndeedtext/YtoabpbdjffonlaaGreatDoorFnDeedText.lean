/-
  Of whatever is drawn, a deed is read from its text and many with a sign between, as the model reads them: the law FnDeedText returns true at every slice of bytes, which reads as before. No condition.
-/
import Derived.Test.YtoabpbdjffonlaaGreatDoorP9
import Derived.Test.YtoabpbdjffonlaaGreatDoorP15
import Derived.Test.YtoabpbdjffonlaaGreatDoorCards
import Derived.Test.YtoabpbdjffonlaaGreatDoorTie
import Derived.Lay
import Derived.LaidMore
import Derived.SevenTiedAt
import Derived.Stop.Joined
namespace Go.Proofs.YtoabpbdjffonlaaGreatDoor.fnDeedText
open Go.ChangeShapes Go.WideShapes Go.ChangeAt Go.RowKit
open Go.ChangeMaps (open_string shut_string)
set_option linter.unusedVariables false

set_option maxRecDepth 100000 in
theorem walk_big (a0 : Option Addr) (len0 cap0 : Nat) (w : World) (hbig : ¬ len0 ≤ 4096) :
    Calls Tryz.prog 3 #[.slice a0 len0 cap0] w fun e w' => e = .returned (.bool true) ∧ Below w.heap.size w w' := by
  go_enter Tryz.func3, Tryz.ntmps3
  go_wp2_with fail
  refine (big_yes _ _ _ _ hbig).mono ?_
  rintro e w' ⟨rfl, rfl⟩
  go_wp2
  go_ret
  exact ⟨rfl, Below.refl _ _⟩
def TextRel (l : List Dee) (w : World) (v i : Value) (wr : World) : Prop :=
  ∃ j : Nat, j ≤ l.length ∧ i = .int .i64 j ∧ v = .string (textL l j) ∧ Below w.heap.size w wr
theorem sh_eq (d : Dee) : showB ⟨d.kind, d.who, d.mill, d.to, d.n⟩ = showB d := rfl
theorem ok_eq (d : Dee) : deedB ⟨d.kind, d.who, d.mill, d.to, d.n⟩ = deedB d := rfl
set_option maxRecDepth 100000 in
set_option maxHeartbeats 32000000 in
theorem walk_small (a0 : Option Addr) (len0 cap0 : Nat) (w : World) (hsrc : Src w a0 len0) (hg : Glob w) (h8 : 8 ≤ w.heap.size) :
    Calls Tryz.prog 3 #[.slice a0 len0 cap0] w fun e w' => e = .returned (.bool true) ∧ Below w.heap.size w w' := by
  have HSRC := Lib.hid hsrc
  have HG := Lib.hid hg
  have H8 := Lib.hid h8
  clear hsrc hg h8
  go_enter Tryz.func3, Tryz.ntmps3
  go_wp2_with fail
  refine (big_any _ _ _ _ HSRC.out.small).mono ?_
  rintro e w' ⟨rfl, rfl⟩
  go_wp2_with fail
  refine (drawShowDeed_any HSRC.out).mono ?_
  rintro e w1 ⟨d, hd, rfl, hb1⟩
  have HD := Lib.hid hd
  have HX := Lib.hid (RecAt.new Dee.cs w1 d 25)
  have B1 := Lib.hid (below_trans hb1 (below_new w1 (.cells #[.int .i64 d.kind, .string d.who, .string d.mill, .string d.to, .int .i64 d.n] 25)))
  obtain ⟨W1, hW1⟩ : ∃ W, w1.alloc (.cells #[.int .i64 d.kind, .string d.who, .string d.mill, .string d.to, .int .i64 d.n] 25) = W := ⟨_, rfl⟩
  rw [show w1.alloc (.cells (Dee.cs d).toArray 25) = W1 from hW1] at HX
  rw [hW1] at B1
  clear hd hb1
  have c0 := HX.out 0 _ rfl
  have c1 := HX.out 1 _ rfl
  have c2 := HX.out 2 _ rfl
  have c3 := HX.out 3 _ rfl
  have c4 := HX.out 4 _ rfl
  go_wp2_with fail
  refine (iShowDeed_any d.kind d.n d.who d.mill d.to _ (by have := HD.out.1; omega) (by have := HD.out.2.1; omega) (by have := HD.out.2.2.1; omega) HD.out.2.2.2.1 HD.out.2.2.2.2 (HG.out.below B1.out) (Nat.le_trans H8.out B1.out.size)).mono ?_
  rintro e w2 ⟨rfl, hb2⟩
  rw [sh_eq]
  clear c0 c1 c2 c3 c4
  have HX2 := Lib.hid (HX.out.below hb2)
  have B2 := Lib.hid (below_trans B1.out hb2)
  obtain ⟨s, hs⟩ : ∃ s, showB d = s := ⟨_, rfl⟩
  rw [hs]
  have HSE := Lib.hid hs
  clear hb2 hs hW1 HX B1
  go_wp2_with fail
  refine (drawReadDeed_any (HSRC.out.kept B2.out)).mono ?_
  rintro e w3 ⟨t, ht, rfl, hb3⟩
  have HX3 := Lib.hid (HX2.out.below hb3)
  have B3 := Lib.hid (below_trans B2.out hb3)
  have HT52 := Lib.hid ht
  clear hb3 ht HX2 B2
  go_wp2_with fail
  refine (iReadDeed_any t _ (by have := HT52.out; omega) (HG.out.below B3.out) (Nat.le_trans H8.out B3.out.size)).mono ?_
  rintro e w4 ⟨rfl, hb4⟩
  obtain ⟨r, hr⟩ : ∃ r, readB t = r := ⟨_, rfl⟩
  rw [hr]
  have HRE := Lib.hid hr
  clear hr
  obtain ⟨x, hx⟩ : ∃ x, r.getD (zeroD 0) = x := ⟨_, rfl⟩
  rw [hx]
  have HXE := Lib.hid hx
  clear hx
  obtain ⟨is, his⟩ : ∃ is, r.isSome = is := ⟨_, rfl⟩
  rw [his]
  have HIS := Lib.hid his
  clear his
  have HY := Lib.hid (RecAt.new Dee.cs w4 x 25)
  have bx := below_trans hb4 (below_new w4 (.cells #[.int .i64 x.kind, .string x.who, .string x.mill, .string x.to, .int .i64 x.n] 25))
  have HX4 := Lib.hid (HX3.out.below bx)
  have B4 := Lib.hid (below_trans B3.out bx)
  obtain ⟨W4, hW4⟩ : ∃ W, w4.alloc (.cells #[.int .i64 x.kind, .string x.who, .string x.mill, .string x.to, .int .i64 x.n] 25) = W := ⟨_, rfl⟩
  rw [show w4.alloc (.cells (Dee.cs x).toArray 25) = W4 from hW4] at HY
  rw [hW4] at B4 HX4
  clear hb4 bx HX3 B3
  go_wp2_with fail
  refine (drawReadDeeds_any (HSRC.out.kept B4.out)).mono ?_
  rintro e w5 ⟨u, hu, rfl, hb5⟩
  have HX5 := Lib.hid (HX4.out.below hb5)
  have HY5 := Lib.hid (HY.out.below hb5)
  have B5 := Lib.hid (below_trans B4.out hb5)
  have HU := Lib.hid hu
  clear hb5 hu HX4 HY B4 hW4
  go_wp2_with fail
  refine (iReadDeeds_any u _ (by have := HU.out; omega) (HG.out.below B5.out) (Nat.le_trans H8.out B5.out.size)).mono ?_
  rintro e w6 ⟨al, cl, rfl, hol, hb6⟩
  have hlen := readsB_len u
  have HRR := Lib.hid (reads_right (u := u))
  obtain ⟨ol, hoe⟩ : ∃ ol, readsB u = ol := ⟨_, rfl⟩
  rw [hoe] at hol hlen HRR ⊢
  have HOE := Lib.hid hoe
  clear hoe
  obtain ⟨l, hl⟩ : ∃ l, ol.getD [] = l := ⟨_, rfl⟩
  rw [hl] at hol hlen HRR ⊢
  have HLE := Lib.hid hl
  clear hl
  obtain ⟨fine, hfi⟩ : ∃ fine, ol.isSome = fine := ⟨_, rfl⟩
  rw [hfi]
  have HFI := Lib.hid hfi
  clear hfi
  have HL6 := Lib.hid hol.1
  have HX6 := Lib.hid (HX5.out.below hb6)
  have HY6 := Lib.hid (HY5.out.below hb6)
  have B6 := Lib.hid (below_trans B5.out hb6)
  have HLEN := Lib.hid hlen
  clear hol hb6 HX5 HY5 B5 hlen
  go_wp2_with fail
  refine (sReadDeed_any t _ (by have := HT52.out; omega)).mono ?_
  rintro e w7 ⟨rfl, hb7⟩
  rw [HRE.out, HXE.out, HIS.out]
  have HZ := Lib.hid (RecAt.new Dee.cs w7 x 25)
  have bz := below_trans hb7 (below_new w7 (.cells #[.int .i64 x.kind, .string x.who, .string x.mill, .string x.to, .int .i64 x.n] 25))
  have HX7 := Lib.hid (HX6.out.below bz)
  have HY7 := Lib.hid (HY6.out.below bz)
  have HL7 := Lib.hid (HL6.out.below bz)
  have B7 := Lib.hid (below_trans B6.out bz)
  obtain ⟨W7, hW7⟩ : ∃ W, w7.alloc (.cells #[.int .i64 x.kind, .string x.who, .string x.mill, .string x.to, .int .i64 x.n] 25) = W := ⟨_, rfl⟩
  rw [show w7.alloc (.cells (Dee.cs x).toArray 25) = W7 from hW7] at HZ
  rw [hW7] at B7 HX7 HY7 HL7
  clear hb7 bz HX6 HY6 HL6 B6
  obtain ⟨dk, hdk⟩ : ∃ dk, deedB d = dk := ⟨_, rfl⟩
  have HDK := Lib.hid hdk
  clear hdk
  have HWE := Lib.hid hW7
  clear hW7
  have e0 := Grow.cell (HX7.out 0 _ rfl)
  have e1 := Grow.cell (HX7.out 1 _ rfl)
  have e2 := Grow.cell (HX7.out 2 _ rfl)
  have e3 := Grow.cell (HX7.out 3 _ rfl)
  have e4 := Grow.cell (HX7.out 4 _ rfl)
  have f0 := Grow.cell (HY7.out 0 _ rfl)
  have f1 := Grow.cell (HY7.out 1 _ rfl)
  have f2 := Grow.cell (HY7.out 2 _ rfl)
  have f3 := Grow.cell (HY7.out 3 _ rfl)
  have f4 := Grow.cell (HY7.out 4 _ rfl)
  have g0 := Grow.cell (HZ.out 0 _ rfl)
  have g1 := Grow.cell (HZ.out 1 _ rfl)
  have g2 := Grow.cell (HZ.out 2 _ rfl)
  have g3 := Grow.cell (HZ.out 3 _ rfl)
  have g4 := Grow.cell (HZ.out 4 _ rfl)
  have heq := eq_Dee_t (p := x) (q := x) rfl
  go_wp2_with fail
  rw [HWE.out]
  refine wp_region_grow (by kernel_rfl) (by kernel_rfl) ?_
  repeat (go_big_quiet_step (first
    | (go_at_call 12; exact grow_call (str_is (show showB ⟨d.kind, d.who, d.mill, d.to, d.n⟩ = s from HSE.out)) (sShowDeed_any d.kind d.n d.who d.mill d.to _ (by have := HD.out.1; unfold maxLen; omega) (by have := HD.out.2.1; unfold maxLen; omega) (by have := HD.out.2.2.1; unfold maxLen; omega)))
    | (go_at_call 13; exact grow_call (bool_is (show deedB ⟨d.kind, d.who, d.mill, d.to, d.n⟩ = dk from HDK.out)) (iDeedOk_any d.kind d.n d.who d.mill d.to _ (by have := HD.out.1; omega) (by have := HD.out.2.1; omega) (by have := HD.out.2.2.1; omega) HD.out.2.2.2.1 HD.out.2.2.2.2 (HG.out.below (below_trans B7.out (Grow.ok _))) (Nat.le_trans H8.out (below_trans B7.out (Grow.ok _)).size)))
    | (go_at_call 14; exact grow_call (bool_is (show deedB ⟨d.kind, d.who, d.mill, d.to, d.n⟩ = dk from HDK.out)) (sDeedOk_any d.kind d.n d.who d.mill d.to _ (by have := HD.out.1; unfold maxLen; omega) (by have := HD.out.2.1; unfold maxLen; omega) (by have := HD.out.2.2.1; unfold maxLen; omega)))))
  refine wpQuiet_nil ?_
  intro _ hw'
  obtain ⟨gq, rfl⟩ := hw'
  clear e0 e1 e2 e3 e4 f0 f1 f2 f3 f4 g0 g1 g2 g3 g4 heq
  have B8 := Lib.hid (below_trans B7.out gq.ok)
  have HX8 := Lib.hid (HX7.out.below gq.ok)
  have HY8 := Lib.hid (HY7.out.below gq.ok)
  have HL8 := Lib.hid (HL7.out.below gq.ok)
  obtain ⟨W8, hW8⟩ : ∃ W, gq.to = W := ⟨_, rfl⟩
  rw [hW8] at B8 HX8 HY8 HL8 ⊢
  clear hW8 gq HX7 HY7 HL7 HZ B7
  go_wp2_with fail
  refine (sReadDeeds_any u _ (by have := HU.out; omega)).mono ?_
  rintro e w9 ⟨ay, cy, rfl, hoy, hb9⟩
  rw [HOE.out] at hoy ⊢
  rw [HLE.out] at hoy ⊢
  rw [HFI.out]
  have HM9 := Lib.hid hoy.1
  have HX9 := Lib.hid (HX8.out.below hb9)
  have HY9 := Lib.hid (HY8.out.below hb9)
  have HL9 := Lib.hid (HL8.out.below hb9)
  have B9 := Lib.hid (below_trans B8.out hb9)
  clear hoy hb9 HX8 HY8 HL8 B8
  go_wp2_with fail
  refine (likeDeeds_same _ _ HL9.out HM9.out (by have := HLEN.out; omega)).mono ?_
  rintro e wa ⟨rfl, hba⟩
  have HXa := Lib.hid (HX9.out.below hba)
  have HYa := Lib.hid (HY9.out.below hba)
  have HLa := Lib.hid (HL9.out.below hba)
  have Ba := Lib.hid (below_trans B9.out hba)
  clear hba HX9 HY9 HL9 HM9 B9
  have hl20 := HLEN.out
  go_wp2_with fail
  go_loopw [15, 16] (fun v i wr => TextRel l wa v i wr) (fun _ i _ => l.length - (intOf i).toNat)
  case atStart => exact ⟨0, Nat.zero_le _, rfl, rfl, Below.refl _ _⟩
  case round =>
    obtain ⟨j, hj, rfl, rfl, hbr⟩ := hrel
    have HXr := Lib.hid (HXa.out.below hbr)
    have HYr := Lib.hid (HYa.out.below hbr)
    have HLr := Lib.hid (HLa.out.below hbr)
    have Br := Lib.hid (below_trans Ba.out hbr)
    have BR := Lib.hid hbr
    clear hbr
    by_cases hlt : j < l.length
    · obtain ⟨b, off, rfl, _, hc, hc1, hc2, hc3, hc4⟩ := Dee.at HLr.out j hlt
      have HJ := Lib.hid (sized_right HRR.out j hlt)
      have HJS := Lib.hid (right_small HJ.out.2)
      cases j with
      | zero =>
        simp only [Nat.zero_mul, Nat.add_zero] at hc hc1 hc2 hc3 hc4
        go_wp2_with fail
        refine (iShowDeed_any l[0].kind l[0].n l[0].who l[0].mill l[0].to _ (by have := HJS.out.1; omega) (by have := HJS.out.2.1; omega) (by have := HJS.out.2.2.1; omega) HJS.out.2.2.2.1 HJS.out.2.2.2.2 (HG.out.below Br.out) (Nat.le_trans H8.out Br.out.size)).mono ?_
        rintro e wb ⟨rfl, hbb⟩
        rw [sh_eq]
        have hy := show_fifty l[0]
        have hz0 : ByteArray.empty.size = 0 := rfl
        have HN := Lib.hid (show textL l 1 = ByteArray.empty ++ showB l[0] by rw [textL_first, HJ.out.1])
        have BB := Lib.hid (below_trans BR.out hbb)
        clear hbb hc hc1 hc2 hc3 hc4
        rw [textL_zero]
        go_wp2
        go_roundw
        case rel => exact ⟨1, by omega, by go_num, by rw [HN.out]; exact congrArg Value.string ByteArray.empty_append.symm, BB.out⟩
        case measure => simp [intOf]; omega
      | succ m =>
        have hz : (textL l (m + 1)).size ≤ 2000 := Nat.le_trans (textL_size l _) (by omega)
        have hz2 : ((textL l (m + 1)) ++ ⟨#[59]⟩).size = (textL l (m + 1)).size + 1 := by rw [ByteArray.size_append]; rfl
        go_wp2_with fail
        refine (iShowDeed_any l[m + 1].kind l[m + 1].n l[m + 1].who l[m + 1].mill l[m + 1].to _ (by have := HJS.out.1; omega) (by have := HJS.out.2.1; omega) (by have := HJS.out.2.2.1; omega) HJS.out.2.2.2.1 HJS.out.2.2.2.2 (HG.out.below Br.out) (Nat.le_trans H8.out Br.out.size)).mono ?_
        rintro e wb ⟨rfl, hbb⟩
        rw [sh_eq]
        have hy := show_fifty l[m + 1]
        have HN := Lib.hid (show textL l (m + 1 + 1) = textL l (m + 1) ++ ⟨#[59]⟩ ++ showB l[m + 1] by rw [textL_more l (Nat.succ_pos m), HJ.out.1])
        have BB := Lib.hid (below_trans BR.out hbb)
        clear hbb hc hc1 hc2 hc3 hc4
        go_wp2
        go_roundw
        case rel => exact ⟨m + 1 + 1, by omega, by go_num, by rw [HN.out], BB.out⟩
        case measure => simp [intOf]; omega
    · obtain rfl : j = l.length := by omega
      clear hlt hj
      cases ol with
      | none =>
        obtain rfl : fine = false := HFI.out.symm
        obtain rfl : l = [] := HLE.out.symm
        cases r with
        | none =>
          obtain rfl : is = false := HIS.out.symm
          obtain rfl : x = zeroD 0 := HXE.out.symm
          have y0 : World.cell? _ _ = some (.int .i64 0) := HYr.out 0 _ rfl
          have y1 : World.cell? _ _ = some (.string ByteArray.empty) := HYr.out 1 _ rfl
          have y2 : World.cell? _ _ = some (.string ByteArray.empty) := HYr.out 2 _ rfl
          have y3 : World.cell? _ _ = some (.string ByteArray.empty) := HYr.out 3 _ rfl
          have y4 : World.cell? _ _ = some (.int .i64 0) := HYr.out 4 _ rfl
          have heqz := eq_Dee_t (p := zeroD 0) (q := zeroD 0) rfl
          simp only [zeroD] at heqz
          have c0 := HXr.out 0 _ rfl
          have c1 := HXr.out 1 _ rfl
          have c2 := HXr.out 2 _ rfl
          have c3 := HXr.out 3 _ rfl
          have c4 := HXr.out 4 _ rfl
          cases hok : deedB d
          · obtain rfl : s = ByteArray.empty := by rw [← HSE.out, showB, hok]; rfl
            have HOK := Lib.hid hok
            clear hok
            go_wp2_with fail
            refine (iDeedOk_any d.kind d.n d.who d.mill d.to _ (by have := HD.out.1; omega) (by have := HD.out.2.1; omega) (by have := HD.out.2.2.1; omega) HD.out.2.2.2.1 HD.out.2.2.2.2 (HG.out.below Br.out) (Nat.le_trans H8.out Br.out.size)).mono ?_
            rintro e wd ⟨rfl, hbd⟩
            rw [ok_eq, HOK.out]
            have Bd := Lib.hid (below_trans Br.out hbd)
            clear hbd
            go_wp2
            go_ret
            exact ⟨rfl, Bd.out⟩
          · have hse : ¬ s.toList = [] := fun q => show_full hok (by rw [HSE.out]; exact WideShapes.bytes_inj (by rw [ByteArray.toList_eq] at q; rw [q]; rfl))
            have hsb : (s.toList == []) = false := by simpa using hse
            have HRS := Lib.hid (show readB s = some d by rw [← HSE.out]; exact read_show hok)
            have HS50 := Lib.hid (show s.size ≤ 50 by rw [← HSE.out]; exact showB_fifty d)
            clear hok
            go_wp2_with fail
            refine (iReadDeed_any s _ (by have := HS50.out; omega) (HG.out.below Br.out) (Nat.le_trans H8.out Br.out.size)).mono ?_
            rintro e wd ⟨rfl, hbd⟩
            rw [HRS.out]
            simp only [Option.getD_some, Option.isSome_some]
            have HXd := Lib.hid (HXr.out.below hbd)
            have Bd := Lib.hid (below_trans (below_trans Br.out hbd) (below_new wd (.cells #[.int .i64 d.kind, .string d.who, .string d.mill, .string d.to, .int .i64 d.n] 25)))
            clear hbd c0 c1 c2 c3 c4
            have hlt := lt_of_cell (HXd.out 0 _ rfl)
            have c0 := HXd.out 0 _ rfl
            have c1 := HXd.out 1 _ rfl
            have c2 := HXd.out 2 _ rfl
            have c3 := HXd.out 3 _ rfl
            have c4 := HXd.out 4 _ rfl
            have heq := eq_Dee_t (p := d) (q := d) rfl
            go_wp2
            go_ret
            exact ⟨rfl, Bd.out⟩
        | some q =>
          obtain rfl : is = true := HIS.out.symm
          obtain rfl : x = q := HXE.out.symm
          have hrs := read_some HRE.out
          have HRS2 := Lib.hid hrs
          have HRS3 := Lib.hid (right_small hrs.1)
          clear hrs
          have y0 := HYr.out 0 _ rfl
          have y1 := HYr.out 1 _ rfl
          have y2 := HYr.out 2 _ rfl
          have y3 := HYr.out 3 _ rfl
          have y4 := HYr.out 4 _ rfl
          go_wp2_with fail
          refine (iShowDeed_any x.kind x.n x.who x.mill x.to _ (by have := HRS3.out.1; omega) (by have := HRS3.out.2.1; omega) (by have := HRS3.out.2.2.1; omega) HRS3.out.2.2.2.1 HRS3.out.2.2.2.2 (HG.out.below Br.out) (Nat.le_trans H8.out Br.out.size)).mono ?_
          rintro e wb ⟨rfl, hbb⟩
          rw [sh_eq, HRS2.out.2]
          replace HXr := Lib.hid (HXr.out.below hbb)
          replace Br := Lib.hid (below_trans Br.out hbb)
          clear hbb y0 y1 y2 y3 y4
          have c0 := HXr.out 0 _ rfl
          have c1 := HXr.out 1 _ rfl
          have c2 := HXr.out 2 _ rfl
          have c3 := HXr.out 3 _ rfl
          have c4 := HXr.out 4 _ rfl
          cases hok : deedB d
          · obtain rfl : s = ByteArray.empty := by rw [← HSE.out, showB, hok]; rfl
            have HOK := Lib.hid hok
            clear hok
            go_wp2_with fail
            refine (iDeedOk_any d.kind d.n d.who d.mill d.to _ (by have := HD.out.1; omega) (by have := HD.out.2.1; omega) (by have := HD.out.2.2.1; omega) HD.out.2.2.2.1 HD.out.2.2.2.2 (HG.out.below Br.out) (Nat.le_trans H8.out Br.out.size)).mono ?_
            rintro e wd ⟨rfl, hbd⟩
            rw [ok_eq, HOK.out]
            have Bd := Lib.hid (below_trans Br.out hbd)
            clear hbd
            go_wp2
            go_ret
            exact ⟨rfl, Bd.out⟩
          · have hse : ¬ s.toList = [] := fun q => show_full hok (by rw [HSE.out]; exact WideShapes.bytes_inj (by rw [ByteArray.toList_eq] at q; rw [q]; rfl))
            have hsb : (s.toList == []) = false := by simpa using hse
            have HRS := Lib.hid (show readB s = some d by rw [← HSE.out]; exact read_show hok)
            have HS50 := Lib.hid (show s.size ≤ 50 by rw [← HSE.out]; exact showB_fifty d)
            clear hok
            go_wp2_with fail
            refine (iReadDeed_any s _ (by have := HS50.out; omega) (HG.out.below Br.out) (Nat.le_trans H8.out Br.out.size)).mono ?_
            rintro e wd ⟨rfl, hbd⟩
            rw [HRS.out]
            simp only [Option.getD_some, Option.isSome_some]
            have HXd := Lib.hid (HXr.out.below hbd)
            have Bd := Lib.hid (below_trans (below_trans Br.out hbd) (below_new wd (.cells #[.int .i64 d.kind, .string d.who, .string d.mill, .string d.to, .int .i64 d.n] 25)))
            clear hbd c0 c1 c2 c3 c4
            have hlt := lt_of_cell (HXd.out 0 _ rfl)
            have c0 := HXd.out 0 _ rfl
            have c1 := HXd.out 1 _ rfl
            have c2 := HXd.out 2 _ rfl
            have c3 := HXd.out 3 _ rfl
            have c4 := HXd.out 4 _ rfl
            have heq := eq_Dee_t (p := d) (q := d) rfl
            go_wp2
            go_ret
            exact ⟨rfl, Bd.out⟩
      | some ds =>
        obtain rfl : fine = true := HFI.out.symm
        obtain rfl : l = ds := HLE.out.symm
        rw [(reads_parts HOE.out).1]
        cases r with
        | none =>
          obtain rfl : is = false := HIS.out.symm
          obtain rfl : x = zeroD 0 := HXE.out.symm
          have y0 : World.cell? _ _ = some (.int .i64 0) := HYr.out 0 _ rfl
          have y1 : World.cell? _ _ = some (.string ByteArray.empty) := HYr.out 1 _ rfl
          have y2 : World.cell? _ _ = some (.string ByteArray.empty) := HYr.out 2 _ rfl
          have y3 : World.cell? _ _ = some (.string ByteArray.empty) := HYr.out 3 _ rfl
          have y4 : World.cell? _ _ = some (.int .i64 0) := HYr.out 4 _ rfl
          have heqz := eq_Dee_t (p := zeroD 0) (q := zeroD 0) rfl
          simp only [zeroD] at heqz
          have c0 := HXr.out 0 _ rfl
          have c1 := HXr.out 1 _ rfl
          have c2 := HXr.out 2 _ rfl
          have c3 := HXr.out 3 _ rfl
          have c4 := HXr.out 4 _ rfl
          cases hok : deedB d
          · obtain rfl : s = ByteArray.empty := by rw [← HSE.out, showB, hok]; rfl
            have HOK := Lib.hid hok
            clear hok
            go_wp2_with fail
            refine (iDeedOk_any d.kind d.n d.who d.mill d.to _ (by have := HD.out.1; omega) (by have := HD.out.2.1; omega) (by have := HD.out.2.2.1; omega) HD.out.2.2.2.1 HD.out.2.2.2.2 (HG.out.below Br.out) (Nat.le_trans H8.out Br.out.size)).mono ?_
            rintro e wd ⟨rfl, hbd⟩
            rw [ok_eq, HOK.out]
            have Bd := Lib.hid (below_trans Br.out hbd)
            clear hbd
            go_wp2
            go_ret
            exact ⟨rfl, Bd.out⟩
          · have hse : ¬ s.toList = [] := fun q => show_full hok (by rw [HSE.out]; exact WideShapes.bytes_inj (by rw [ByteArray.toList_eq] at q; rw [q]; rfl))
            have hsb : (s.toList == []) = false := by simpa using hse
            have HRS := Lib.hid (show readB s = some d by rw [← HSE.out]; exact read_show hok)
            have HS50 := Lib.hid (show s.size ≤ 50 by rw [← HSE.out]; exact showB_fifty d)
            clear hok
            go_wp2_with fail
            refine (iReadDeed_any s _ (by have := HS50.out; omega) (HG.out.below Br.out) (Nat.le_trans H8.out Br.out.size)).mono ?_
            rintro e wd ⟨rfl, hbd⟩
            rw [HRS.out]
            simp only [Option.getD_some, Option.isSome_some]
            have HXd := Lib.hid (HXr.out.below hbd)
            have Bd := Lib.hid (below_trans (below_trans Br.out hbd) (below_new wd (.cells #[.int .i64 d.kind, .string d.who, .string d.mill, .string d.to, .int .i64 d.n] 25)))
            clear hbd c0 c1 c2 c3 c4
            have hlt := lt_of_cell (HXd.out 0 _ rfl)
            have c0 := HXd.out 0 _ rfl
            have c1 := HXd.out 1 _ rfl
            have c2 := HXd.out 2 _ rfl
            have c3 := HXd.out 3 _ rfl
            have c4 := HXd.out 4 _ rfl
            have heq := eq_Dee_t (p := d) (q := d) rfl
            go_wp2
            go_ret
            exact ⟨rfl, Bd.out⟩
        | some q =>
          obtain rfl : is = true := HIS.out.symm
          obtain rfl : x = q := HXE.out.symm
          have hrs := read_some HRE.out
          have HRS2 := Lib.hid hrs
          have HRS3 := Lib.hid (right_small hrs.1)
          clear hrs
          have y0 := HYr.out 0 _ rfl
          have y1 := HYr.out 1 _ rfl
          have y2 := HYr.out 2 _ rfl
          have y3 := HYr.out 3 _ rfl
          have y4 := HYr.out 4 _ rfl
          go_wp2_with fail
          refine (iShowDeed_any x.kind x.n x.who x.mill x.to _ (by have := HRS3.out.1; omega) (by have := HRS3.out.2.1; omega) (by have := HRS3.out.2.2.1; omega) HRS3.out.2.2.2.1 HRS3.out.2.2.2.2 (HG.out.below Br.out) (Nat.le_trans H8.out Br.out.size)).mono ?_
          rintro e wb ⟨rfl, hbb⟩
          rw [sh_eq, HRS2.out.2]
          replace HXr := Lib.hid (HXr.out.below hbb)
          replace Br := Lib.hid (below_trans Br.out hbb)
          clear hbb y0 y1 y2 y3 y4
          have c0 := HXr.out 0 _ rfl
          have c1 := HXr.out 1 _ rfl
          have c2 := HXr.out 2 _ rfl
          have c3 := HXr.out 3 _ rfl
          have c4 := HXr.out 4 _ rfl
          cases hok : deedB d
          · obtain rfl : s = ByteArray.empty := by rw [← HSE.out, showB, hok]; rfl
            have HOK := Lib.hid hok
            clear hok
            go_wp2_with fail
            refine (iDeedOk_any d.kind d.n d.who d.mill d.to _ (by have := HD.out.1; omega) (by have := HD.out.2.1; omega) (by have := HD.out.2.2.1; omega) HD.out.2.2.2.1 HD.out.2.2.2.2 (HG.out.below Br.out) (Nat.le_trans H8.out Br.out.size)).mono ?_
            rintro e wd ⟨rfl, hbd⟩
            rw [ok_eq, HOK.out]
            have Bd := Lib.hid (below_trans Br.out hbd)
            clear hbd
            go_wp2
            go_ret
            exact ⟨rfl, Bd.out⟩
          · have hse : ¬ s.toList = [] := fun q => show_full hok (by rw [HSE.out]; exact WideShapes.bytes_inj (by rw [ByteArray.toList_eq] at q; rw [q]; rfl))
            have hsb : (s.toList == []) = false := by simpa using hse
            have HRS := Lib.hid (show readB s = some d by rw [← HSE.out]; exact read_show hok)
            have HS50 := Lib.hid (show s.size ≤ 50 by rw [← HSE.out]; exact showB_fifty d)
            clear hok
            go_wp2_with fail
            refine (iReadDeed_any s _ (by have := HS50.out; omega) (HG.out.below Br.out) (Nat.le_trans H8.out Br.out.size)).mono ?_
            rintro e wd ⟨rfl, hbd⟩
            rw [HRS.out]
            simp only [Option.getD_some, Option.isSome_some]
            have HXd := Lib.hid (HXr.out.below hbd)
            have Bd := Lib.hid (below_trans (below_trans Br.out hbd) (below_new wd (.cells #[.int .i64 d.kind, .string d.who, .string d.mill, .string d.to, .int .i64 d.n] 25)))
            clear hbd c0 c1 c2 c3 c4
            have hlt := lt_of_cell (HXd.out 0 _ rfl)
            have c0 := HXd.out 0 _ rfl
            have c1 := HXd.out 1 _ rfl
            have c2 := HXd.out 2 _ rfl
            have c3 := HXd.out 3 _ rfl
            have c4 := HXd.out 4 _ rfl
            have heq := eq_Dee_t (p := d) (q := d) rfl
            go_wp2
            go_ret
            exact ⟨rfl, Bd.out⟩

set_option maxRecDepth 100000 in
theorem lifted (os : Os) (started : os.Started) (H : Type) (enc : TypeId × Value → H) :
    ReturnsInHanded {} Tryz.checked os 3 .any (fun w args => (Rows.fnDeedTextSpec.pre enc Tryz.prog Tryz.f3 Rows.fnDeedTextRow.domain false w args ∧ laidMetH Tryz.prog Rows.fnDeedTextRow.laid w) ∧ sizedMet enc Tryz.prog Tryz.f3 (OpenSpec.ofChange Rows.fnDeedTextSpec) false w args) (Rows.fnDeedTextSpec.post enc Tryz.prog Tryz.f3 false true false false) := by
  refine returnsInHanded_of_change_and (C := Tryz.checked) (X := fun w _ => laidMetH Tryz.prog Rows.fnDeedTextRow.laid w) (fun _ _ _ hh h => h.of_heap hh) ownKnobNone started (by kernel_rfl) Tryz.func3
    (ChangeSpec.witness_shaped (enc := enc) (C := Tryz.checked) (os := os) (X := fun w _ => laidMetH Tryz.prog Rows.fnDeedTextRow.laid w) false (World.laidAll Tryz.prog os Rows.fnDeedTextRow.laid) #[.slice none 0 0] 8 (World.laidAll_os _ _ _)
      (World.shaped_of_ZipB (by kernel_rfl) (by kernel_rfl)) (by kernel_rfl) (by kernel_rfl) (by kernel_rfl)
      (by rw [MakeChecks.laidMetH_plain _ _ _ (by kernel_rfl)]; exact laidMet_laidAll _ (by kernel_rfl) (by kernel_rfl))) ?_
  intro W base args ds gs before hval0 hW hcnd _ hL _
  have HGL : Glob W ∧ 8 ≤ W.heap.size := by
    rw [MakeChecks.laidMetH_plain _ _ _ (by kernel_rfl)] at hL
    exact glob7 hL
  have hval : ∀ (j : Nat) t v, Tryz.f3.params[j]? = some t → args[j]? = some v → Value.okWide Tryz.prog W .any base t v := hval0
  have hW' := hW
  obtain ⟨p, q, hA0, hV, rfl, hfz, hnd⟩ := hW
  have hA : DataW.TrodAll enc Tryz.prog W 0 (fun _ => true) true Tryz.f3.params.toList args.toList ds p := hA0
  rw [Tryz.params3] at hA hval
  obtain ⟨v0, vs0, d0, ds0, p0, q0, hargs, rfl, rfl, h0, r0⟩ := trodAll_cons hA
  obtain ⟨rfl, rfl, rfl⟩ := trodAll_nil r0
  obtain rfl : args = #[v0] := by cases args; simp_all
  obtain ⟨rfl, rfl⟩ := trodVars_none hV
  have lt0 : ∀ x ∈ p0, x.block < W.heap.size := by obtain ⟨m, hm⟩ := h0; exact DataW.trod_lt m _ _ _ hm
  have o0 := hval 0 22 v0 rfl rfl
  clear hA0 hval0 hval
  have hwalk : Calls Tryz.prog 3 #[v0] W fun e w' => e = .returned (.bool true) ∧ Below W.heap.size W w' := by
    clear hW' hfz hnd hcnd hL lt0
    obtain ⟨a0, len0, cap0, rfl⟩ := okWide_slice Tryz.underlying22 o0
    by_cases hbig : len0 ≤ 4096
    case neg => exact walk_big _ _ _ _ hbig
    refine walk_small _ _ _ _ ⟨fun k hk => ?_, hbig⟩ HGL.1 HGL.2
    obtain ⟨fuel, hf⟩ := h0
    rcases open_ints Tryz.underlying22 Tryz.underlying5 (by kernel_rfl) hf with ⟨hcs, _⟩ | ⟨x, l, c, z0, hcs, _, hl, hm, hz, _, hc, hwf⟩
    · simp [Value.cells] at hcs
      obtain ⟨rfl, rfl, rfl⟩ := hcs
      omega
    · simp [Value.cells] at hcs
      obtain ⟨rfl, rfl, rfl⟩ := hcs
      have hk2 : k < z0.length := by simp at hz; omega
      obtain ⟨b, off, rfl, hc2⟩ := ints_at hc (by omega)
      have hw := hwf (z0.getD k 0) (by rw [List.getD_eq_getElem?_getD, List.getElem?_eq_getElem hk2, Option.getD_some]; exact List.getElem_mem hk2)
      have hb := bounds_u8 hw
      exact ⟨b, off, _, rfl, by omega, by omega, hc2 k hk2⟩
  refine hwalk.mono fun e W' ⟨he, bel⟩ => ?_
  subst he
  exact ⟨_, rfl, _, _, _, [], _, [], hW', trodAll_mk1 (shut_bool Tryz.underlying4 _), (trodAll_cons_mk (Below.trod laidOut (by kernel_rfl) (of_decide_eq_true (by kernel_rfl)) h0 bel lt0) trodAll_mk0), rfl, bel.frame _, fun h => by cases h⟩

theorem over : Rows.fnDeedTextRow.holds Tryz.pinned (OpenSpec.ofChange Rows.fnDeedTextSpec) :=
  OpenClaim.holds_of_wide 3 Tryz.f3 rfl rfl rfl rfl rfl rfl rfl ⟨rfl, rfl, rfl, rfl, rfl⟩ rfl rfl rfl rfl rfl (by kernel_rfl) Tryz.func3 (by kernel_rfl)
    (of_decide_eq_true (by kernel_rfl)) (by unfold Func.isWrapper; first | (rw [if_pos (by decide +kernel)]; kernel_rfl) | (rw [if_neg (by decide +kernel)]; exact ⟨rfl, rfl⟩))
    (fun os started H enc _ => lifted os started H enc)

/-- No parameter wants a stand-in; the program's own looks are off. -/
theorem plain (f : FuncId) (fn : Func) (hf : Tryz.pinned.checked.prog.funcNamed "loop.example/g00614/laws.FnDeedText" = some f) (hfn : Tryz.pinned.checked.prog.funcs[f]? = some fn) :
    true = Tryz.pinned.checked.prog.looks [] ∧ ∀ (j : Nat) t, fn.params[j]? = some t → Tryz.pinned.checked.prog.wantsStandIn t = false := by
  obtain rfl : f = 3 := Option.some.inj ((show Tryz.prog.funcNamed "loop.example/g00614/laws.FnDeedText" = some 3 by kernel_rfl).symm.trans hf) |>.symm
  obtain rfl : fn = Tryz.f3 := (Option.some.inj (Tryz.func3.symm.trans hfn)).symm
  refine ⟨by kernel_rfl, fun j t ht => ?_⟩
  rw [Tryz.params3] at ht
  have hm : t ∈ [22] := by simpa using Array.mem_of_getElem? ht
  have hall : ([22].all fun u => !Tryz.prog.wantsStandIn u) = true := by kernel_rfl
  exact (show Tryz.prog.wantsStandIn t = false by simpa using List.all_eq_true.1 hall t hm)
/-- THE STATEMENT: the tied card. -/
theorem proved : Rows.FnDeedTextCardSaid :=
  Claim7.holds_tied_plain_at .later [] _ _ _ _ over (fun _ h => by cases h) (by kernel_rfl) (fun _ h => by cases h) fnDeedText_row_tie rfl ⟨rfl, rfl⟩ (by kernel_rfl) rfl plain (by kernel_rfl)
#print axioms proved
end Go.Proofs.YtoabpbdjffonlaaGreatDoor.fnDeedText
