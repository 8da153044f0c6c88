/-
  Of whatever is drawn, what a book has is its supply, and what all have together is no more than that; NewBook, BookOk, Total and WorthIn answer as the model does: the law FnBooks returns true at every slice of bytes, which reads as before. No condition.
-/
import Derived.Test.YtlnnchgaloejlaaGreatP11
import Derived.Test.YtlnnchgaloejlaaGreatP13
import Derived.Test.YtlnnchgaloejlaaGreatP41
import Derived.Test.YtlnnchgaloejlaaGreatP46
import Derived.WalkKit
import Derived.ProofKit
import Derived.OpenShut
import Derived.ShutString
import Derived.ChangeOld
import Derived.Below
namespace Go.Proofs.YtlnnchgaloejlaaGreat.fnBooks
open Go.ChangeShapes Go.WideShapes Go.ChangeAt Go.RowKit
open Go.ChangeMaps (open_string shut_string)
set_option linter.unusedVariables false

theorem own : ownKnob Tryz.prog.godebug = none := by kernel_rfl
theorem laidOut : laidOutB Tryz.prog = true := by kernel_rfl

/-- WHAT THE WALK IS TOLD OF A SLICE OF INTEGERS THAT CAME IN: it is nil; or it leads to a row of 'cap' cells, the numbers 'zs' (the first 'len' are its elements, the rest its spare room), each fitting its kind. -/
def IsRow (k : IntKind) (w : World) (a : Option Addr) (len cap : Nat) (zs : List Int) : Prop :=
  (a = none ∧ len = 0 ∧ cap = 0 ∧ zs = []) ∨
  ∃ x, a = some x ∧ len ≤ cap ∧ cap ≤ maxLen ∧ zs.length = cap ∧ (∀ i, i < zs.length → w.cell? (x.add i) = some (.int k (zs.getD i 0))) ∧ ∀ n ∈ zs, (Lit.int k n).wf = true

set_option maxRecDepth 100000 in
theorem walk_big (a0 : Option Addr) (len0 cap0 : Nat) (w : World) (hbig : ¬ len0 ≤ 4096) :
    Calls Tryz.prog 3 #[.slice a0 len0 cap0] w fun e w' => e = .returned (.bool true) ∧ Below w.heap.size w w' := by
  go_enter Tryz.func3, Tryz.ntmps3
  go_wp2_with fail
  refine (big_yes _ _ _ _ hbig).mono ?_
  rintro e w' ⟨rfl, rfl⟩
  go_wp2
  go_ret
  exact ⟨rfl, Below.refl _ _⟩

theorem newL_few (ps : List Pur) : (newL ps).mills.length = 0 := by
  cases h : newB ps
  · rw [newL_no h]; rfl
  · rw [newL_yes h]; rfl
theorem newL_supply {ps : List Pur} (h : newB ps = true) : (newL ps).supply = freeInV ps := by rw [newL_yes h]; rfl
theorem free_below {w : World} {a : Option Addr} {ps : List Pur} (cap : Nat) (h : Purs w a ps) (hl : ps.length ≤ 1048576) (hs : Sized (pnames ps)) :
    Calls Tryz.prog 16 #[.slice a ps.length cap] w fun e w' => e = .returned (.int .i64 (freeInV ps)) ∧ Below w.heap.size w w' := by
  refine (sFreeIn_any cap h hl hs).mono ?_
  rintro e w' ⟨rfl, n, rfl⟩
  exact ⟨rfl, below_draws (Below.refl _ _) n⟩
theorem bounds_book {b : Bok} (h : bookB b = true) : (0 ≤ b.burnt ∧ b.burnt ≤ 1000000) ∧ 0 ≤ b.pot ∧ b.pot ≤ 1000000 := by
  obtain ⟨-, -, -, h7, h8⟩ := lists_all (book_true h).1
  have := inB_bd h7
  have := inB_bd h8
  omega
theorem total_right {b : Bok} (h : bookB b = true) : totalOfV b = b.supply := by
  obtain ⟨hl, -, ht⟩ := book_true h
  exact (totalOf_yes hl).trans ht
theorem bne_no (v : Int) : (v != v) = false := by simp
theorem beq_yes (v : Int) : (v == v) = true := by simp
theorem haveK_bd {b : Bok} (h : bookB b = true) : ∀ k, k ≤ b.folk.length → -100 * (k : Int) ≤ haveK b k ∧ haveK b k ≤ 100000000 * (k : Int)
  | 0, _ => by simp [haveK]
  | k + 1, hk => by
    have h1 := haveK_bd h k (by omega)
    have h2 := worthIn_bd h b.folk[k].name
    rw [haveK_succ (by omega)]
    omega
theorem haveK_all {b : Bok} (h : bookB b = true) : haveK b b.folk.length + b.burnt + b.pot ≤ b.supply := by
  have := book_sum h
  unfold haveK
  rw [List.take_length]; exact this

set_option maxRecDepth 100000 in
set_option maxHeartbeats 32000000 in
theorem walk_small (a0 : Option Addr) (len0 cap0 : Nat) (w : World) (hsrc : Src w a0 len0) :
    Calls Tryz.prog 3 #[.slice a0 len0 cap0] w fun e w' => e = .returned (.bool true) ∧ Below w.heap.size w w' := by
  have HSRC := Lib.hid hsrc
  clear hsrc
  go_enter Tryz.func3, Tryz.ntmps3
  go_wp2_with fail
  refine (big_any _ _ _ _ HSRC.out.small).mono ?_
  rintro e w' ⟨rfl, rfl⟩
  go_wp2_with fail
  refine (drawWorthIn_any HSRC.out).mono ?_
  rintro e w1 ⟨b, s, who, rfl, hbl, hbz, hwho, hat, hb⟩
  have HL := Lib.hid hbl
  have HZ := Lib.hid hbz
  have bn := below_new w1 (.cells #[.int .i64 b.season, .int .i64 b.supply, .int .i64 b.burnt, .int .i64 b.pot, .slice s.fa b.folk.length s.fc, .slice s.ma b.mills.length s.mc, .slice s.pa b.parts.length s.pc, .slice s.wa b.waits.length s.wc] 29)
  have D := Lib.hid (below_trans hb bn)
  have X := Lib.hid (CellB.new w1 b s 29)
  have HA := Lib.hid (hat.below bn)
  obtain ⟨PX, hPX⟩ : ∃ n, w1.heap.size = n := ⟨_, rfl⟩
  obtain ⟨W2, hW2⟩ : ∃ W, w1.alloc (.cells #[.int .i64 b.season, .int .i64 b.supply, .int .i64 b.burnt, .int .i64 b.pot, .slice s.fa b.folk.length s.fc, .slice s.ma b.mills.length s.mc, .slice s.pa b.parts.length s.pc, .slice s.wa b.waits.length s.wc] 29) = W := ⟨_, rfl⟩
  rw [hW2] at D X HA
  rw [hPX] at X
  clear hbl hbz hwho hat hb bn
  go_wp2_with fail
  refine (drawNewBook_any (HSRC.out.kept D.out)).mono ?_
  rintro e w3 ⟨g, c, ps, rfl, hf, hb⟩
  have hfew := hf.few
  have HF := Lib.hid hf
  replace D := Lib.hid (below_trans D.out hb)
  replace X := Lib.hid (X.out.below hb)
  replace HA := Lib.hid (HA.out.below hb)
  clear hf hb hW2
  go_wp2_with fail
  refine (iNewBook_any c HF.out.lies (by omega) HF.out.short).mono ?_
  rintro e w4 ⟨sn, rfl, ho, hb⟩
  have HMZ := Lib.hid (newL_few ps)
  have HRT := Lib.hid (new_right ps)
  have HSU := Lib.hid (newL_supply (ps := ps))
  obtain ⟨nb, Hn⟩ : ∃ y, Hid (newL ps = y) := ⟨_, Lib.hid rfl⟩
  obtain ⟨nk, Hk⟩ : ∃ y, Hid (newB ps = y) := ⟨_, Lib.hid rfl⟩
  rw [Hn.out] at ho HMZ HRT HSU
  rw [Hk.out] at HSU
  rw [Hn.out, Hk.out]
  have bn := below_new w4 (.cells #[.int .i64 nb.season, .int .i64 nb.supply, .int .i64 nb.burnt, .int .i64 nb.pot, .slice sn.fa nb.folk.length sn.fc, .slice sn.ma nb.mills.length sn.mc, .slice sn.pa nb.parts.length sn.pc, .slice sn.wa nb.waits.length sn.wc] 29)
  have hb2 := below_trans hb bn
  replace D := Lib.hid (below_trans D.out hb2)
  replace X := Lib.hid (X.out.below hb2)
  replace HA := Lib.hid (HA.out.below hb2)
  replace HF := Lib.hid (HF.out.below hb2)
  have N := Lib.hid (CellB.new w4 nb sn 29)
  have HN := Lib.hid (ho.at.below bn)
  obtain ⟨PN, hPN⟩ : ∃ n, w4.heap.size = n := ⟨_, rfl⟩
  obtain ⟨W5, hW5⟩ : ∃ W, w4.alloc (.cells #[.int .i64 nb.season, .int .i64 nb.supply, .int .i64 nb.burnt, .int .i64 nb.pot, .slice sn.fa nb.folk.length sn.fc, .slice sn.ma nb.mills.length sn.mc, .slice sn.pa nb.parts.length sn.pc, .slice sn.wa nb.waits.length sn.wc] 29) = W := ⟨_, rfl⟩
  rw [hW5] at D X HA HF N HN
  rw [hPN] at N
  clear ho hb hb2 bn
  go_wp2_with fail
  have hsn := sNewBook_any c HF.out.lies (by omega) HF.out.short
  rw [Hn.out, Hk.out] at hsn
  refine hsn.mono ?_
  clear hsn
  rintro e w6 ⟨sx, rfl, ho, hb⟩
  have bn := below_new w6 (.cells #[.int .i64 nb.season, .int .i64 nb.supply, .int .i64 nb.burnt, .int .i64 nb.pot, .slice sx.fa nb.folk.length sx.fc, .slice sx.ma nb.mills.length sx.mc, .slice sx.pa nb.parts.length sx.pc, .slice sx.wa nb.waits.length sx.wc] 29)
  have hb2 := below_trans hb bn
  replace D := Lib.hid (below_trans D.out hb2)
  replace X := Lib.hid (X.out.below hb2)
  replace HA := Lib.hid (HA.out.below hb2)
  replace HF := Lib.hid (HF.out.below hb2)
  replace N := Lib.hid (N.out.below hb2)
  replace HN := Lib.hid (HN.out.below hb2)
  have M := Lib.hid (CellB.new w6 nb sx 29)
  have HM := Lib.hid (ho.at.below bn)
  obtain ⟨PM, hPM⟩ : ∃ n, w6.heap.size = n := ⟨_, rfl⟩
  obtain ⟨W7, hW7⟩ : ∃ W, w6.alloc (.cells #[.int .i64 nb.season, .int .i64 nb.supply, .int .i64 nb.burnt, .int .i64 nb.pot, .slice sx.fa nb.folk.length sx.fc, .slice sx.ma nb.mills.length sx.mc, .slice sx.pa nb.parts.length sx.pc, .slice sx.wa nb.waits.length sx.wc] 29) = W := ⟨_, rfl⟩
  rw [hW7] at D X HA HF N HN M HM
  rw [hPM] at M
  clear ho hb hb2 bn hW5
  have NLZ := Lib.hid (show BLen nb ∧ BSized nb from ⟨book_len HRT.out, book_sized HRT.out⟩)
  obtain ⟨v1, H1⟩ : ∃ v, Hid (bookB b = v) := ⟨_, Lib.hid rfl⟩
  obtain ⟨v2, H2⟩ : ∃ v, Hid (totalOfV b = v) := ⟨_, Lib.hid rfl⟩
  obtain ⟨v3, H3⟩ : ∃ v, Hid (worthInV b who = v) := ⟨_, Lib.hid rfl⟩
  have e0 : (nk != nk) = false := by simp
  have e1 : (v1 != v1) = false := by simp
  have e2 := bne_no v2
  have e3 := bne_no v3
  have gx0 := Grow.cell X.out.c0
  have gx1 := Grow.cell X.out.c1
  have gx2 := Grow.cell X.out.c2
  have gx3 := Grow.cell X.out.c3
  have gx4 := Grow.cell X.out.c4
  have gx5 := Grow.cell X.out.c5
  have gx6 := Grow.cell X.out.c6
  have gx7 := Grow.cell X.out.c7
  have gn0 := Grow.cell N.out.c0
  have gn1 := Grow.cell N.out.c1
  have gn2 := Grow.cell N.out.c2
  have gn3 := Grow.cell N.out.c3
  have gn4 := Grow.cell N.out.c4
  have gn5 := Grow.cell N.out.c5
  have gn6 := Grow.cell N.out.c6
  have gn7 := Grow.cell N.out.c7
  have gm0 := Grow.cell M.out.c0
  have gm1 := Grow.cell M.out.c1
  have gm2 := Grow.cell M.out.c2
  have gm3 := Grow.cell M.out.c3
  have gm4 := Grow.cell M.out.c4
  have gm5 := Grow.cell M.out.c5
  have gm6 := Grow.cell M.out.c6
  have gm7 := Grow.cell M.out.c7
  go_wp2
  refine wp_region_grow (by kernel_rfl) (by kernel_rfl) ?_
  repeat (go_big_quiet_step (first
    | (go_at_call 9; exact grow_call rfl (likeBook_same (s := sn) (s' := sx) (HN.out.below (Grow.ok _)) (HM.out.below (Grow.ok _)) NLZ.out.1 HMZ.out))
    | (go_at_call 10; exact grow_call (bool_is H1.out) (iBookOk_any (s := s) (HA.out.below (Grow.ok _)) HL.out HZ.out))
    | (go_at_call 11; exact grow_call (bool_is H1.out) (sBookOk_any (s := s) (HA.out.below (Grow.ok _)) HL.out HZ.out))
    | (go_at_call 12; exact grow_call (int_is H2.out) (iTotal_any (s := s) (HA.out.below (Grow.ok _)) HL.out HZ.out))
    | (go_at_call 13; exact grow_call (int_is H2.out) (sTotal_any (s := s) (HA.out.below (Grow.ok _)) HL.out HZ.out))
    | (go_at_call 14; exact grow_call (int_is H3.out) (iWorthIn_any (s := s) who (HA.out.below (Grow.ok _)) HL.out HZ.out))
    | (go_at_call 15; exact grow_call (int_is H3.out) (sWorthIn_any (s := s) who (HA.out.below (Grow.ok _)) HL.out HZ.out))))
  refine wpQuiet_nil ?_
  intro _ hw'
  obtain ⟨gq, rfl⟩ := hw'
  clear gx0 gx1 gx2 gx3 gx4 gx5 gx6 gx7 gn0 gn1 gn2 gn3 gn4 gn5 gn6 gn7 gm0 gm1 gm2 gm3 gm4 gm5 gm6 gm7 e0 e1 e2 e3
  replace D := Lib.hid (below_trans D.out gq.ok)
  replace X := Lib.hid (X.out.below gq.ok)
  replace HA := Lib.hid (HA.out.below gq.ok)
  replace HF := Lib.hid (HF.out.below gq.ok)
  replace N := Lib.hid (N.out.below gq.ok)
  replace HN := Lib.hid (HN.out.below gq.ok)
  obtain ⟨V8, hV8⟩ : ∃ W, gq.to = W := ⟨_, rfl⟩
  rw [hV8] at D X HA HF N HN
  rw [hV8]
  clear hV8
  cases nk
  case' false =>
    go_wp2
    refine wp_region_grow (by kernel_rfl) (by kernel_rfl) ?_
    repeat (go_big_quiet_step (first
      | fail))
    refine wpQuiet_nil ?_
    intro _ hw'
    obtain ⟨gq, rfl⟩ := hw'
  case' true =>
    have HFV := Lib.hid (HSU.out rfl).symm
    have HTN := Lib.hid (total_right HRT.out)
    have HFL := Lib.hid (show ps.length ≤ 1048576 by omega)
    obtain ⟨su, hsu⟩ : ∃ v, nb.supply = v := ⟨_, rfl⟩
    have gn0 := Grow.cell N.out.c0
    have gn1 := Grow.cell N.out.c1
    have gn2 := Grow.cell N.out.c2
    have gn3 := Grow.cell N.out.c3
    have gn4 := Grow.cell N.out.c4
    have gn5 := Grow.cell N.out.c5
    have gn6 := Grow.cell N.out.c6
    have gn7 := Grow.cell N.out.c7
    have e4 := bne_no nb.supply
    clear hsu
    go_wp2
    refine wp_region_grow (by kernel_rfl) (by kernel_rfl) ?_
    repeat (go_big_quiet_step (first
      | (go_at_call 10; exact grow_call (bool_is HRT.out) (iBookOk_any (s := sn) (HN.out.below (Grow.ok _)) NLZ.out.1 NLZ.out.2))
      | (go_at_call 12; exact grow_call (int_is HTN.out) (iTotal_any (s := sn) (HN.out.below (Grow.ok _)) NLZ.out.1 NLZ.out.2))
      | (go_at_call 16; exact grow_call (int_is HFV.out) (free_below c (HF.out.lies.below (Grow.ok _)) HFL.out HF.out.short))))
    refine wpQuiet_nil ?_
    intro _ hw'
    obtain ⟨gq, rfl⟩ := hw'
  all_goals
    replace D := Lib.hid (below_trans D.out gq.ok)
    replace X := Lib.hid (X.out.below gq.ok)
    replace HA := Lib.hid (HA.out.below gq.ok)
    obtain ⟨V9, hV9⟩ : ∃ W, gq.to = W := ⟨_, rfl⟩
    rw [hV9] at D X HA
    rw [hV9]
    clear hV9
    have x0 := X.out.c0
    have x1 := X.out.c1
    have x2 := X.out.c2
    have x3 := X.out.c3
    have x4 := X.out.c4
    have x5 := X.out.c5
    have x6 := X.out.c6
    have x7 := X.out.c7
    go_wp2_with fail
    refine (sBookOk_any (s := s) HA.out HL.out HZ.out).mono ?_
    rintro e w9 ⟨rfl, hb⟩
    replace D := Lib.hid (below_trans D.out hb)
    replace X := Lib.hid (X.out.below hb)
    replace HA := Lib.hid (HA.out.below hb)
    clear hb x0 x1 x2 x3 x4 x5 x6 x7
    rw [H1.out]
    have x0 := X.out.c0
    have x1 := X.out.c1
    have x2 := X.out.c2
    have x3 := X.out.c3
    have x4 := X.out.c4
    have x5 := X.out.c5
    have x6 := X.out.c6
    have x7 := X.out.c7
    cases v1
    case false =>
      have HNO := Lib.hid (worthIn_no (who := who) H1.out)
      go_wp2_with fail
      refine (iWorthIn_any (s := s) who HA.out HL.out HZ.out).mono ?_
      rintro e wa ⟨rfl, hb⟩
      replace D := Lib.hid (below_trans D.out hb)
      rw [HNO.out]
      clear hb
      go_wp2
      go_ret
      exact ⟨rfl, D.out⟩
    clear x0 x1 x2 x3 x4 x5 x6 x7
    have HK := Lib.hid H1.out
    have hf8 := (book_few H1.out).1
    go_wp2_with fail
    go_loopw [10, 11] (fun t i w' => ∃ k : Nat, k ≤ b.folk.length ∧ i = .int .i64 k ∧ t = .int .i64 (haveK b k) ∧ Below w9.heap.size w9 w') (fun _ i _ => b.folk.length - (intOf i).toNat)
    case atStart => exact ⟨0, Nat.zero_le _, rfl, rfl, Below.refl _ _⟩
    case round =>
      obtain ⟨k, hk, rfl, rfl, hbw⟩ := hrel
      have HBW := Lib.hid hbw
      have XR := Lib.hid (X.out.below hbw)
      have AR := Lib.hid (HA.out.below hbw)
      clear hbw
      have hkb := haveK_bd HK.out k hk
      by_cases hlt : k < b.folk.length
      · obtain ⟨p, off, ep, hlb, m0, m1⟩ := AR.out.folk.at k hlt
        have HCC := fun g : Grow wr => iWorthIn_any (s := s) b.folk[k].name (AR.out.below (Grow.ok g)) HL.out HZ.out
        have x4 := XR.out.c4
        rw [ep] at x4
        simp only [ep] at HCC
        have HC := Lib.hid HCC
        clear HCC ep hlb m1
        have hwb := worthIn_bd HK.out b.folk[k].name
        have HSC := Lib.hid (haveK_succ hlt)
        obtain ⟨wv, HW⟩ : ∃ v, Hid (worthInV b b.folk[k].name = v) := ⟨_, Lib.hid rfl⟩
        rw [HW.out] at hwb HSC
        obtain ⟨hv, HH⟩ : ∃ v, Hid (haveK b k = v) := ⟨_, Lib.hid rfl⟩
        rw [HH.out] at hkb HSC
        rw [HH.out]
        have hwr : IntKind.i64.wrap (hv + wv) = hv + wv := IntWalk.i64_in _ (by omega)
        have gx0 := Grow.cell XR.out.c0
        have gx1 := Grow.cell XR.out.c1
        have gx2 := Grow.cell XR.out.c2
        have gx3 := Grow.cell XR.out.c3
        have gx4 := Grow.cell x4
        have gx5 := Grow.cell XR.out.c5
        have gx6 := Grow.cell XR.out.c6
        have gx7 := Grow.cell XR.out.c7
        have gm0 := Grow.cell m0
        go_wp2
        refine wp_region_grow (by kernel_rfl) (by kernel_rfl) ?_
        repeat (go_big_quiet_step (first
          | (go_at_call 14; exact grow_call (int_is HW.out) (HC.out _))))
        refine wpQuiet_nil ?_
        intro _ hw'
        obtain ⟨gq, rfl⟩ := hw'
        have HB2 := Lib.hid (below_trans HBW.out gq.ok)
        go_wp2
        go_roundw
        case rel => exact ⟨k + 1, by omega, by go_num, by rw [HSC.out], HB2.out⟩
        case measure => simp [intOf]; omega
      · obtain rfl : k = b.folk.length := by omega
        have HAL := Lib.hid (haveK_all HK.out)
        have HTB := Lib.hid (total_right HK.out)
        have hbb := bounds_book HK.out
        obtain ⟨hv, HH⟩ : ∃ v, Hid (haveK b b.folk.length = v) := ⟨_, Lib.hid rfl⟩
        rw [HH.out] at HAL hkb
        rw [HH.out]
        have hal := HAL.out
        have e5 := beq_yes b.supply
        have hwr1 : IntKind.i64.wrap (hv + b.burnt) = hv + b.burnt := IntWalk.i64_in _ (by omega)
        have hwr2 : IntKind.i64.wrap (hv + b.burnt + b.pot) = hv + b.burnt + b.pot := IntWalk.i64_in _ (by omega)
        have x4 := XR.out.c4
        have gx0 := Grow.cell XR.out.c0
        have gx1 := Grow.cell XR.out.c1
        have gx2 := Grow.cell XR.out.c2
        have gx3 := Grow.cell XR.out.c3
        have gx4 := Grow.cell XR.out.c4
        have gx5 := Grow.cell XR.out.c5
        have gx6 := Grow.cell XR.out.c6
        have gx7 := Grow.cell XR.out.c7
        go_wp2
        refine wp_region_grow (by kernel_rfl) (by kernel_rfl) ?_
        repeat (go_big_quiet_step (first
          | (go_at_call 12; exact grow_call (int_is HTB.out) (iTotal_any (s := s) (AR.out.below (Grow.ok _)) HL.out HZ.out))))
        refine wpQuiet_nil ?_
        intro _ hw'
        obtain ⟨gq, rfl⟩ := hw'
        have HB2 := Lib.hid (below_trans (below_trans D.out HBW.out) gq.ok)
        go_wp2
        go_ret
        exact ⟨by first | rfl | (simp; omega), HB2.out⟩

/-! ### STEP 1: THE WALK: the Go text returns true, AND WRITES NOTHING THAT WAS THERE: 'Below w.heap.size w w'' (Derived/Below.lean: '.refl', '.alloc', '.drew', '.setCell' at a new block, '.trans'). Open each 'IsRow' by 'rcases' AHEAD of 'go_enter'; part every test ahead of the walk. -/
theorem walk (a0 : Option Addr) (len0 cap0 : Nat) (z0 : List Int) (w : World) (w0 : IsRow .u8 w a0 len0 cap0 z0) :
    Calls Tryz.prog 3 #[.slice a0 len0 cap0] w fun e w' => e = .returned (.bool true) ∧ Below w.heap.size w w' := by
  by_cases hbig : len0 ≤ 4096
  case neg => exact walk_big _ _ _ _ hbig
  refine walk_small _ _ _ _ ⟨fun k hk => ?_, hbig⟩
  rcases w0 with ⟨_, rfl, _, _⟩ | ⟨x, rfl, hl, _, hz, hc, hwf⟩
  · omega
  · obtain ⟨b, off, rfl, hc2⟩ := ints_at hc (by omega)
    have hk2 : k < z0.length := by omega
    have hw := hwf (z0.getD k 0) (by rw [List.getD_eq_getElem?_getD, List.getElem?_eq_getElem hk2, Option.getD_some]; exact List.getElem_mem hk2)
    have hb := bounds_u8 hw
    exact ⟨b, off, _, rfl, by omega, by omega, hc2 k hk2⟩

/-! ### THE ROW's STEP: WRITTEN OUT: LEAVE IT -/
set_option maxRecDepth 100000 in
theorem lifted (os : Os) (started : os.Started) (H : Type) (enc : TypeId × Value → H) :
    ReturnsInHanded {} Tryz.checked os 3 .any (Rows.fnBooksSpec.pre6 enc Tryz.prog Tryz.f3 Rows.fnBooksRow.domain false) (Rows.fnBooksSpec.post enc Tryz.prog Tryz.f3 false true false false) := by
  refine returnsInHanded_of_change (C := Tryz.checked) own started (by kernel_rfl) Tryz.func3
    (ChangeSpec.witness6 (enc := enc) (C := Tryz.checked) false ⟨#[], #[.slice none 0 0], []⟩ 8 (by kernel_rfl) (by kernel_rfl) (by kernel_rfl) (by kernel_rfl)) ?_
  intro W base args ds gs before hval0 hW hcnd _
  have hval : ∀ (j : Nat) t v, Tryz.f3.params[j]? = some t → args[j]? = some v → Value.okWide Tryz.prog W .any base t v := hval0
  have hW' := hW
  obtain ⟨p, q, hA0, hV, rfl, hfz, hnd⟩ := hW
  have hA : DataW.TrodAll enc Tryz.prog W 0 (fun _ => true) true Tryz.f3.params.toList args.toList ds p := hA0
  rw [Tryz.params3] at hA hval
  obtain ⟨v0, vs0, d0, ds0, p0, q0, hargs, rfl, rfl, h0, r0⟩ := trodAll_cons hA
  obtain ⟨rfl, rfl, rfl⟩ := trodAll_nil r0
  obtain rfl : args = #[v0] := by cases args; simp_all
  obtain ⟨rfl, rfl⟩ := trodVars_none hV
  obtain ⟨a0, len0, cap0, rfl⟩ := okWide_slice Tryz.underlying22 (hval 0 22 v0 rfl rfl)
  have k0 := h0
  have lt0 : ∀ x ∈ p0, x.block < W.heap.size := by obtain ⟨m, hm⟩ := k0; exact DataW.trod_lt m _ _ _ hm
  obtain ⟨z0, w0⟩ : ∃ zs, IsRow .u8 W a0 len0 cap0 zs := by
    obtain ⟨fuel, hf⟩ := h0
    rcases open_ints Tryz.underlying22 Tryz.underlying5 (by kernel_rfl) hf with ⟨hcs, _⟩ | ⟨x, l, c, zs, hcs, _, hl, hm, hz, _, hcell, hwz⟩
    · simp [Value.cells] at hcs
      obtain ⟨rfl, rfl, rfl⟩ := hcs
      exact ⟨[], .inl ⟨rfl, rfl, rfl, rfl⟩⟩
    · simp [Value.cells] at hcs
      obtain ⟨rfl, rfl, rfl⟩ := hcs
      exact ⟨zs, .inr ⟨_, rfl, hl, hm, by simpa using hz, hcell, hwz⟩⟩
  clear hA0 hval0
  refine (walk a0 len0 cap0 z0 W w0).mono fun e W' ⟨he, bel⟩ => ?_
  subst he
  exact ⟨_, rfl, _, _, _, [], _, [], hW', trodAll_mk1 (shut_bool Tryz.underlying4 _), (trodAll_cons_mk (Below.trod laidOut (by kernel_rfl) (of_decide_eq_true (by kernel_rfl)) k0 bel lt0) trodAll_mk0), rfl, bel.frame _, fun h => by cases h⟩

theorem over : Rows.fnBooksRow.holds Tryz.pinned (OpenSpec.ofChange Rows.fnBooksSpec) :=
  OpenClaim.holds_of_wide 3 Tryz.f3 rfl rfl rfl rfl rfl rfl rfl ⟨rfl, rfl, rfl, rfl, rfl⟩ rfl rfl rfl rfl rfl (by kernel_rfl) Tryz.func3 (by kernel_rfl)
    (of_decide_eq_true (by kernel_rfl)) (by unfold Func.isWrapper; first | (rw [if_pos (by decide +kernel)]; kernel_rfl) | (rw [if_neg (by decide +kernel)]; exact ⟨rfl, rfl⟩))
    (fun os started H enc _ => lifted os started H enc)

/-- ████ THE STATEMENT ████ -/
theorem proved : Rows.FnBooksSaid := over
#print axioms proved
end Go.Proofs.YtlnnchgaloejlaaGreat.fnBooks
