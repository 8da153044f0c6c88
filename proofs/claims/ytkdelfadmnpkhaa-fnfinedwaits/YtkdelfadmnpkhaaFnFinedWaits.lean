/-
  Of whatever is drawn, what is fined is less of that mill alone, by no more than the percent, and Fined answers as the model does: the law FnFinedWaits returns true at every slice of bytes, which reads as before. No condition.
-/
import Derived.Test.YtkdelfadmnpkhaaWaitI
import Derived.Test.YtkdelfadmnpkhaaDraw6M
import Derived.WalkKit
import Derived.ProofKit
import Derived.OpenShut
import Derived.ShutString
import Derived.ChangeOld
import Derived.Below
namespace Go.Proofs.Ytkdelfadmnpkhaa.fnFinedWaits
open Go.ChangeShapes Go.WideShapes Go.ChangeAt Go.RowKit
open Go.ChangeMaps (open_string shut_string)
set_option linter.unusedVariables false

theorem own : ownKnob Try.prog.godebug = none := by kernel_rfl
theorem laidOut : laidOutB Try.prog = true := by kernel_rfl

/-- WHAT THE WALK IS TOLD OF A SLICE OF INTEGERS THAT CAME IN: it is nil; or it leads to a row of 'cap' cells, the numbers 'zs' (the first 'len' are its elements, the rest its spare room), each fitting its kind. -/
def IsRow (k : IntKind) (w : World) (a : Option Addr) (len cap : Nat) (zs : List Int) : Prop :=
  (a = none ∧ len = 0 ∧ cap = 0 ∧ zs = []) ∨
  ∃ x, a = some x ∧ len ≤ cap ∧ cap ≤ maxLen ∧ zs.length = cap ∧ (∀ i, i < zs.length → w.cell? (x.add i) = some (.int k (zs.getD i 0))) ∧ ∀ n ∈ zs, (Lit.int k n).wf = true

set_option maxRecDepth 100000 in
theorem walk_big (a0 : Option Addr) (len0 cap0 : Nat) (w : World) (hbig : ¬ len0 ≤ 4096) :
    Calls Try.prog 4 #[.slice a0 len0 cap0] w fun e w' => e = .returned (.bool true) ∧ Below w.heap.size w w' := by
  go_enter Try.func4, Try.ntmps4
  go_wp2_with fail
  refine (big_yes _ _ _ _ hbig).mono ?_
  rintro e w' ⟨rfl, rfl⟩
  go_wp2
  go_ret
  exact ⟨rfl, Below.refl _ _⟩

set_option maxRecDepth 100000 in
set_option maxHeartbeats 16000000 in
theorem walk_small (a0 : Option Addr) (len0 cap0 : Nat) (w : World) (hsrc : Src w a0 len0) :
    Calls Try.prog 4 #[.slice a0 len0 cap0] w fun e w' => e = .returned (.bool true) ∧ Below w.heap.size w w' := by
  have HSRC := Lib.hid hsrc
  clear hsrc
  go_enter Try.func4, Try.ntmps4
  go_wp2_with fail
  refine (big_any _ _ _ _ HSRC.out.small).mono ?_
  rintro e w' ⟨rfl, rfl⟩
  go_wp2_with fail
  refine (drawFined_any HSRC.out).mono ?_
  rintro e w1 ⟨g, c, ps, s, pc, rfl, hP, hs, ⟨hp1, hp2⟩, hb1⟩
  have hfp := hP.few
  have HCP := Lib.hid hP.fits
  have HZP := Lib.hid (wshort_sized hP.short)
  have HS := Lib.hid (wshort_max hs)
  have HL_1 := Lib.hid (hP.lies)
  have B_2 := Lib.hid (hb1)
  clear hP hs hb1 HSRC
  go_wp2_with fail
  refine (iFined_any _ _ _ HL_1.out HCP.out (by omega) HZP.out HS.out).mono ?_
  rintro e w2 ⟨ax, cx, rfl, hx, hb2, -⟩
  have hxl := finedL_le ps s pc
  have HL_3 := Lib.hid (HL_1.out.below hb2)
  have B_4 := Lib.hid (below_trans B_2.out hb2)
  clear hb2 HL_1 B_2
  have HX_5 := Lib.hid (hx.1)
  clear hx
  go_wp2_with fail
  refine (sFined_own _ _ _ HL_3.out HCP.out (by omega) HZP.out HS.out).mono ?_
  rintro e w3 ⟨ay, cy, rfl, hy, hb3, -⟩
  have HL_6 := Lib.hid (HL_3.out.below hb3)
  have B_7 := Lib.hid (below_trans B_4.out hb3)
  have HX_8 := Lib.hid (HX_5.out.below hb3)
  clear hb3 HL_3 B_4 HX_5
  have HY_9 := Lib.hid (hy.1)
  clear hy
  go_wp2_with fail
  refine (likeWaits_same _ _ HX_8.out HY_9.out (by omega)).mono ?_
  rintro e w4 ⟨rfl, hb4⟩
  have HL_10 := Lib.hid (HL_6.out.below hb4)
  have B_11 := Lib.hid (below_trans B_7.out hb4)
  have HX_12 := Lib.hid (HX_8.out.below hb4)
  have HY_13 := Lib.hid (HY_9.out.below hb4)
  clear hb4 HL_6 B_7 HX_8 HY_9
  clear HY_13
  cases hF : finedB ps pc
  · have HNO := Lib.hid (fined_not (mill := s) hF)
    rw [HNO.out.1]
    have hx0 : (finedL ps s pc).length = 0 := by rw [HNO.out.2]; rfl
    go_wp2
    go_ret
    exact ⟨rfl, B_11.out⟩
  obtain ⟨N, HN⟩ : ∃ N, Hid (finedN ps s pc = N) := ⟨_, Lib.hid rfl⟩
  have hq := fined_less (mill := s) hF
  rw [HN.out] at hq
  obtain ⟨hq1, hq2, hq3, hq4, hq5⟩ := hq
  have HQ1 := Lib.hid hq1
  have HQ2 := Lib.hid hq2
  have HQ3 := Lib.hid hq3
  have HQ4 := Lib.hid hq4
  have hfw : waitsB ps = true := by
    simp only [finedB, Bool.and_eq_true] at hF
    exact hF.1
  have hpc := inB_true (show inB 0 100 pc = true by
    simp only [finedB, Bool.and_eq_true] at hF
    exact hF.2)
  have hbd1 := amount_bd hfw
  have hbd2 := amount_bd hq1
  obtain ⟨h20, hu⟩ := waits_true hfw
  have HU := Lib.hid hu
  have hNle : N ≤ 20000000 := by omega
  clear hq1 hq2 hq3 hq4 hu
  rw [HN.out]
  go_wp2_with fail
  go_loopw [10, 11] (fun m i w' => ∃ k : Nat, k ≤ ps.length ∧ i = .int .i64 k ∧ m = .int .i64 (mineOf s (ps.take k)) ∧ w' = w4) (fun _ i _ => ps.length - (intOf i).toNat)
  case atStart => exact ⟨0, Nat.zero_le _, rfl, by simp [mineOf], rfl⟩
  case round =>
    obtain ⟨k, hk, rfl, rfl, rfl⟩ := hrel
    obtain ⟨t1, t2⟩ := mine_bd HU.out s k hk
    by_cases hlt : k < ps.length
    · obtain ⟨b', off', e', hlb, d0, d1, d2, d3⟩ := Wai.at HL_10.out k hlt
      injection e' with e'; injection e' with e1 e2; subst e1; subst e2
      simp only [Nat.zero_add] at d0 d1 d2 d3
      obtain ⟨⟨a1, a2⟩, -⟩ := wait_bd (HU.out.1 k hlt hlt)
      have HNX := Lib.hid (mine_next (mill := s) hlt)
      cases hq : (ps[k].mill.toList == s.toList)
      · have HM := Lib.hid (show mineOf s (ps.take (k + 1)) = mineOf s (ps.take k) by rw [HNX.out]; unfold mineW; rw [hq]; simp)
        go_wp2
        go_roundw
        case rel => exact ⟨k + 1, by omega, by go_num, by rw [HM.out], by first | rfl | trivial⟩
        case measure => simp [intOf]; omega
      · have HM := Lib.hid (show mineOf s (ps.take (k + 1)) = mineOf s (ps.take k) + ps[k].amount by rw [HNX.out]; unfold mineW; rw [hq]; simp)
        go_wp2
        go_roundw
        case rel => exact ⟨k + 1, by omega, by go_num, by rw [HM.out], by first | rfl | trivial⟩
        case measure => simp [intOf]; omega
    · obtain rfl : k = ps.length := by omega
      obtain ⟨M, HM⟩ : ∃ M, Hid (mineOf s ps = M) := ⟨_, Lib.hid rfl⟩
      have HT := Lib.hid (show ps.take ps.length = ps from List.take_length)
      rw [HT.out] at t1 t2 ⊢
      rw [HM.out] at t1 t2 ⊢
      have hm2 : M ≤ 20000000 := by omega
      have hq3 := HQ3.out
      rw [HM.out] at hq3
      have hpm0 : 0 ≤ pc * M := Int.mul_nonneg (by omega) t1
      have hpm1 : pc * M ≤ 2000000000 := Int.le_trans (Int.mul_le_mul_of_nonneg_right (show pc ≤ 100 by omega) t1) (by omega)
      obtain ⟨PM, hPM⟩ : ∃ PM, pc * M = PM := ⟨_, rfl⟩
      rw [hPM] at hq3 hpm0 hpm1
      have hwpm : IntKind.i64.wrap (pc * M) = PM := by rw [hPM]; exact IntWalk.i64_in _ (by omega)
      clear hPM
      have HZX := Lib.hid (finedL_sized HZP.out s pc)
      go_wp2_with fail
      refine (iWaitsOk_any _ HX_12.out (by omega) HZX.out).mono ?_
      rw [HQ1.out]
      rintro e w5 ⟨rfl, hb5⟩
      have HL_14 := Lib.hid (HL_10.out.below hb5)
      have B_15 := Lib.hid (below_trans B_11.out hb5)
      have HX_16 := Lib.hid (HX_12.out.below hb5)
      clear hb5 HL_10 B_11 HX_12
      obtain ⟨A, hA⟩ : ∃ A, amountInV (finedL ps s pc) = A := ⟨_, rfl⟩
      have HQA := Lib.hid (show A + N = amountInV ps by rw [← hA]; exact HQ2.out)
      rw [hA] at hbd2
      go_wp2_with fail
      refine (iAmountIn_any _ HX_16.out (by omega) HZX.out).mono ?_
      rw [hA]
      rintro e w6 ⟨rfl, hb6⟩
      have HL_17 := Lib.hid (HL_14.out.below hb6)
      have B_18 := Lib.hid (below_trans B_15.out hb6)
      have HX_19 := Lib.hid (HX_16.out.below hb6)
      clear hb6 HL_14 B_15 HX_16
      go_wp2_with fail
      refine (sAmountIn_any _ HL_17.out (by omega) HZP.out).mono ?_
      rw [← HQA.out]
      rintro e w7 ⟨rfl, hb7⟩
      have HL_20 := Lib.hid (HL_17.out.below hb7)
      have B_21 := Lib.hid (below_trans B_18.out hb7)
      have HX_22 := Lib.hid (HX_19.out.below hb7)
      clear hb7 HL_17 B_18 HX_19
      have hwa : IntKind.i64.wrap (A + N) = A + N := IntWalk.i64_in _ (by omega)
      have hwn : IntKind.i64.wrap (100 * N) = 100 * N := IntWalk.i64_in _ (by omega)
      clear hA
      by_cases hp0 : 0 < pc
      · go_wp2
        go_ret
        exact ⟨rfl, B_21.out⟩
      · obtain rfl : pc = 0 := by omega
        obtain rfl : N = 0 := HQ4.out rfl
        go_wp2
        go_ret
        exact ⟨rfl, B_21.out⟩

/-! ### STEP 1: THE WALK: the Go text returns true, AND WRITES NOTHING THAT WAS THERE: 'Below w.heap.size w w'' (Derived/Below.lean: '.refl', '.alloc', '.drew', '.setCell' at a new block, '.trans'). Open each 'IsRow' by 'rcases' AHEAD of 'go_enter'; part every test ahead of the walk. -/
theorem walk (a0 : Option Addr) (len0 cap0 : Nat) (z0 : List Int) (w : World) (w0 : IsRow .u8 w a0 len0 cap0 z0) :
    Calls Try.prog 4 #[.slice a0 len0 cap0] w fun e w' => e = .returned (.bool true) ∧ Below w.heap.size w w' := by
  by_cases hbig : len0 ≤ 4096
  case neg => exact walk_big _ _ _ _ hbig
  refine walk_small _ _ _ _ ⟨fun k hk => ?_, hbig⟩
  rcases w0 with ⟨_, rfl, _, _⟩ | ⟨x, rfl, hl, _, hz, hc, hwf⟩
  · omega
  · obtain ⟨b, off, rfl, hc2⟩ := ints_at hc (by omega)
    have hk2 : k < z0.length := by omega
    have hw := hwf (z0.getD k 0) (by rw [List.getD_eq_getElem?_getD, List.getElem?_eq_getElem hk2, Option.getD_some]; exact List.getElem_mem hk2)
    have hb := bounds_u8 hw
    exact ⟨b, off, _, rfl, by omega, by omega, hc2 k hk2⟩

/-! ### THE ROW's STEP: WRITTEN OUT: LEAVE IT -/
set_option maxRecDepth 100000 in
theorem lifted (os : Os) (started : os.Started) (H : Type) (enc : TypeId × Value → H) :
    ReturnsInHanded {} Try.checked os 4 .any (Rows.fnFinedWaitsSpec.pre6 enc Try.prog Try.f4 Rows.fnFinedWaitsRow.domain false) (Rows.fnFinedWaitsSpec.post enc Try.prog Try.f4 false true false false) := by
  refine returnsInHanded_of_change (C := Try.checked) own started (by kernel_rfl) Try.func4
    (ChangeSpec.witness6 (enc := enc) (C := Try.checked) false ⟨#[], #[.slice none 0 0], []⟩ 8 (by kernel_rfl) (by kernel_rfl) (by kernel_rfl) (by kernel_rfl)) ?_
  intro W base args ds gs before hval0 hW hcnd _
  have hval : ∀ (j : Nat) t v, Try.f4.params[j]? = some t → args[j]? = some v → Value.okWide Try.prog W .any base t v := hval0
  have hW' := hW
  obtain ⟨p, q, hA0, hV, rfl, hfz, hnd⟩ := hW
  have hA : DataW.TrodAll enc Try.prog W 0 (fun _ => true) true Try.f4.params.toList args.toList ds p := hA0
  rw [Try.params4] at hA hval
  obtain ⟨v0, vs0, d0, ds0, p0, q0, hargs, rfl, rfl, h0, r0⟩ := trodAll_cons hA
  obtain ⟨rfl, rfl, rfl⟩ := trodAll_nil r0
  obtain rfl : args = #[v0] := by cases args; simp_all
  obtain ⟨rfl, rfl⟩ := trodVars_none hV
  obtain ⟨a0, len0, cap0, rfl⟩ := okWide_slice Try.underlying22 (hval 0 22 v0 rfl rfl)
  have k0 := h0
  have lt0 : ∀ x ∈ p0, x.block < W.heap.size := by obtain ⟨m, hm⟩ := k0; exact DataW.trod_lt m _ _ _ hm
  obtain ⟨z0, w0⟩ : ∃ zs, IsRow .u8 W a0 len0 cap0 zs := by
    obtain ⟨fuel, hf⟩ := h0
    rcases open_ints Try.underlying22 Try.underlying5 (by kernel_rfl) hf with ⟨hcs, _⟩ | ⟨x, l, c, zs, hcs, _, hl, hm, hz, _, hcell, hwz⟩
    · simp [Value.cells] at hcs
      obtain ⟨rfl, rfl, rfl⟩ := hcs
      exact ⟨[], .inl ⟨rfl, rfl, rfl, rfl⟩⟩
    · simp [Value.cells] at hcs
      obtain ⟨rfl, rfl, rfl⟩ := hcs
      exact ⟨zs, .inr ⟨_, rfl, hl, hm, by simpa using hz, hcell, hwz⟩⟩
  clear hA0 hval0
  refine (walk a0 len0 cap0 z0 W w0).mono fun e W' ⟨he, bel⟩ => ?_
  subst he
  exact ⟨_, rfl, _, _, _, [], _, [], hW', trodAll_mk1 (shut_bool Try.underlying4 _), (trodAll_cons_mk (Below.trod laidOut (by kernel_rfl) (of_decide_eq_true (by kernel_rfl)) k0 bel lt0) trodAll_mk0), rfl, bel.frame _, fun h => by cases h⟩

theorem over : Rows.fnFinedWaitsRow.holds Try.pinned (OpenSpec.ofChange Rows.fnFinedWaitsSpec) :=
  OpenClaim.holds_of_wide 4 Try.f4 rfl rfl rfl rfl rfl rfl rfl ⟨rfl, rfl, rfl, rfl, rfl⟩ rfl rfl rfl rfl rfl (by kernel_rfl) Try.func4 (by kernel_rfl)
    (of_decide_eq_true (by kernel_rfl)) (by unfold Func.isWrapper; first | (rw [if_pos (by decide +kernel)]; kernel_rfl) | (rw [if_neg (by decide +kernel)]; exact ⟨rfl, rfl⟩))
    (fun os started H enc _ => lifted os started H enc)

/-- ████ THE STATEMENT ████ -/
theorem proved : Rows.FnFinedWaitsSaid := over
#print axioms proved
end Go.Proofs.Ytkdelfadmnpkhaa.fnFinedWaits
