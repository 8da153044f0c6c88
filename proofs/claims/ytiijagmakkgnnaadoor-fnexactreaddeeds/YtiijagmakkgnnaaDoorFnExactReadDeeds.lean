/-
  At every text the program's ReadDeeds answers as the model's, in memory of its own: the law FnExactReadDeeds returns true and its argument reads as before. No condition.
-/
import Derived.Test.YtiijagmakkgnnaaDoorJ6
import Derived.Test.YtiijagmakkgnnaaDoorCards
import Derived.Test.YtiijagmakkgnnaaDoorTie
import Derived.Lay
import Derived.LaidMore
import Derived.SevenTiedAt
import Derived.Stop.Joined
namespace Go.Proofs.YtiijagmakkgnnaaDoor.fnExactReadDeeds
open Go.ChangeShapes Go.WideShapes Go.ChangeAt Go.RowKit
open Go.ChangeMaps (open_string shut_string)
set_option linter.unusedVariables false

set_option maxRecDepth 100000 in
set_option maxHeartbeats 8000000 in
theorem walk {w : World} (s : ByteArray) (hs : s.size ≤ 9223372036854775807) (hg : Glob w) (h8 : 8 ≤ w.heap.size) : Calls Tryd.prog 5 #[.string s] w fun e w' => e = .returned (.bool true) ∧ Below w.heap.size w w' := by
  have HG := Lib.hid hg
  have H8 := Lib.hid h8
  clear hg h8
  by_cases hbig : s.size ≤ 1048576
  case neg =>
    have hd : decide ((1048576 : Int) < (s.size : Int)) = true := by simp; omega
    go_enter Tryd.func5, Tryd.ntmps5
    go_wp2
    go_ret
    exact ⟨rfl, Below.refl _ _⟩
  have hd : decide ((1048576 : Int) < (s.size : Int)) = false := by simp; omega
  have HBIG := Lib.hid hbig
  clear hbig
  obtain ⟨l, hl⟩ : ∃ l, ((readsB s).getD []) = l := ⟨_, rfl⟩
  have hol2 : l.length ≤ 1048576 := by rw [← hl]; have := readsB_len s; omega
  have HL := Lib.hid hl
  clear hl
  have hmo := markTo_pos 5 l.length
  go_enter Tryd.func5, Tryd.ntmps5
  go_wp2_with fail
  refine (sReadDeeds_any s _ HBIG.out).mono ?_
  rintro e w2 ⟨aw, cw, rfl, how, hb2⟩
  rw [HL.out] at how ⊢
  have HW := Lib.hid how.1; have HWO := Lib.hid (how.1.old Dee.len (by omega)); have B2 := Lib.hid hb2; clear how hb2
  go_wp2_with fail
  refine (iReadDeeds_any s _ HBIG.out (HG.out.below B2.out) (Nat.le_trans H8.out B2.out.size)).mono ?_
  rintro e w4 ⟨ag, cg, rfl, hog, hb4⟩
  rw [HL.out] at hog ⊢
  have HG4 := Lib.hid hog; have B4 := Lib.hid (below_trans B2.out hb4); have HW4 := Lib.hid (HW.out.below hb4)
  have hx4 := hb4.size
  clear hog hb4
  go_wp2_with fail
  refine (eqDeedS_same _ _ HG4.out.1 HW4.out hol2).mono ?_
  rintro e w9 ⟨rfl, hb9⟩
  have HG9 := Lib.hid (HG4.out.below hb9); have B9 := Lib.hid (below_trans B4.out hb9); have HW9 := Lib.hid (HW4.out.below hb9); clear hb9 HG4 HW4
  go_wp2_with fail
  refine (markOwn_Deed _ HG9.out hol2).mono ?_
  rintro e wa ⟨rfl, hpa, hba⟩
  have HGa := Lib.hid hpa; have HWa := Lib.hid (HW9.out.under Dee.len hba (fun b off e hl => Nat.lt_of_lt_of_le (HWO.out b off e hl) (by omega)))
  have Ba := Lib.hid (B9.out.trans (hba.mono B2.out.size)); clear hpa hba HG9 HW9
  go_wp2_with fail
  refine (heldOwn_Deed _ HGa.out hol2).mono ?_
  rintro e wb ⟨rfl, hbb⟩
  have HGb := Lib.hid (HGa.out.below hbb); have HWb := Lib.hid (HWa.out.below hbb); have Bb := Lib.hid (below_trans Ba.out hbb); clear hbb HGa HWa
  go_wp2_with fail
  refine (iReadDeeds_any s _ HBIG.out (HG.out.below Bb.out) (Nat.le_trans H8.out Bb.out.size)).mono ?_
  rintro e wd ⟨ah, ch, rfl, hoh, hbd⟩
  rw [HL.out] at hoh ⊢
  have Hh := Lib.hid hoh.1; have HGd := Lib.hid (HGb.out.below hbd); have HWd := Lib.hid (HWb.out.below hbd); have Bd := Lib.hid (below_trans Bb.out hbd); clear hoh hbd HGb HWb
  go_wp2_with fail
  refine (eqDeedS_same _ _ Hh.out HWd.out hol2).mono ?_
  rintro e we ⟨rfl, hbe⟩
  have HGe := Lib.hid (HGd.out.below hbe); have Be := Lib.hid (below_trans Bd.out hbe); clear hbe HGd HWd Hh
  go_wp2_with fail
  refine (heldOwn_Deed _ HGe.out hol2).mono ?_
  rintro e wf ⟨rfl, hbf⟩
  have Bf := Lib.hid (below_trans Be.out hbf); clear hbf
  go_wp2
  go_ret
  exact ⟨rfl, Bf.out⟩

set_option maxRecDepth 100000 in
theorem lifted (os : Os) (started : os.Started) (H : Type) (enc : TypeId × Value → H) :
    ReturnsInHanded {} Tryd.checked os 5 .any (fun w args => (Rows.fnExactReadDeedsSpec.pre enc Tryd.prog Tryd.f5 Rows.fnExactReadDeedsRow.domain false w args ∧ laidMetH Tryd.prog Rows.fnExactReadDeedsRow.laid w) ∧ sizedMet enc Tryd.prog Tryd.f5 (OpenSpec.ofChange Rows.fnExactReadDeedsSpec) false w args) (Rows.fnExactReadDeedsSpec.post enc Tryd.prog Tryd.f5 false true false false) := by
  refine returnsInHanded_of_change_and (C := Tryd.checked) (X := fun w _ => laidMetH Tryd.prog Rows.fnExactReadDeedsRow.laid w) (fun _ _ _ hh h => h.of_heap hh) ownKnobNone started (by kernel_rfl) Tryd.func5
    (ChangeSpec.witness_shaped (enc := enc) (C := Tryd.checked) (os := os) (X := fun w _ => laidMetH Tryd.prog Rows.fnExactReadDeedsRow.laid w) false (World.laidAll Tryd.prog os Rows.fnExactReadDeedsRow.laid) #[.string ByteArray.empty] 8 (World.laidAll_os _ _ _)
      (World.shaped_of_ZipB (by kernel_rfl) (by kernel_rfl)) (by kernel_rfl) (by kernel_rfl) (by kernel_rfl)
      (by rw [MakeChecks.laidMetH_plain _ _ _ (by kernel_rfl)]; exact laidMet_laidAll _ (by kernel_rfl) (by kernel_rfl))) ?_
  intro W base args ds gs before hval0 hW hcnd _ hL _
  have HGL : Glob W ∧ 8 ≤ W.heap.size := by
    rw [MakeChecks.laidMetH_plain _ _ _ (by kernel_rfl)] at hL
    exact glob7 hL
  have hval : ∀ (j : Nat) t v, Tryd.f5.params[j]? = some t → args[j]? = some v → Value.okWide Tryd.prog W .any base t v := hval0
  have hW' := hW
  obtain ⟨p, q, hA0, hV, rfl, hfz, hnd⟩ := hW
  have hA : DataW.TrodAll enc Tryd.prog W 0 (fun _ => true) true Tryd.f5.params.toList args.toList ds p := hA0
  rw [Tryd.params5] at hA hval
  obtain ⟨v0, vs0, d0, ds0, p0, q0, hargs, rfl, rfl, h0, r0⟩ := trodAll_cons hA
  obtain ⟨rfl, rfl, rfl⟩ := trodAll_nil r0
  obtain rfl : args = #[v0] := by cases args; simp_all
  obtain ⟨rfl, rfl⟩ := trodVars_none hV
  have lt0 : ∀ x ∈ p0, x.block < W.heap.size := by obtain ⟨m, hm⟩ := h0; exact DataW.trod_lt m _ _ _ hm
  have o0 := hval 0 9 v0 rfl rfl
  clear hA0 hval0 hval
  have hwalk : Calls Tryd.prog 5 #[v0] W fun e w' => e = .returned (.bool true) ∧ Below W.heap.size W w' := by
    clear hW' hfz hnd hcnd hL lt0
    obtain ⟨s, rfl, -, -, hn⟩ := open_string Tryd.underlying9 o0 h0
    exact walk s hn HGL.1 HGL.2
  refine hwalk.mono fun e W' ⟨he, bel⟩ => ?_
  subst he
  exact ⟨_, rfl, _, _, _, [], _, [], hW', trodAll_mk1 (shut_bool Tryd.underlying4 _), (trodAll_cons_mk (Below.trod laidOut (by kernel_rfl) (of_decide_eq_true (by kernel_rfl)) h0 bel lt0) trodAll_mk0), rfl, bel.frame _, fun h => by cases h⟩

theorem over : Rows.fnExactReadDeedsRow.holds Tryd.pinned (OpenSpec.ofChange Rows.fnExactReadDeedsSpec) :=
  OpenClaim.holds_of_wide 5 Tryd.f5 rfl rfl rfl rfl rfl rfl rfl ⟨rfl, rfl, rfl, rfl, rfl⟩ rfl rfl rfl rfl rfl (by kernel_rfl) Tryd.func5 (by kernel_rfl)
    (of_decide_eq_true (by kernel_rfl)) (by unfold Func.isWrapper; first | (rw [if_pos (by decide +kernel)]; kernel_rfl) | (rw [if_neg (by decide +kernel)]; exact ⟨rfl, rfl⟩))
    (fun os started H enc _ => lifted os started H enc)

/-- No parameter wants a stand-in; the program's own looks are off. -/
theorem plain (f : FuncId) (fn : Func) (hf : Tryd.pinned.checked.prog.funcNamed "loop.example/g00614/laws.FnExactReadDeeds" = some f) (hfn : Tryd.pinned.checked.prog.funcs[f]? = some fn) :
    true = Tryd.pinned.checked.prog.looks [] ∧ ∀ (j : Nat) t, fn.params[j]? = some t → Tryd.pinned.checked.prog.wantsStandIn t = false := by
  obtain rfl : f = 5 := Option.some.inj ((show Tryd.prog.funcNamed "loop.example/g00614/laws.FnExactReadDeeds" = some 5 by kernel_rfl).symm.trans hf) |>.symm
  obtain rfl : fn = Tryd.f5 := (Option.some.inj (Tryd.func5.symm.trans hfn)).symm
  refine ⟨by kernel_rfl, fun j t ht => ?_⟩
  rw [Tryd.params5] at ht
  have hm : t ∈ [9] := by simpa using Array.mem_of_getElem? ht
  have hall : ([9].all fun u => !Tryd.prog.wantsStandIn u) = true := by kernel_rfl
  exact (show Tryd.prog.wantsStandIn t = false by simpa using List.all_eq_true.1 hall t hm)
/-- THE STATEMENT: the tied card. -/
theorem proved : Rows.FnExactReadDeedsCardSaid :=
  Claim7.holds_tied_plain_at .later [] _ _ _ _ over (fun _ h => by cases h) (by kernel_rfl) (fun _ h => by cases h) fnExactReadDeeds_row_tie rfl ⟨rfl, rfl⟩ (by kernel_rfl) rfl plain (by kernel_rfl)
#print axioms proved
end Go.Proofs.YtiijagmakkgnnaaDoor.fnExactReadDeeds
