/-
  At every deed the program's DeedOk answers as the model's: the law FnExactDeedOk returns true and its arguments read as before. No condition.
-/
import Derived.Test.YtiijagmakkgnnaaDoorJ6
import Derived.Test.YtiijagmakkgnnaaDoorCards
import Derived.Test.YtiijagmakkgnnaaDoorTie
import Derived.Lay
import Derived.LaidMore
import Derived.SevenTiedAt
import Derived.Stop.Joined
namespace Go.Proofs.YtiijagmakkgnnaaDoor.fnExactDeedOk
open Go.ChangeShapes Go.WideShapes Go.ChangeAt Go.RowKit
open Go.ChangeMaps (open_string shut_string)
set_option linter.unusedVariables false

set_option maxHeartbeats 2000000 in
theorem walk {w : World} (d : Dee) (hs : d.fits) (hn0 : -9223372036854775808 ≤ d.n) (hn1 : d.n ≤ 9223372036854775807) (hg : Glob w) (h8 : 8 ≤ w.heap.size) : Calls Tryd.prog 3 #[.agg #[.int .i64 d.kind, .string d.who, .string d.mill, .string d.to, .int .i64 d.n]] w fun e w' => e = .returned (.bool true) ∧ Below w.heap.size w w' := by
  have HS := Lib.hid hs
  have HZ1 := Lib.hid (show d.who.size ≤ maxLen from by have := hs.1; unfold maxLen; omega)
  have HZ2 := Lib.hid (show d.mill.size ≤ maxLen from by have := hs.2.1; unfold maxLen; omega)
  have HZ3 := Lib.hid (show d.to.size ≤ maxLen from by have := hs.2.2; unfold maxLen; omega)
  have HN0 := Lib.hid hn0
  have HN1 := Lib.hid hn1
  have HG := Lib.hid hg
  have H8 := Lib.hid h8
  clear hs hn0 hn1 hg h8
  go_enter Tryd.func3, Tryd.ntmps3
  go_wp2_with fail
  refine (szDeed_any _ _ _ _ _ _ _ HS.out.1 HS.out.2.1 HS.out.2.2 (by omega) (by omega)).mono ?_
  rintro e w0 ⟨rfl, hb0⟩
  have B0 := Lib.hid (below_trans (below_new w (.cells #[.int .i64 d.kind, .string d.who, .string d.mill, .string d.to, .int .i64 d.n] 23)) hb0)
  obtain ⟨k1, k2⟩ := kept_all hb0
  have hs0 : w.heap.size < w0.heap.size := by have := hb0.size; simp at this; omega
  clear hb0
  by_cases hz : Dee.left ⟨d.kind, d.who, d.mill, d.to, d.n⟩ 1048576 < 0
  · go_wp2
    go_ret
    exact ⟨rfl, B0.out⟩
  · have HBY := Lib.hid (left_small hz)
    go_wp2_with fail
    refine (toDeed_any _ _ _ _ _ _).mono ?_
    rintro e w1 ⟨rfl, hb1⟩
    have B1 := Lib.hid (below_trans B0.out hb1)
    obtain ⟨l1, l2⟩ := kept_all hb1
    have hs1 : w.heap.size < w1.heap.size := Nat.lt_of_lt_of_le hs0 hb1.size
    clear hb1
    go_wp2_with fail
    refine (sDeedOk_any d.kind d.n d.who d.mill d.to _ HZ1.out HZ2.out HZ3.out).mono ?_
    rintro e w2 ⟨rfl, hb2⟩
    have B2 := Lib.hid (below_trans B1.out hb2)
    obtain ⟨n1, n2⟩ := kept_all hb2
    have hs2 : w.heap.size < w2.heap.size := Nat.lt_of_lt_of_le hs1 hb2.size
    clear hb2
    go_wp2_with fail
    refine (toDeed_any _ _ _ _ _ _).mono ?_
    rintro e w3 ⟨rfl, hb3⟩
    have B3 := Lib.hid (below_trans B2.out hb3)
    clear hb3
    go_wp2_with fail
    refine (iDeedOk_any d.kind d.n d.who d.mill d.to _ (by have := HBY.out; omega) (by have := HBY.out; omega) (by have := HBY.out; omega) HN0.out HN1.out (HG.out.below B3.out) (Nat.le_trans H8.out B3.out.size)).mono ?_
    rintro e w4 ⟨rfl, hb4⟩
    have B4 := Lib.hid (below_trans B3.out hb4)
    clear hb4
    go_wp2
    go_ret
    exact ⟨rfl, B4.out⟩

set_option maxRecDepth 100000 in
theorem lifted (os : Os) (started : os.Started) (H : Type) (enc : TypeId × Value → H) :
    ReturnsInHanded {} Tryd.checked os 3 .any (fun w args => (Rows.fnExactDeedOkSpec.pre enc Tryd.prog Tryd.f3 Rows.fnExactDeedOkRow.domain false w args ∧ laidMetH Tryd.prog Rows.fnExactDeedOkRow.laid w) ∧ sizedMet enc Tryd.prog Tryd.f3 (OpenSpec.ofChange Rows.fnExactDeedOkSpec) false w args) (Rows.fnExactDeedOkSpec.post enc Tryd.prog Tryd.f3 false true false false) := by
  refine returnsInHanded_of_change_and (C := Tryd.checked) (X := fun w _ => laidMetH Tryd.prog Rows.fnExactDeedOkRow.laid w) (fun _ _ _ hh h => h.of_heap hh) ownKnobNone started (by kernel_rfl) Tryd.func3
    (ChangeSpec.witness_shaped (enc := enc) (C := Tryd.checked) (os := os) (X := fun w _ => laidMetH Tryd.prog Rows.fnExactDeedOkRow.laid w) false (World.laidAll Tryd.prog os Rows.fnExactDeedOkRow.laid) #[.agg #[.int .i64 0, .string ByteArray.empty, .string ByteArray.empty, .string ByteArray.empty, .int .i64 0]] 8 (World.laidAll_os _ _ _)
      (World.shaped_of_ZipB (by kernel_rfl) (by kernel_rfl)) (by kernel_rfl) (by kernel_rfl) (by kernel_rfl)
      (by rw [MakeChecks.laidMetH_plain _ _ _ (by kernel_rfl)]; exact laidMet_laidAll _ (by kernel_rfl) (by kernel_rfl))) ?_
  intro W base args ds gs before hval0 hW hcnd _ hL _
  have HGL : Glob W ∧ 8 ≤ W.heap.size := by
    rw [MakeChecks.laidMetH_plain _ _ _ (by kernel_rfl)] at hL
    exact glob5 hL
  have hval : ∀ (j : Nat) t v, Tryd.f3.params[j]? = some t → args[j]? = some v → Value.okWide Tryd.prog W .any base t v := hval0
  have hW' := hW
  obtain ⟨p, q, hA0, hV, rfl, hfz, hnd⟩ := hW
  have hA : DataW.TrodAll enc Tryd.prog W 0 (fun _ => true) true Tryd.f3.params.toList args.toList ds p := hA0
  rw [Tryd.params3] at hA hval
  obtain ⟨v0, vs0, d0, ds0, p0, q0, hargs, rfl, rfl, h0, r0⟩ := trodAll_cons hA
  obtain ⟨rfl, rfl, rfl⟩ := trodAll_nil r0
  obtain rfl : args = #[v0] := by cases args; simp_all
  obtain ⟨rfl, rfl⟩ := trodVars_none hV
  have lt0 : ∀ x ∈ p0, x.block < W.heap.size := by obtain ⟨m, hm⟩ := h0; exact DataW.trod_lt m _ _ _ hm
  have o0 := hval 0 23 v0 rfl rfl
  clear hA0 hval0 hval
  have hwalk : Calls Tryd.prog 3 #[v0] W fun e w' => e = .returned (.bool true) ∧ Below W.heap.size W w' := by
    clear hW' hfz hnd hcnd hL lt0
    obtain ⟨d, rfl, hd, hn0, hn1⟩ := arg_DeedN o0 h0
    exact walk d hd hn0 hn1 HGL.1 HGL.2
  refine hwalk.mono fun e W' ⟨he, bel⟩ => ?_
  subst he
  exact ⟨_, rfl, _, _, _, [], _, [], hW', trodAll_mk1 (shut_bool Tryd.underlying4 _), (trodAll_cons_mk (Below.trod laidOut (by kernel_rfl) (of_decide_eq_true (by kernel_rfl)) h0 bel lt0) trodAll_mk0), rfl, bel.frame _, fun h => by cases h⟩

theorem over : Rows.fnExactDeedOkRow.holds Tryd.pinned (OpenSpec.ofChange Rows.fnExactDeedOkSpec) :=
  OpenClaim.holds_of_wide 3 Tryd.f3 rfl rfl rfl rfl rfl rfl rfl ⟨rfl, rfl, rfl, rfl, rfl⟩ rfl rfl rfl rfl rfl (by kernel_rfl) Tryd.func3 (by kernel_rfl)
    (of_decide_eq_true (by kernel_rfl)) (by unfold Func.isWrapper; first | (rw [if_pos (by decide +kernel)]; kernel_rfl) | (rw [if_neg (by decide +kernel)]; exact ⟨rfl, rfl⟩))
    (fun os started H enc _ => lifted os started H enc)

/-- No parameter wants a stand-in; the program's own looks are off. -/
theorem plain (f : FuncId) (fn : Func) (hf : Tryd.pinned.checked.prog.funcNamed "loop.example/g00614/laws.FnExactDeedOk" = some f) (hfn : Tryd.pinned.checked.prog.funcs[f]? = some fn) :
    true = Tryd.pinned.checked.prog.looks [] ∧ ∀ (j : Nat) t, fn.params[j]? = some t → Tryd.pinned.checked.prog.wantsStandIn t = false := by
  obtain rfl : f = 3 := Option.some.inj ((show Tryd.prog.funcNamed "loop.example/g00614/laws.FnExactDeedOk" = some 3 by kernel_rfl).symm.trans hf) |>.symm
  obtain rfl : fn = Tryd.f3 := (Option.some.inj (Tryd.func3.symm.trans hfn)).symm
  refine ⟨by kernel_rfl, fun j t ht => ?_⟩
  rw [Tryd.params3] at ht
  have hm : t ∈ [23] := by simpa using Array.mem_of_getElem? ht
  have hall : ([23].all fun u => !Tryd.prog.wantsStandIn u) = true := by kernel_rfl
  exact (show Tryd.prog.wantsStandIn t = false by simpa using List.all_eq_true.1 hall t hm)
/-- THE STATEMENT: the tied card. -/
theorem proved : Rows.FnExactDeedOkCardSaid :=
  Claim7.holds_tied_plain_at .later [] _ _ _ _ over (fun _ h => by cases h) (by kernel_rfl) (fun _ h => by cases h) fnExactDeedOk_row_tie rfl ⟨rfl, rfl⟩ (by kernel_rfl) rfl plain (by kernel_rfl)
#print axioms proved
end Go.Proofs.YtiijagmakkgnnaaDoor.fnExactDeedOk
