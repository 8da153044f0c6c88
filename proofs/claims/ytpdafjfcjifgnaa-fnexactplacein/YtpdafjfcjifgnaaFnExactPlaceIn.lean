/-
  At every list of strings and every string the program's PlaceIn answers as the model's and leaves its arguments alone: the law FnExactPlaceIn returns true and its arguments read as before. No condition.
-/
import Derived.Test.YtpdafjfcjifgnaaStrs
import Derived.Test.YtpdafjfcjifgnaaRise
import Derived.Test.YtpdafjfcjifgnaaArgStrs
namespace Go.Proofs.Ytpdafjfcjifgnaa.fnExactPlaceIn
open Go.ChangeShapes Go.WideShapes Go.ChangeAt Go.RowKit
open Go.ChangeMaps (open_string shut_string)
set_option linter.unusedVariables false

set_option maxHeartbeats 1000000 in
theorem walk {w : World} {a : Option Addr} {ss : List ByteArray} (cap : Nat) (s : ByteArray) (hn : s.size ≤ 9223372036854775807) (h : Strs w a ss) (hl : ss.length ≤ 9223372036854775807) (hs : ∀ s ∈ ss, s.size ≤ 9223372036854775807) :
    Calls Try.prog 6 #[.slice a ss.length cap, .string s] w fun e w' => e = .returned (.bool true) ∧ Below w.heap.size w w' := by
  have HH := Lib.hid h
  have HS := Lib.hid hs
  clear h hs
  by_cases hbig : s.size ≤ 1048576
  case neg =>
    have hd : decide ((1048576 : Int) < (s.size : Int)) = true := by simp; omega
    go_enter Try.func6, Try.ntmps6
    go_wp2
    go_ret
    exact ⟨rfl, Below.refl _ _⟩
  have hd : decide ((1048576 : Int) < (s.size : Int)) = false := by simp; omega
  by_cases hz : szV ss 1048576 < 0
  · go_enter Try.func6, Try.ntmps6
    go_wp2_with (go_at_call 17; refine (szStringS_any _ _ HH.out (by omega) HS.out (by omega) (by omega)).mono ?_; rintro e w' ⟨rfl, rfl⟩)
    go_ret
    exact ⟨rfl, Below.refl _ _⟩
  · obtain ⟨hlen, hsz⟩ := szV_small hz
    clear hsz
    go_enter Try.func6, Try.ntmps6
    go_wp2_with fail
    refine (szStringS_any _ _ HH.out (by omega) HS.out (by omega) (by omega)).mono ?_
    rintro e w' ⟨rfl, rfl⟩
    go_wp2_with fail
    refine (toStringS_any _ HH.out hlen).mono ?_
    rintro e w1 ⟨rfl, hs1, hb1⟩
    have H1 := Lib.hid hs1; have B1 := Lib.hid hb1; clear hs1 hb1
    go_wp2_with fail
    refine (sPlaceIn_any _ _ H1.out (by omega)).mono ?_
    rintro e w' ⟨rfl, rfl⟩
    go_wp2_with fail
    refine (toStringS_any _ (HH.out.below B1.out) hlen).mono ?_
    rintro e w3 ⟨rfl, hs3, hb3⟩
    have H3 := Lib.hid hs3; have B3 := Lib.hid (below_trans B1.out hb3); clear hs3 hb3
    go_wp2_with fail
    refine (iPlaceIn_any _ _ H3.out (by omega)).mono ?_
    rintro e w' ⟨rfl, rfl⟩
    go_wp2_with fail
    refine (toStringS_any _ (HH.out.below B3.out) hlen).mono ?_
    rintro e w5 ⟨rfl, hs5, hb5⟩
    have H5 := Lib.hid hs5; have H3' := Lib.hid (H3.out.below hb5); have B5 := Lib.hid (below_trans B3.out hb5); clear hs5 hb5
    go_wp2_with fail
    refine (eqStringS_same _ _ H3'.out H5.out hlen).mono ?_
    rintro e w6 ⟨rfl, n6, rfl⟩
    go_wp2
    go_ret
    exact ⟨rfl, below_draws B5.out n6⟩

set_option maxRecDepth 100000 in
theorem lifted (os : Os) (started : os.Started) (H : Type) (enc : TypeId × Value → H) :
    ReturnsInHanded {} Try.checked os 6 .any (Rows.fnExactPlaceInSpec.pre6 enc Try.prog Try.f6 Rows.fnExactPlaceInRow.domain false) (Rows.fnExactPlaceInSpec.post enc Try.prog Try.f6 false true false false) := by
  refine returnsInHanded_of_change (C := Try.checked) ownKnobNone started (by kernel_rfl) Try.func6
    (ChangeSpec.witness6 (enc := enc) (C := Try.checked) false ⟨#[], #[.slice none 0 0, .string ByteArray.empty], []⟩ 8 (by kernel_rfl) (by kernel_rfl) (by kernel_rfl) (by kernel_rfl)) ?_
  intro W base args ds gs before hval0 hW hcnd _
  have hval : ∀ (j : Nat) t v, Try.f6.params[j]? = some t → args[j]? = some v → Value.okWide Try.prog W .any base t v := hval0
  have hW' := hW
  obtain ⟨p, q, hA0, hV, rfl, hfz, hnd⟩ := hW
  have hA : DataW.TrodAll enc Try.prog W 0 (fun _ => true) true Try.f6.params.toList args.toList ds p := hA0
  rw [Try.params6] at hA hval
  obtain ⟨v0, vs0, d0, ds0, p0, q0, hargs, rfl, rfl, h0, r0⟩ := trodAll_cons hA
  obtain ⟨v1, vs1, d1, ds1, p1, q1, rfl, rfl, rfl, h1, r1⟩ := trodAll_cons r0
  obtain ⟨rfl, rfl, rfl⟩ := trodAll_nil r1
  obtain rfl : args = #[v0, v1] := by cases args; simp_all
  obtain ⟨rfl, rfl⟩ := trodVars_none hV
  have lt0 : ∀ x ∈ p0, x.block < W.heap.size := by obtain ⟨m, hm⟩ := h0; exact DataW.trod_lt m _ _ _ hm
  have lt1 : ∀ x ∈ p1, x.block < W.heap.size := by obtain ⟨m, hm⟩ := h1; exact DataW.trod_lt m _ _ _ hm
  have o0 := hval 0 24 v0 rfl rfl
  have o1 := hval 1 9 v1 rfl rfl
  clear hA0 hval0 hval
  have hwalk : Calls Try.prog 6 #[v0, v1] W fun e w' => e = .returned (.bool true) ∧ Below W.heap.size W w' := by
    clear hW' hfz hnd hcnd lt0 lt1
    obtain ⟨a, cap, ss, rfl, hst, hl, hs⟩ := arg_strs o0 h0
    obtain ⟨s, rfl, -, -, hn⟩ := open_string Try.underlying9 o1 h1
    exact walk cap s hn hst hl hs
  refine hwalk.mono fun e W' ⟨he, bel⟩ => ?_
  subst he
  exact ⟨_, rfl, _, _, _, [], _, [], hW', trodAll_mk1 (shut_bool Try.underlying4 _), (trodAll_cons_mk (Below.trod laidOut (by kernel_rfl) (of_decide_eq_true (by kernel_rfl)) h0 bel lt0) (trodAll_cons_mk (Below.trod laidOut (by kernel_rfl) (of_decide_eq_true (by kernel_rfl)) h1 bel lt1) trodAll_mk0)), rfl, bel.frame _, fun h => by cases h⟩

theorem over : Rows.fnExactPlaceInRow.holds Try.pinned (OpenSpec.ofChange Rows.fnExactPlaceInSpec) :=
  OpenClaim.holds_of_wide 6 Try.f6 rfl rfl rfl rfl rfl rfl rfl ⟨rfl, rfl, rfl, rfl, rfl⟩ rfl rfl rfl rfl rfl (by kernel_rfl) Try.func6 (by kernel_rfl)
    (of_decide_eq_true (by kernel_rfl)) (by unfold Func.isWrapper; first | (rw [if_pos (by decide +kernel)]; kernel_rfl) | (rw [if_neg (by decide +kernel)]; exact ⟨rfl, rfl⟩))
    (fun os started H enc _ => lifted os started H enc)

/-- THE STATEMENT -/
theorem proved : Rows.FnExactPlaceInSaid := over
#print axioms proved
end Go.Proofs.Ytpdafjfcjifgnaa.fnExactPlaceIn
