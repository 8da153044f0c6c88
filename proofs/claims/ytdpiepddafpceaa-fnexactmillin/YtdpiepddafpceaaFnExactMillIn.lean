/-
  At every list of mills and every string the program's MillIn answers as the model's and leaves its arguments alone: the law FnExactMillIn returns true and its arguments read as before. No condition.
-/
import Derived.Test.YtdpiepddafpceaaMillI
import Derived.Test.YtdpiepddafpceaaArgMill
namespace Go.Proofs.Ytdpiepddafpceaa.fnExactMillIn
open Go.ChangeShapes Go.WideShapes Go.ChangeAt Go.RowKit
open Go.ChangeMaps (open_string shut_string)
set_option linter.unusedVariables false

theorem sized_of {ms : List Mil} (hs : ∀ m ∈ ms, m.fits) : Sized (mnames ms) :=
  Sized.of (n := 9223372036854775807) (fun s h => by obtain ⟨p, hp, rfl⟩ := List.mem_map.1 h; exact hs p hp) (by unfold maxLen; omega)

set_option maxHeartbeats 2000000 in
theorem walk {w : World} {a : Option Addr} {ms : List Mil} (cap : Nat) (s : ByteArray) (hn : s.size ≤ 9223372036854775807) (h : Recs Mil.cs w a ms) (hl : ms.length ≤ 9223372036854775807) (hs : ∀ m ∈ ms, m.fits) :
    Calls Try.prog 7 #[.slice a ms.length cap, .string s] w fun e w' => e = .returned (.bool true) ∧ Below w.heap.size w w' := by
  have HH := Lib.hid h
  have HS := Lib.hid hs
  have HZ := Lib.hid (sized_of hs)
  clear h hs
  by_cases hbig : s.size ≤ 1048576
  case neg =>
    have hd : decide ((1048576 : Int) < (s.size : Int)) = true := by simp; omega
    go_enter Try.func7, Try.ntmps7
    go_wp2
    go_ret
    exact ⟨rfl, Below.refl _ _⟩
  have hd : decide ((1048576 : Int) < (s.size : Int)) = false := by simp; omega
  by_cases hz : szR Mil.bytes ms 1048576 < 0
  · go_enter Try.func7, Try.ntmps7
    go_wp2_with (go_at_call 33; refine (szMillS_any _ _ HH.out (by omega) HS.out (by omega) (by omega)).mono ?_; rintro e w' ⟨rfl, hb0⟩)
    go_ret
    exact ⟨rfl, hb0⟩
  · obtain ⟨hlen, -⟩ := szR_small (by omega) hz
    obtain ⟨m, HM⟩ : ∃ m, Hid (millInV ms s = m) := ⟨_, Lib.hid rfl⟩
    go_enter Try.func7, Try.ntmps7
    go_wp2_with fail
    refine (szMillS_any _ _ HH.out (by omega) HS.out (by omega) (by omega)).mono ?_
    rintro e w0 ⟨rfl, hb0⟩
    have B0 := Lib.hid hb0; clear hb0
    go_wp2_with fail
    refine (toMillS_any _ (HH.out.below B0.out) hlen).mono ?_
    rintro e w1 ⟨rfl, hs1, hb1, hf1⟩
    have H1 := Lib.hid hs1; have B1 := Lib.hid (below_trans B0.out hb1); clear hs1 hb1 hf1
    go_wp2_with fail
    refine (sMillIn_any _ _ H1.out (by omega) HZ.out).mono ?_
    rw [HM.out]
    rintro e w2 ⟨rfl, hb2⟩
    have B2 := Lib.hid (below_trans (below_trans B1.out hb2) (below_new w2 (.cells #[.string m.name, .int .i64 m.stake, .int .i64 m.shares, .int .i64 m.cut, .bool m.shut] 25)))
    have R2 := Lib.hid (show RecAt Mil.cs (w2.alloc (.cells #[.string m.name, .int .i64 m.stake, .int .i64 m.shares, .int .i64 m.cut, .bool m.shut] 25)) w2.heap.size m from RecAt.new Mil.cs w2 m 25); clear hb2
    go_wp2_with fail
    refine (toMillS_any _ (HH.out.below B2.out) hlen).mono ?_
    rintro e w3 ⟨rfl, hs3, hb3, hf3⟩
    have H3 := Lib.hid (show Recs Mil.cs w3 (some ⟨w2.heap.size + 1, 0, none⟩) ms from by simpa using hs3); have B3 := Lib.hid (below_trans B2.out hb3); have R3 := Lib.hid (R2.out.below hb3); clear hs3 hb3 hf3 R2
    go_wp2_with fail
    refine (iMillIn_any _ _ H3.out (by omega) HZ.out).mono ?_
    rw [HM.out]
    rintro e w4 ⟨rfl, hb4⟩
    have H4 := Lib.hid (H3.out.below (below_trans hb4 (below_new w4 (.cells #[.string m.name, .int .i64 m.stake, .int .i64 m.shares, .int .i64 m.cut, .bool m.shut] 25)))); have B4 := Lib.hid (below_trans (below_trans B3.out hb4) (below_new w4 (.cells #[.string m.name, .int .i64 m.stake, .int .i64 m.shares, .int .i64 m.cut, .bool m.shut] 25))); have r4 := R3.out.below hb4
    have c0 := r4 0 _ rfl
    have c1 := r4 1 _ rfl
    have c2 := r4 2 _ rfl
    have c3 := r4 3 _ rfl
    have c4 := r4 4 _ rfl
    have hne : w2.heap.size < w4.heap.size := at_lt c0
    clear hb4 R3 r4
    go_wp2_with fail
    refine (eqMill_same _ _ _ _ _ _).mono ?_
    rintro e w5 ⟨rfl, hb5⟩
    have H5 := Lib.hid (H4.out.below hb5); have B5 := Lib.hid (below_trans B4.out hb5); clear hb5 H4 c0 c1 c2 c3 c4
    go_wp2_with fail
    refine (toMillS_any _ (HH.out.below B5.out) hlen).mono ?_
    rintro e w6 ⟨rfl, hs6, hb6, hf6⟩
    have H6 := Lib.hid hs6; have H5' := Lib.hid (H5.out.below hb6); have B6 := Lib.hid (below_trans B5.out hb6); clear hs6 hb6 hf6
    go_wp2_with fail
    refine (eqMillS_same _ _ H5'.out H6.out hlen).mono ?_
    rintro e w7 ⟨rfl, hb7⟩
    have B7 := Lib.hid (below_trans B6.out hb7); clear hb7
    go_wp2
    go_ret
    exact ⟨rfl, B7.out⟩

set_option maxRecDepth 100000 in
theorem lifted (os : Os) (started : os.Started) (H : Type) (enc : TypeId × Value → H) :
    ReturnsInHanded {} Try.checked os 7 .any (Rows.fnExactMillInSpec.pre6 enc Try.prog Try.f7 Rows.fnExactMillInRow.domain false) (Rows.fnExactMillInSpec.post enc Try.prog Try.f7 false true false false) := by
  refine returnsInHanded_of_change (C := Try.checked) ownKnobNone started (by kernel_rfl) Try.func7
    (ChangeSpec.witness6 (enc := enc) (C := Try.checked) false ⟨#[], #[.slice none 0 0, .string ByteArray.empty], []⟩ 8 (by kernel_rfl) (by kernel_rfl) (by kernel_rfl) (by kernel_rfl)) ?_
  intro W base args ds gs before hval0 hW hcnd _
  have hval : ∀ (j : Nat) t v, Try.f7.params[j]? = some t → args[j]? = some v → Value.okWide Try.prog W .any base t v := hval0
  have hW' := hW
  obtain ⟨p, q, hA0, hV, rfl, hfz, hnd⟩ := hW
  have hA : DataW.TrodAll enc Try.prog W 0 (fun _ => true) true Try.f7.params.toList args.toList ds p := hA0
  rw [Try.params7] at hA hval
  obtain ⟨v0, vs0, d0, ds0, p0, q0, hargs, rfl, rfl, h0, r0⟩ := trodAll_cons hA
  obtain ⟨v1, vs1, d1, ds1, p1, q1, rfl, rfl, rfl, h1, r1⟩ := trodAll_cons r0
  obtain ⟨rfl, rfl, rfl⟩ := trodAll_nil r1
  obtain rfl : args = #[v0, v1] := by cases args; simp_all
  obtain ⟨rfl, rfl⟩ := trodVars_none hV
  have lt0 : ∀ x ∈ p0, x.block < W.heap.size := by obtain ⟨m, hm⟩ := h0; exact DataW.trod_lt m _ _ _ hm
  have lt1 : ∀ x ∈ p1, x.block < W.heap.size := by obtain ⟨m, hm⟩ := h1; exact DataW.trod_lt m _ _ _ hm
  have o0 := hval 0 44 v0 rfl rfl
  have o1 := hval 1 9 v1 rfl rfl
  clear hA0 hval0 hval
  have hwalk : Calls Try.prog 7 #[v0, v1] W fun e w' => e = .returned (.bool true) ∧ Below W.heap.size W w' := by
    clear hW' hfz hnd hcnd lt0 lt1
    obtain ⟨a, cap, ms, rfl, hst, hl, hs⟩ := arg_Mills o0 h0
    obtain ⟨s, rfl, -, -, hn⟩ := open_string Try.underlying9 o1 h1
    exact walk cap s hn hst hl hs
  refine hwalk.mono fun e W' ⟨he, bel⟩ => ?_
  subst he
  exact ⟨_, rfl, _, _, _, [], _, [], hW', trodAll_mk1 (shut_bool Try.underlying4 _), (trodAll_cons_mk (Below.trod laidOut (by kernel_rfl) (of_decide_eq_true (by kernel_rfl)) h0 bel lt0) (trodAll_cons_mk (Below.trod laidOut (by kernel_rfl) (of_decide_eq_true (by kernel_rfl)) h1 bel lt1) trodAll_mk0)), rfl, bel.frame _, fun h => by cases h⟩

theorem over : Rows.fnExactMillInRow.holds Try.pinned (OpenSpec.ofChange Rows.fnExactMillInSpec) :=
  OpenClaim.holds_of_wide 7 Try.f7 rfl rfl rfl rfl rfl rfl rfl ⟨rfl, rfl, rfl, rfl, rfl⟩ rfl rfl rfl rfl rfl (by kernel_rfl) Try.func7 (by kernel_rfl)
    (of_decide_eq_true (by kernel_rfl)) (by unfold Func.isWrapper; first | (rw [if_pos (by decide +kernel)]; kernel_rfl) | (rw [if_neg (by decide +kernel)]; exact ⟨rfl, rfl⟩))
    (fun os started H enc _ => lifted os started H enc)

/-- THE STATEMENT -/
theorem proved : Rows.FnExactMillInSaid := over
#print axioms proved
end Go.Proofs.Ytdpiepddafpceaa.fnExactMillIn
