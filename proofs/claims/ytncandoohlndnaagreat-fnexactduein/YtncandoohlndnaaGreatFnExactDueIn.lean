/-
  At every book, every string, every number the program's DueIn answers as the model's and leaves its arguments alone: the law FnExactDueIn returns true and its arguments read as before. No condition.
-/
import Derived.Test.YtncandoohlndnaaGreatJ8
namespace Go.Proofs.YtncandoohlndnaaGreat.fnExactDueIn
open Go.ChangeShapes Go.WideShapes Go.ChangeAt Go.RowKit
open Go.ChangeMaps (open_string shut_string)
set_option linter.unusedVariables false

set_option maxRecDepth 100000 in
set_option maxHeartbeats 8000000 in
theorem walk {w : World} {b : Bok} {s : Spots} (who : ByteArray) (zw : who.size ≤ 9223372036854775807) (n : Int) (h : BookAt w b s) (hf : BFits b) :
    Calls Tryz.prog 3 #[.agg #[.int .i64 b.season, .int .i64 b.supply, .int .i64 b.burnt, .int .i64 b.pot, .slice s.fa b.folk.length s.fc, .slice s.ma b.mills.length s.mc, .slice s.pa b.parts.length s.pc, .slice s.wa b.waits.length s.wc], .string who, .int .i64 n] w fun e w' => e = .returned (.bool true) ∧ Below w.heap.size w w' := by
  have X0 := Lib.hid (BoxB.new h 27)
  have B0 := Lib.hid (below_new w (.cells #[.int .i64 b.season, .int .i64 b.supply, .int .i64 b.burnt, .int .i64 b.pot, .slice s.fa b.folk.length s.fc, .slice s.ma b.mills.length s.mc, .slice s.pa b.parts.length s.pc, .slice s.wa b.waits.length s.wc] 27))
  have HF := Lib.hid hf
  have HZ := Lib.hid (bsized_of hf)
  clear h hf
  by_cases bw : who.size ≤ 1048576
  case neg =>
    have hd : decide ((1048576 : Int) < (who.size : Int)) = true := by simp; omega
    go_enter Tryz.func3, Tryz.ntmps3
    go_wp2
    go_ret
    exact ⟨rfl, B0.out⟩
  have hd : decide ((1048576 : Int) < (who.size : Int)) = false := by simp; omega
  go_enter Tryz.func3, Tryz.ntmps3
  have c0 := X0.out.c0
  have c1 := X0.out.c1
  have c2 := X0.out.c2
  have c3 := X0.out.c3
  have c4 := X0.out.c4
  have c5 := X0.out.c5
  have c6 := X0.out.c6
  have c7 := X0.out.c7
  go_wp2_with fail
  refine (szBook_any (s := s) _ X0.out.book HF.out (by omega) (by omega)).mono ?_
  rintro e w1 ⟨r, rfl, hr1, hr2, hr3, hb1⟩
  have X1 := Lib.hid (X0.out.below hb1)
  have B1 := Lib.hid (below_trans B0.out hb1)
  clear X0 B0 hb1 c0 c1 c2 c3 c4 c5 c6 c7
  by_cases hn : r < 0
  · go_wp2
    go_ret
    exact ⟨rfl, B1.out⟩
  have HL := Lib.hid (hr3 (by omega)).1
  clear hr3
  have c0 := X1.out.c0
  have c1 := X1.out.c1
  have c2 := X1.out.c2
  have c3 := X1.out.c3
  have c4 := X1.out.c4
  have c5 := X1.out.c5
  have c6 := X1.out.c6
  have c7 := X1.out.c7
  go_wp2_with fail
  refine (toBook_any (s := s) X1.out.book HL.out).mono ?_
  rintro e w2 ⟨s2, rfl, ho2, hb2⟩
  have T2 := Lib.hid ho2.at
  have X2 := Lib.hid (X1.out.below hb2)
  have B2 := Lib.hid (below_trans B1.out hb2)
  clear ho2 hb2 X1 B1 c0 c1 c2 c3 c4 c5 c6 c7
  go_wp2_with fail
  refine (sDueIn_any (s := s2) _ _ T2.out HL.out HZ.out).mono ?_
  rintro e w3 ⟨rfl, hb3⟩
  have X3 := Lib.hid (X2.out.below hb3)
  have B3 := Lib.hid (below_trans B2.out hb3)
  clear X2 B2 T2 hb3
  have c0 := X3.out.c0
  have c1 := X3.out.c1
  have c2 := X3.out.c2
  have c3 := X3.out.c3
  have c4 := X3.out.c4
  have c5 := X3.out.c5
  have c6 := X3.out.c6
  have c7 := X3.out.c7
  go_wp2_with fail
  refine (toBook_any (s := s) X3.out.book HL.out).mono ?_
  rintro e w4 ⟨s4, rfl, ho4, hb4⟩
  have T4 := Lib.hid ho4.at
  have X4 := Lib.hid (X3.out.below hb4)
  have B4 := Lib.hid (below_trans B3.out hb4)
  clear ho4 hb4 X3 B3 c0 c1 c2 c3 c4 c5 c6 c7
  obtain ⟨V, hV⟩ : ∃ V, w4.alloc (.cells #[.int .i64 b.season, .int .i64 b.supply, .int .i64 b.burnt, .int .i64 b.pot, .slice s4.fa b.folk.length s4.fc, .slice s4.ma b.mills.length s4.mc, .slice s4.pa b.parts.length s4.pc, .slice s4.wa b.waits.length s4.wc] 35) = V := ⟨_, rfl⟩
  have Y := Lib.hid (BoxB.new T4.out 35)
  have XV := Lib.hid (X4.out.below (below_new w4 (.cells #[.int .i64 b.season, .int .i64 b.supply, .int .i64 b.burnt, .int .i64 b.pot, .slice s4.fa b.folk.length s4.fc, .slice s4.ma b.mills.length s4.mc, .slice s4.pa b.parts.length s4.pc, .slice s4.wa b.waits.length s4.wc] 35)))
  have BV := Lib.hid (below_trans B4.out (below_new w4 (.cells #[.int .i64 b.season, .int .i64 b.supply, .int .i64 b.burnt, .int .i64 b.pot, .slice s4.fa b.folk.length s4.fc, .slice s4.ma b.mills.length s4.mc, .slice s4.pa b.parts.length s4.pc, .slice s4.wa b.waits.length s4.wc] 35)))
  rw [hV] at Y XV BV
  clear X4 B4 T4
  have d0 := Y.out.c0
  have d1 := Y.out.c1
  have d2 := Y.out.c2
  have d3 := Y.out.c3
  have d4 := Y.out.c4
  have d5 := Y.out.c5
  have d6 := Y.out.c6
  have d7 := Y.out.c7
  go_wp2_with fail
  refine (iDueIn_any (s := s4) _ _ Y.out.book HL.out HZ.out).mono ?_
  rintro e w5 ⟨rfl, hb5⟩
  have X5 := Lib.hid (XV.out.below hb5)
  have Y5 := Lib.hid (Y.out.below hb5)
  have B5 := Lib.hid (below_trans BV.out hb5)
  clear XV Y BV hb5 d0 d1 d2 d3 d4 d5 d6 d7
  have c0 := X5.out.c0
  have c1 := X5.out.c1
  have c2 := X5.out.c2
  have c3 := X5.out.c3
  have c4 := X5.out.c4
  have c5 := X5.out.c5
  have c6 := X5.out.c6
  have c7 := X5.out.c7
  have d0 := Y5.out.c0
  have d1 := Y5.out.c1
  have d2 := Y5.out.c2
  have d3 := Y5.out.c3
  have d4 := Y5.out.c4
  have d5 := Y5.out.c5
  have d6 := Y5.out.c6
  have d7 := Y5.out.c7
  clear c0 c1 c2 c3 c4 c5 c6 c7 d0 d1 d2 d3 d4 d5 d6 d7
  have X6 := Lib.hid (show BoxB w5.drew w.heap.size b s from X5.out.draws 1)
  have Y6 := Lib.hid (show BoxB w5.drew w4.heap.size b s4 from Y5.out.draws 1)
  have B6 := Lib.hid (show Below w.heap.size w w5.drew from below_draws B5.out 1)
  go_wp2
  go_region_held3 (fun w' => w'.cell? ⟨w.heap.size, 0, none⟩ = some (.int .i64 b.season) ∧ w'.cell? ⟨w.heap.size, 1, none⟩ = some (.int .i64 b.supply) ∧ w'.cell? ⟨w.heap.size, 2, none⟩ = some (.int .i64 b.burnt) ∧ w'.cell? ⟨w.heap.size, 3, none⟩ = some (.int .i64 b.pot) ∧ w'.cell? ⟨w.heap.size, 4, none⟩ = some (.slice s.fa b.folk.length s.fc) ∧ w'.cell? ⟨w.heap.size, 5, none⟩ = some (.slice s.ma b.mills.length s.mc) ∧ w'.cell? ⟨w.heap.size, 6, none⟩ = some (.slice s.pa b.parts.length s.pc) ∧ w'.cell? ⟨w.heap.size, 7, none⟩ = some (.slice s.wa b.waits.length s.wc) ∧ w'.cell? ⟨w4.heap.size, 0, none⟩ = some (.int .i64 b.season) ∧ w'.cell? ⟨w4.heap.size, 1, none⟩ = some (.int .i64 b.supply) ∧ w'.cell? ⟨w4.heap.size, 2, none⟩ = some (.int .i64 b.burnt) ∧ w'.cell? ⟨w4.heap.size, 3, none⟩ = some (.int .i64 b.pot) ∧ w'.cell? ⟨w4.heap.size, 4, none⟩ = some (.slice s4.fa b.folk.length s4.fc) ∧ w'.cell? ⟨w4.heap.size, 5, none⟩ = some (.slice s4.ma b.mills.length s4.mc) ∧ w'.cell? ⟨w4.heap.size, 6, none⟩ = some (.slice s4.pa b.parts.length s4.pc) ∧ w'.cell? ⟨w4.heap.size, 7, none⟩ = some (.slice s4.wa b.waits.length s4.wc))
    (first | exact cells16 X5.out Y5.out | exact cells16 X6.out Y6.out | exact cells16 X7.out Y7.out | exact cells16 X8.out Y8.out)
    (first | (go_at_call 6; refine (toBook_any (s := s) X6.out.book HL.out).mono ?_; rintro e w7 ⟨s7, rfl, ho7, hb7⟩; have T7 := Lib.hid ho7.at; have X7 := Lib.hid (X6.out.below hb7); have Y7 := Lib.hid (Y6.out.below hb7); have B7 := Lib.hid (below_trans B6.out hb7); clear ho7 hb7) | (go_at_call 8; refine (eqBook_same (s := s4) (s' := s7) Y7.out.book T7.out HL.out).mono ?_; rintro e w8 ⟨rfl, hb8⟩; have X8 := Lib.hid (X7.out.below hb8); have Y8 := Lib.hid (Y7.out.below hb8); have B8 := Lib.hid (below_trans B7.out hb8); clear hb8))
  all_goals
    go_wp2
    go_ret
    exact ⟨rfl, B8.out⟩

set_option maxRecDepth 100000 in
theorem lifted (os : Os) (started : os.Started) (H : Type) (enc : TypeId × Value → H) :
    ReturnsInHanded {} Tryz.checked os 3 .any (Rows.fnExactDueInSpec.pre6 enc Tryz.prog Tryz.f3 Rows.fnExactDueInRow.domain false) (Rows.fnExactDueInSpec.post enc Tryz.prog Tryz.f3 false true false false) := by
  refine returnsInHanded_of_change (C := Tryz.checked) ownKnobNone started (by kernel_rfl) Tryz.func3
    (ChangeSpec.witness6 (enc := enc) (C := Tryz.checked) false ⟨#[], #[.agg #[.int .i64 0, .int .i64 0, .int .i64 0, .int .i64 0, .slice none 0 0, .slice none 0 0, .slice none 0 0, .slice none 0 0], .string ByteArray.empty, .int .i64 0], []⟩ 8 (by kernel_rfl) (by kernel_rfl) (by kernel_rfl) (by kernel_rfl)) ?_
  intro W base args ds gs before hval0 hW hcnd _
  have hval : ∀ (j : Nat) t v, Tryz.f3.params[j]? = some t → args[j]? = some v → Value.okWide Tryz.prog W .any base t v := hval0
  have hW' := hW
  obtain ⟨p, q, hA0, hV, rfl, hfz, hnd⟩ := hW
  have hA : DataW.TrodAll enc Tryz.prog W 0 (fun _ => true) true Tryz.f3.params.toList args.toList ds p := hA0
  rw [Tryz.params3] at hA hval
  obtain ⟨v0, vs0, d0, ds0, p0, q0, hargs, rfl, rfl, h0, r0⟩ := trodAll_cons hA
  obtain ⟨v1, vs1, d1, ds1, p1, q1, rfl, rfl, rfl, h1, r1⟩ := trodAll_cons r0
  obtain ⟨v2, vs2, d2, ds2, p2, q2, rfl, rfl, rfl, h2, r2⟩ := trodAll_cons r1
  obtain ⟨rfl, rfl, rfl⟩ := trodAll_nil r2
  obtain rfl : args = #[v0, v1, v2] := by cases args; simp_all
  obtain ⟨rfl, rfl⟩ := trodVars_none hV
  have lt0 : ∀ x ∈ p0, x.block < W.heap.size := by obtain ⟨m, hm⟩ := h0; exact DataW.trod_lt m _ _ _ hm
  have lt1 : ∀ x ∈ p1, x.block < W.heap.size := by obtain ⟨m, hm⟩ := h1; exact DataW.trod_lt m _ _ _ hm
  have lt2 : ∀ x ∈ p2, x.block < W.heap.size := by obtain ⟨m, hm⟩ := h2; exact DataW.trod_lt m _ _ _ hm
  have o0 := hval 0 27 v0 rfl rfl
  have o1 := hval 1 9 v1 rfl rfl
  have o2 := hval 2 2 v2 rfl rfl
  clear hA0 hval0 hval
  have hwalk : Calls Tryz.prog 3 #[v0, v1, v2] W fun e w' => e = .returned (.bool true) ∧ Below W.heap.size W w' := by
    clear hW' hfz hnd hcnd lt0 lt1 lt2
    obtain ⟨b, s, rfl, hbk, hft⟩ := arg_Book o0 h0
    obtain ⟨who, rfl, -, -, zw⟩ := open_string Tryz.underlying9 o1 h1
    obtain ⟨n, rfl, -, -, -⟩ := open_int Tryz.underlying2 o2 h2
    exact walk who zw n hbk hft
  refine hwalk.mono fun e W' ⟨he, bel⟩ => ?_
  subst he
  exact ⟨_, rfl, _, _, _, [], _, [], hW', trodAll_mk1 (shut_bool Tryz.underlying4 _), (trodAll_cons_mk (Below.trod laidOut (by kernel_rfl) (of_decide_eq_true (by kernel_rfl)) h0 bel lt0) (trodAll_cons_mk (Below.trod laidOut (by kernel_rfl) (of_decide_eq_true (by kernel_rfl)) h1 bel lt1) (trodAll_cons_mk (Below.trod laidOut (by kernel_rfl) (of_decide_eq_true (by kernel_rfl)) h2 bel lt2) trodAll_mk0))), rfl, bel.frame _, fun h => by cases h⟩

theorem over : Rows.fnExactDueInRow.holds Tryz.pinned (OpenSpec.ofChange Rows.fnExactDueInSpec) :=
  OpenClaim.holds_of_wide 3 Tryz.f3 rfl rfl rfl rfl rfl rfl rfl ⟨rfl, rfl, rfl, rfl, rfl⟩ rfl rfl rfl rfl rfl (by kernel_rfl) Tryz.func3 (by kernel_rfl)
    (of_decide_eq_true (by kernel_rfl)) (by unfold Func.isWrapper; first | (rw [if_pos (by decide +kernel)]; kernel_rfl) | (rw [if_neg (by decide +kernel)]; exact ⟨rfl, rfl⟩))
    (fun os started H enc _ => lifted os started H enc)

/-- THE STATEMENT -/
theorem proved : Rows.FnExactDueInSaid := over
#print axioms proved
end Go.Proofs.YtncandoohlndnaaGreat.fnExactDueIn
