/-
  Of whatever is drawn, shares that are bought are worth no more than what they cost and make no share cheaper; SharesFor, MillOk and Cheaper answer as the model does: the law FnShares returns true at every slice of bytes, which reads as before. No condition.
-/
import Derived.Test.YtdpiepddafpceaaDraw4L
import Derived.Test.YtdpiepddafpceaaFacts4
import Derived.Test.YtdpiepddafpceaaMillI
import Derived.WalkKit
import Derived.ProofKit
import Derived.OpenShut
import Derived.ShutString
import Derived.ChangeOld
import Derived.Below
namespace Go.Proofs.Ytdpiepddafpceaa.fnShares
open Go.ChangeShapes Go.WideShapes Go.ChangeAt Go.RowKit
open Go.ChangeMaps (open_string shut_string)
set_option linter.unusedVariables false

theorem own : ownKnob Try.prog.godebug = none := by kernel_rfl
theorem laidOut : laidOutB Try.prog = true := by kernel_rfl

/-- WHAT THE WALK IS TOLD OF A SLICE OF INTEGERS THAT CAME IN: it is nil; or it leads to a row of 'cap' cells, the numbers 'zs' (the first 'len' are its elements, the rest its spare room), each fitting its kind. -/
def IsRow (k : IntKind) (w : World) (a : Option Addr) (len cap : Nat) (zs : List Int) : Prop :=
  (a = none ∧ len = 0 ∧ cap = 0 ∧ zs = []) ∨
  ∃ x, a = some x ∧ len ≤ cap ∧ cap ≤ maxLen ∧ zs.length = cap ∧ (∀ i, i < zs.length → w.cell? (x.add i) = some (.int k (zs.getD i 0))) ∧ ∀ n ∈ zs, (Lit.int k n).wf = true

set_option maxRecDepth 100000 in
theorem walk_big (a0 : Option Addr) (len0 cap0 : Nat) (w : World) (hbig : ¬ len0 ≤ 4096) :
    Calls Try.prog 3 #[.slice a0 len0 cap0] w fun e w' => e = .returned (.bool true) ∧ Below w.heap.size w w' := by
  go_enter Try.func3, Try.ntmps3
  go_wp2_with fail
  refine (big_yes _ _ _ _ hbig).mono ?_
  rintro e w' ⟨rfl, rfl⟩
  go_wp2
  go_ret
  exact ⟨rfl, Below.refl _ _⟩

theorem short {m : Mil} (h : MDrawn m) : m.name.size ≤ maxLen := by have := h.name; unfold maxLen; omega
theorem for_bd {m : Mil} {a : Int} (h : ¬ sharesForV m a < 0) : (0 ≤ m.stake ∧ m.stake ≤ 1000000) ∧ (1 ≤ a ∧ a ≤ 1000000) ∧ 0 ≤ m.shares ∧ m.shares + sharesForV m a ≤ 1000000000 := by
  have hb : (buyB m a && inB 0 1000000000 (m.shares + buyV m a)) = true := by
    cases hq : (buyB m a && inB 0 1000000000 (m.shares + buyV m a))
    · unfold sharesForV at h; rw [hq] at h; simp at h
    · rfl
  have hv : sharesForV m a = buyV m a := by unfold sharesForV; rw [if_pos hb]
  rw [hv]
  simp only [Bool.and_eq_true, buyB] at hb
  obtain ⟨⟨hm, hn, -⟩, ho⟩ := hb
  have hp := millB_parts hm
  have hn' := inB_true hn
  have ho' := inB_true ho
  omega

set_option maxRecDepth 100000 in
set_option maxHeartbeats 8000000 in
theorem walk_small (a0 : Option Addr) (len0 cap0 : Nat) (w : World) (hsrc : Src w a0 len0) :
    Calls Try.prog 3 #[.slice a0 len0 cap0] w fun e w' => e = .returned (.bool true) ∧ Below w.heap.size w w' := by
  have HSRC := Lib.hid hsrc
  clear hsrc
  go_enter Try.func3, Try.ntmps3
  go_wp2_with fail
  refine (big_any _ _ _ _ HSRC.out.small).mono ?_
  rintro e w' ⟨rfl, rfl⟩
  go_wp2_with fail
  refine (drawSharesFor_any HSRC.out).mono ?_
  rintro e w1 ⟨m, a, hm, ha, rfl, hb1⟩
  obtain ⟨ha1, ha2⟩ := ha
  have HM := Lib.hid hm
  have HSM := Lib.hid (short hm)
  have B1 := Lib.hid (below_trans hb1 (below_new w1 (.cells #[.string m.name, .int .i64 m.stake, .int .i64 m.shares, .int .i64 m.cut, .bool m.shut] 25)))
  have R1 := Lib.hid (show RecAt Mil.cs (w1.alloc (.cells #[.string m.name, .int .i64 m.stake, .int .i64 m.shares, .int .i64 m.cut, .bool m.shut] 25)) w1.heap.size m from RecAt.new Mil.cs w1 m 25)
  clear hm hb1
  go_wp2_with fail
  refine (iSharesFor_any m a _ HSM.out).mono ?_
  rintro e w2 ⟨rfl, hb2⟩
  have B2 := Lib.hid (below_trans B1.out hb2); have R2 := Lib.hid (R1.out.below hb2)
  clear hb2 B1 R1
  go_wp2_with fail
  refine (drawCheaper_any (HSRC.out.kept B2.out)).mono ?_
  rintro e w3 ⟨x, y, hx, hy, rfl, hb3⟩
  have HSX := Lib.hid (short hx)
  have HSY := Lib.hid (short hy)
  have bx := below_new w3 (.cells #[.string x.name, .int .i64 x.stake, .int .i64 x.shares, .int .i64 x.cut, .bool x.shut] 25)
  have by_ := below_new (w3.alloc (.cells #[.string x.name, .int .i64 x.stake, .int .i64 x.shares, .int .i64 x.cut, .bool x.shut] 25)) (.cells #[.string y.name, .int .i64 y.stake, .int .i64 y.shares, .int .i64 y.cut, .bool y.shut] 25)
  have B3 := Lib.hid (below_trans B2.out (below_trans hb3 (below_trans bx by_)))
  have R3 := Lib.hid (R2.out.below (below_trans hb3 (below_trans bx by_)))
  have X3 := Lib.hid ((show RecAt Mil.cs (w3.alloc (.cells #[.string x.name, .int .i64 x.stake, .int .i64 x.shares, .int .i64 x.cut, .bool x.shut] 25)) w3.heap.size x from RecAt.new Mil.cs w3 x 25).below by_)
  have Y3 := Lib.hid (show RecAt Mil.cs ((w3.alloc (.cells #[.string x.name, .int .i64 x.stake, .int .i64 x.shares, .int .i64 x.cut, .bool x.shut] 25)).alloc (.cells #[.string y.name, .int .i64 y.stake, .int .i64 y.shares, .int .i64 y.cut, .bool y.shut] 25)) (w3.heap.size + 1) y from by have := RecAt.new Mil.cs (w3.alloc (.cells #[.string x.name, .int .i64 x.stake, .int .i64 x.shares, .int .i64 x.cut, .bool x.shut] 25)) y 25; simpa [Mil.cs] using this)
  clear hx hy hb3 bx by_ B2 R2
  have m0 := Grow.cell (R3.out 0 _ rfl)
  have m1 := Grow.cell (R3.out 1 _ rfl)
  have m2 := Grow.cell (R3.out 2 _ rfl)
  have m3 := Grow.cell (R3.out 3 _ rfl)
  have m4 := Grow.cell (R3.out 4 _ rfl)
  have x0 := Grow.cell (X3.out 0 _ rfl)
  have x1 := Grow.cell (X3.out 1 _ rfl)
  have x2 := Grow.cell (X3.out 2 _ rfl)
  have x3 := Grow.cell (X3.out 3 _ rfl)
  have x4 := Grow.cell (X3.out 4 _ rfl)
  have y0 := Grow.cell (Y3.out 0 _ rfl)
  have y1 := Grow.cell (Y3.out 1 _ rfl)
  have y2 := Grow.cell (Y3.out 2 _ rfl)
  have y3 := Grow.cell (Y3.out 3 _ rfl)
  have y4 := Grow.cell (Y3.out 4 _ rfl)
  have hxx := cheap_self x
  have HRUN : Hid True := trivial
  cases hxy : cheapB x y
  · have hyx : cheapB y x = cheapB y x := rfl
    go_wp2
    refine wp_region_grow (by kernel_rfl) (by kernel_rfl) ?_
    repeat (go_big_quiet_step (first | (go_at_call 16; exact grow_call rfl (sSharesFor_any m a _ HSM.out)) | (go_at_call 17; exact grow_call rfl (iMillOk_any m _ HSM.out)) | (go_at_call 18; exact grow_call rfl (sMillOk_any m _ HSM.out)) | (go_at_call 20; exact grow_call (bool_is hxy) (sCheaper_any x y _ HSX.out HSY.out)) | (go_at_call 19; first | with_reducible exact grow_call (bool_is hxy) (iCheaper_any x y _ HSX.out HSY.out) | with_reducible exact grow_call (bool_is hyx) (iCheaper_any y x _ HSY.out HSX.out) | with_reducible exact grow_call (bool_is hxx) (iCheaper_any x x _ HSX.out HSX.out))))
    refine wpQuiet_nil ?_
    intro _ hw'
    obtain ⟨gq, rfl⟩ := hw'
    have B4 := Lib.hid (below_trans B3.out gq.ok); have R4 := Lib.hid (R3.out.below gq.ok)
    clear m0 m1 m2 m3 m4 x0 x1 x2 x3 x4 y0 y1 y2 y3 y4
    clear R3 X3 Y3 hxx
    by_cases hn : sharesForV m a < 0
    · have hq : (sharesForV m a == -1) = true := by rw [for_neg hn]; rfl
      go_wp2
      go_ret
      exact ⟨rfl, B4.out⟩
    · have hbd := for_bd hn
      obtain ⟨⟨p1, p2⟩, ⟨p3, p4⟩, p5, p6⟩ := hbd
      have c0 := R4.out 0 _ rfl
      have c1 := R4.out 1 _ rfl
      have c2 := R4.out 2 _ rfl
      have c3 := R4.out 3 _ rfl
      have c4 := R4.out 4 _ rfl
      have HX5 := Lib.hid (show RecAt Mil.cs (gq.to.alloc (.cells #[.string m.name, .int .i64 (m.stake + a), .int .i64 (m.shares + sharesForV m a), .int .i64 m.cut, .bool m.shut] 25)) gq.to.heap.size ⟨m.name, m.stake + a, m.shares + sharesForV m a, m.cut, m.shut⟩ from RecAt.new Mil.cs gq.to ⟨m.name, m.stake + a, m.shares + sharesForV m a, m.cut, m.shut⟩ 25)
      have bn := below_new gq.to (.cells #[.string m.name, .int .i64 (m.stake + a), .int .i64 (m.shares + sharesForV m a), .int .i64 m.cut, .bool m.shut] 25)
      have R5 := Lib.hid (R4.out.below bn)
      have B5 := Lib.hid (below_trans B4.out bn)
      clear bn
      have hlt := at_lt c0
      go_wp2_with fail
      refine (sMillOk_any ⟨m.name, m.stake + a, m.shares + sharesForV m a, m.cut, m.shut⟩ _ HSM.out).mono ?_
      rintro e w6 ⟨rfl, hb6⟩
      have HX6 := Lib.hid (HX5.out.below hb6); have R6 := Lib.hid (R5.out.below hb6); have B6 := Lib.hid (below_trans B5.out hb6)
      clear hb6 HX5 R5 B5 c0 c1 c2 c3 c4
      cases hx : millB ⟨m.name, m.stake + a, m.shares + sharesForV m a, m.cut, m.shut⟩
      · go_wp2
        go_ret
        exact ⟨rfl, B6.out⟩
      · by_cases h1 : sharesForV m a < 1
        · go_wp2
          go_ret
          exact ⟨rfl, B6.out⟩
        · have hfa := for_facts (by omega) hx (by omega)
          have HF := Lib.hid hfa.2
          have hle := hfa.1
          clear hfa
          have c0 := HX6.out 0 _ rfl
          have c1 := HX6.out 1 _ rfl
          have c2 := HX6.out 2 _ rfl
          have c3 := HX6.out 3 _ rfl
          have c4 := HX6.out 4 _ rfl
          go_wp2_with fail
          refine (iWorth_any ⟨m.name, m.stake + a, m.shares + sharesForV m a, m.cut, m.shut⟩ (sharesForV m a) _ HSM.out).mono ?_
          rintro e w7 ⟨rfl, hb7⟩
          have HX7 := Lib.hid (HX6.out.below hb7); have R7 := Lib.hid (R6.out.below hb7); have B7 := Lib.hid (below_trans B6.out hb7)
          clear hb7 HX6 R6 c0 c1 c2 c3 c4
          have c0 := HX7.out 0 _ rfl
          have c1 := HX7.out 1 _ rfl
          have c2 := HX7.out 2 _ rfl
          have c3 := HX7.out 3 _ rfl
          have c4 := HX7.out 4 _ rfl
          have d0 := R7.out 0 _ rfl
          have d1 := R7.out 1 _ rfl
          have d2 := R7.out 2 _ rfl
          have d3 := R7.out 3 _ rfl
          have d4 := R7.out 4 _ rfl
          go_wp2_with fail
          refine (iCheaper_any ⟨m.name, m.stake + a, m.shares + sharesForV m a, m.cut, m.shut⟩ m _ HSM.out HSM.out).mono ?_
          rw [HF.out]
          rintro e w8 ⟨rfl, hb8⟩
          have B8 := Lib.hid (below_trans B7.out hb8)
          clear hb8
          go_wp2
          go_ret
          exact ⟨rfl, B8.out⟩
  · have hyx := cheap_not hxy
    go_wp2
    refine wp_region_grow (by kernel_rfl) (by kernel_rfl) ?_
    repeat (go_big_quiet_step (first | (go_at_call 16; exact grow_call rfl (sSharesFor_any m a _ HSM.out)) | (go_at_call 17; exact grow_call rfl (iMillOk_any m _ HSM.out)) | (go_at_call 18; exact grow_call rfl (sMillOk_any m _ HSM.out)) | (go_at_call 20; exact grow_call (bool_is hxy) (sCheaper_any x y _ HSX.out HSY.out)) | (go_at_call 19; first | with_reducible exact grow_call (bool_is hxy) (iCheaper_any x y _ HSX.out HSY.out) | with_reducible exact grow_call (bool_is hyx) (iCheaper_any y x _ HSY.out HSX.out) | with_reducible exact grow_call (bool_is hxx) (iCheaper_any x x _ HSX.out HSX.out))))
    refine wpQuiet_nil ?_
    intro _ hw'
    obtain ⟨gq, rfl⟩ := hw'
    have B4 := Lib.hid (below_trans B3.out gq.ok); have R4 := Lib.hid (R3.out.below gq.ok)
    clear m0 m1 m2 m3 m4 x0 x1 x2 x3 x4 y0 y1 y2 y3 y4
    clear R3 X3 Y3 hxx
    by_cases hn : sharesForV m a < 0
    · have hq : (sharesForV m a == -1) = true := by rw [for_neg hn]; rfl
      go_wp2
      go_ret
      exact ⟨rfl, B4.out⟩
    · have hbd := for_bd hn
      obtain ⟨⟨p1, p2⟩, ⟨p3, p4⟩, p5, p6⟩ := hbd
      have c0 := R4.out 0 _ rfl
      have c1 := R4.out 1 _ rfl
      have c2 := R4.out 2 _ rfl
      have c3 := R4.out 3 _ rfl
      have c4 := R4.out 4 _ rfl
      have HX5 := Lib.hid (show RecAt Mil.cs (gq.to.alloc (.cells #[.string m.name, .int .i64 (m.stake + a), .int .i64 (m.shares + sharesForV m a), .int .i64 m.cut, .bool m.shut] 25)) gq.to.heap.size ⟨m.name, m.stake + a, m.shares + sharesForV m a, m.cut, m.shut⟩ from RecAt.new Mil.cs gq.to ⟨m.name, m.stake + a, m.shares + sharesForV m a, m.cut, m.shut⟩ 25)
      have bn := below_new gq.to (.cells #[.string m.name, .int .i64 (m.stake + a), .int .i64 (m.shares + sharesForV m a), .int .i64 m.cut, .bool m.shut] 25)
      have R5 := Lib.hid (R4.out.below bn)
      have B5 := Lib.hid (below_trans B4.out bn)
      clear bn
      have hlt := at_lt c0
      go_wp2_with fail
      refine (sMillOk_any ⟨m.name, m.stake + a, m.shares + sharesForV m a, m.cut, m.shut⟩ _ HSM.out).mono ?_
      rintro e w6 ⟨rfl, hb6⟩
      have HX6 := Lib.hid (HX5.out.below hb6); have R6 := Lib.hid (R5.out.below hb6); have B6 := Lib.hid (below_trans B5.out hb6)
      clear hb6 HX5 R5 B5 c0 c1 c2 c3 c4
      cases hx : millB ⟨m.name, m.stake + a, m.shares + sharesForV m a, m.cut, m.shut⟩
      · go_wp2
        go_ret
        exact ⟨rfl, B6.out⟩
      · by_cases h1 : sharesForV m a < 1
        · go_wp2
          go_ret
          exact ⟨rfl, B6.out⟩
        · have hfa := for_facts (by omega) hx (by omega)
          have HF := Lib.hid hfa.2
          have hle := hfa.1
          clear hfa
          have c0 := HX6.out 0 _ rfl
          have c1 := HX6.out 1 _ rfl
          have c2 := HX6.out 2 _ rfl
          have c3 := HX6.out 3 _ rfl
          have c4 := HX6.out 4 _ rfl
          go_wp2_with fail
          refine (iWorth_any ⟨m.name, m.stake + a, m.shares + sharesForV m a, m.cut, m.shut⟩ (sharesForV m a) _ HSM.out).mono ?_
          rintro e w7 ⟨rfl, hb7⟩
          have HX7 := Lib.hid (HX6.out.below hb7); have R7 := Lib.hid (R6.out.below hb7); have B7 := Lib.hid (below_trans B6.out hb7)
          clear hb7 HX6 R6 c0 c1 c2 c3 c4
          have c0 := HX7.out 0 _ rfl
          have c1 := HX7.out 1 _ rfl
          have c2 := HX7.out 2 _ rfl
          have c3 := HX7.out 3 _ rfl
          have c4 := HX7.out 4 _ rfl
          have d0 := R7.out 0 _ rfl
          have d1 := R7.out 1 _ rfl
          have d2 := R7.out 2 _ rfl
          have d3 := R7.out 3 _ rfl
          have d4 := R7.out 4 _ rfl
          go_wp2_with fail
          refine (iCheaper_any ⟨m.name, m.stake + a, m.shares + sharesForV m a, m.cut, m.shut⟩ m _ HSM.out HSM.out).mono ?_
          rw [HF.out]
          rintro e w8 ⟨rfl, hb8⟩
          have B8 := Lib.hid (below_trans B7.out hb8)
          clear hb8
          go_wp2
          go_ret
          exact ⟨rfl, B8.out⟩

/-! ### STEP 1: THE WALK: the Go text returns true, AND WRITES NOTHING THAT WAS THERE: 'Below w.heap.size w w'' (Derived/Below.lean: '.refl', '.alloc', '.drew', '.setCell' at a new block, '.trans'). Open each 'IsRow' by 'rcases' AHEAD of 'go_enter'; part every test ahead of the walk. -/
theorem walk (a0 : Option Addr) (len0 cap0 : Nat) (z0 : List Int) (w : World) (w0 : IsRow .u8 w a0 len0 cap0 z0) :
    Calls Try.prog 3 #[.slice a0 len0 cap0] w fun e w' => e = .returned (.bool true) ∧ Below w.heap.size w w' := by
  by_cases hbig : len0 ≤ 4096
  case neg => exact walk_big _ _ _ _ hbig
  refine walk_small _ _ _ _ ⟨fun k hk => ?_, hbig⟩
  rcases w0 with ⟨_, rfl, _, _⟩ | ⟨x, rfl, hl, _, hz, hc, hwf⟩
  · omega
  · obtain ⟨b, off, rfl, hc2⟩ := ints_at hc (by omega)
    have hk2 : k < z0.length := by omega
    have hw := hwf (z0.getD k 0) (by rw [List.getD_eq_getElem?_getD, List.getElem?_eq_getElem hk2, Option.getD_some]; exact List.getElem_mem hk2)
    have hb := bounds_u8 hw
    exact ⟨b, off, _, rfl, by omega, by omega, hc2 k hk2⟩

/-! ### THE ROW's STEP: WRITTEN OUT: LEAVE IT -/
set_option maxRecDepth 100000 in
theorem lifted (os : Os) (started : os.Started) (H : Type) (enc : TypeId × Value → H) :
    ReturnsInHanded {} Try.checked os 3 .any (Rows.fnSharesSpec.pre6 enc Try.prog Try.f3 Rows.fnSharesRow.domain false) (Rows.fnSharesSpec.post enc Try.prog Try.f3 false true false false) := by
  refine returnsInHanded_of_change (C := Try.checked) own started (by kernel_rfl) Try.func3
    (ChangeSpec.witness6 (enc := enc) (C := Try.checked) false ⟨#[], #[.slice none 0 0], []⟩ 8 (by kernel_rfl) (by kernel_rfl) (by kernel_rfl) (by kernel_rfl)) ?_
  intro W base args ds gs before hval0 hW hcnd _
  have hval : ∀ (j : Nat) t v, Try.f3.params[j]? = some t → args[j]? = some v → Value.okWide Try.prog W .any base t v := hval0
  have hW' := hW
  obtain ⟨p, q, hA0, hV, rfl, hfz, hnd⟩ := hW
  have hA : DataW.TrodAll enc Try.prog W 0 (fun _ => true) true Try.f3.params.toList args.toList ds p := hA0
  rw [Try.params3] at hA hval
  obtain ⟨v0, vs0, d0, ds0, p0, q0, hargs, rfl, rfl, h0, r0⟩ := trodAll_cons hA
  obtain ⟨rfl, rfl, rfl⟩ := trodAll_nil r0
  obtain rfl : args = #[v0] := by cases args; simp_all
  obtain ⟨rfl, rfl⟩ := trodVars_none hV
  obtain ⟨a0, len0, cap0, rfl⟩ := okWide_slice Try.underlying22 (hval 0 22 v0 rfl rfl)
  have k0 := h0
  have lt0 : ∀ x ∈ p0, x.block < W.heap.size := by obtain ⟨m, hm⟩ := k0; exact DataW.trod_lt m _ _ _ hm
  obtain ⟨z0, w0⟩ : ∃ zs, IsRow .u8 W a0 len0 cap0 zs := by
    obtain ⟨fuel, hf⟩ := h0
    rcases open_ints Try.underlying22 Try.underlying5 (by kernel_rfl) hf with ⟨hcs, _⟩ | ⟨x, l, c, zs, hcs, _, hl, hm, hz, _, hcell, hwz⟩
    · simp [Value.cells] at hcs
      obtain ⟨rfl, rfl, rfl⟩ := hcs
      exact ⟨[], .inl ⟨rfl, rfl, rfl, rfl⟩⟩
    · simp [Value.cells] at hcs
      obtain ⟨rfl, rfl, rfl⟩ := hcs
      exact ⟨zs, .inr ⟨_, rfl, hl, hm, by simpa using hz, hcell, hwz⟩⟩
  clear hA0 hval0
  refine (walk a0 len0 cap0 z0 W w0).mono fun e W' ⟨he, bel⟩ => ?_
  subst he
  exact ⟨_, rfl, _, _, _, [], _, [], hW', trodAll_mk1 (shut_bool Try.underlying4 _), (trodAll_cons_mk (Below.trod laidOut (by kernel_rfl) (of_decide_eq_true (by kernel_rfl)) k0 bel lt0) trodAll_mk0), rfl, bel.frame _, fun h => by cases h⟩

theorem over : Rows.fnSharesRow.holds Try.pinned (OpenSpec.ofChange Rows.fnSharesSpec) :=
  OpenClaim.holds_of_wide 3 Try.f3 rfl rfl rfl rfl rfl rfl rfl ⟨rfl, rfl, rfl, rfl, rfl⟩ rfl rfl rfl rfl rfl (by kernel_rfl) Try.func3 (by kernel_rfl)
    (of_decide_eq_true (by kernel_rfl)) (by unfold Func.isWrapper; first | (rw [if_pos (by decide +kernel)]; kernel_rfl) | (rw [if_neg (by decide +kernel)]; exact ⟨rfl, rfl⟩))
    (fun os started H enc _ => lifted os started H enc)

/-- ████ THE STATEMENT ████ -/
theorem proved : Rows.FnSharesSaid := over
#print axioms proved
end Go.Proofs.Ytdpiepddafpceaa.fnShares
