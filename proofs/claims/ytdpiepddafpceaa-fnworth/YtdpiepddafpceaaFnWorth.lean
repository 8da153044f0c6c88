/-
  Of whatever is drawn, all shares are worth the stake, parts of them no more than that together, and what is left is no cheaper when some are gone; Worth, MillIn, MillsOk and StakesIn answer as the model does: the law FnWorth returns true at every slice of bytes, which reads as before. No condition.
-/
import Derived.Test.YtdpiepddafpceaaDraw4L
import Derived.Test.YtdpiepddafpceaaFacts4
import Derived.Test.YtdpiepddafpceaaMillI
import Derived.WalkKit
import Derived.ProofKit
import Derived.OpenShut
import Derived.ShutString
import Derived.ChangeOld
import Derived.Below
namespace Go.Proofs.Ytdpiepddafpceaa.fnWorth
open Go.ChangeShapes Go.WideShapes Go.ChangeAt Go.RowKit
open Go.ChangeMaps (open_string shut_string)
set_option linter.unusedVariables false

theorem own : ownKnob Try.prog.godebug = none := by kernel_rfl
theorem laidOut : laidOutB Try.prog = true := by kernel_rfl

/-- WHAT THE WALK IS TOLD OF A SLICE OF INTEGERS THAT CAME IN: it is nil; or it leads to a row of 'cap' cells, the numbers 'zs' (the first 'len' are its elements, the rest its spare room), each fitting its kind. -/
def IsRow (k : IntKind) (w : World) (a : Option Addr) (len cap : Nat) (zs : List Int) : Prop :=
  (a = none ∧ len = 0 ∧ cap = 0 ∧ zs = []) ∨
  ∃ x, a = some x ∧ len ≤ cap ∧ cap ≤ maxLen ∧ zs.length = cap ∧ (∀ i, i < zs.length → w.cell? (x.add i) = some (.int k (zs.getD i 0))) ∧ ∀ n ∈ zs, (Lit.int k n).wf = true

set_option maxRecDepth 100000 in
theorem walk_big (a0 : Option Addr) (len0 cap0 : Nat) (w : World) (hbig : ¬ len0 ≤ 4096) :
    Calls Try.prog 4 #[.slice a0 len0 cap0] w fun e w' => e = .returned (.bool true) ∧ Below w.heap.size w w' := by
  go_enter Try.func4, Try.ntmps4
  go_wp2_with fail
  refine (big_yes _ _ _ _ hbig).mono ?_
  rintro e w' ⟨rfl, rfl⟩
  go_wp2
  go_ret
  exact ⟨rfl, Below.refl _ _⟩

theorem int_is {a b : Int} (h : a = b) : Value.int .i64 a = .int .i64 b := by rw [h]
theorem short {m : Mil} (h : MDrawn m) : m.name.size ≤ maxLen := by have := h.name; unfold maxLen; omega
theorem shorts {ms : List Mil} (h : ∀ m ∈ ms, MDrawn m) : Sized (mnames ms) :=
  Sized.of (n := 7) (fun s hs => by obtain ⟨p, hp, rfl⟩ := List.mem_map.1 hs; exact (h p hp).name) (by unfold maxLen; omega)
theorem in_name {ms : List Mil} {s : ByteArray} (h : millInB ms s = true) : ((millInV ms s).name.toList == s.toList) = true := by
  simp only [millInB, Bool.and_eq_true, decide_eq_true_eq] at h
  obtain ⟨k, e, hk, hq⟩ := place_hit h.2
  have hk' : k < ms.length := by rw [len_mn] at hk; exact hk
  rw [(millIn_in h.1 e hk').2]
  rw [mnames_at hk'] at hq
  exact hq

set_option maxRecDepth 100000 in
set_option maxHeartbeats 8000000 in
theorem walk_small (a0 : Option Addr) (len0 cap0 : Nat) (w : World) (hsrc : Src w a0 len0) :
    Calls Try.prog 4 #[.slice a0 len0 cap0] w fun e w' => e = .returned (.bool true) ∧ Below w.heap.size w w' := by
  have HSRC := Lib.hid hsrc
  clear hsrc
  go_enter Try.func4, Try.ntmps4
  go_wp2_with fail
  refine (big_any _ _ _ _ HSRC.out.small).mono ?_
  rintro e w' ⟨rfl, rfl⟩
  go_wp2_with fail
  refine (drawWorth_any HSRC.out).mono ?_
  rintro e w1 ⟨m, n, hm, ha, rfl, hb1⟩
  have HSM := Lib.hid (short hm)
  have B1 := Lib.hid (below_trans hb1 (below_new w1 (.cells #[.string m.name, .int .i64 m.stake, .int .i64 m.shares, .int .i64 m.cut, .bool m.shut] 25)))
  have R1 := Lib.hid (show RecAt Mil.cs (w1.alloc (.cells #[.string m.name, .int .i64 m.stake, .int .i64 m.shares, .int .i64 m.cut, .bool m.shut] 25)) w1.heap.size m from RecAt.new Mil.cs w1 m 25)
  clear hm hb1 ha
  go_wp2_with fail
  refine (iWorth_any m n _ HSM.out).mono ?_
  rintro e w2 ⟨rfl, hb2⟩
  have B2 := Lib.hid (below_trans B1.out hb2); have R2 := Lib.hid (R1.out.below hb2)
  clear hb2 B1 R1
  go_wp2_with fail
  refine (drawMillIn_any (HSRC.out.kept B2.out)).mono ?_
  rintro e w3 ⟨g, c, ms, s, rfl, hl3, hms, hr3, hb3⟩
  have HZ := Lib.hid (shorts hms)
  have L3 := Lib.hid hr3; have B3 := Lib.hid (below_trans B2.out hb3); have R3 := Lib.hid (R2.out.below hb3)
  clear hms hr3 hb3 B2 R2
  obtain ⟨x, HX⟩ : ∃ x, Hid (millInV ms s = x) := ⟨_, Lib.hid rfl⟩
  obtain ⟨b, HBB⟩ : ∃ b, Hid (millInB ms s = b) := ⟨_, Lib.hid rfl⟩
  have HNM : Hid (b = true → (x.name.toList == s.toList) = true) := by rw [← HX.out, ← HBB.out]; exact in_name
  go_wp2_with fail
  refine (iMillIn_any _ _ L3.out (by omega) HZ.out).mono ?_
  rw [HX.out, HBB.out]
  rintro e w4 ⟨rfl, hb4⟩
  have bx := below_new w4 (.cells #[.string x.name, .int .i64 x.stake, .int .i64 x.shares, .int .i64 x.cut, .bool x.shut] 25)
  have B4 := Lib.hid (below_trans B3.out (below_trans hb4 bx)); have R4 := Lib.hid (R3.out.below (below_trans hb4 bx)); have L4 := Lib.hid (L3.out.below (below_trans hb4 bx))
  have X4 := Lib.hid (show RecAt Mil.cs (w4.alloc (.cells #[.string x.name, .int .i64 x.stake, .int .i64 x.shares, .int .i64 x.cut, .bool x.shut] 25)) w4.heap.size x from RecAt.new Mil.cs w4 x 25)
  have hlt4 : w1.heap.size < w4.heap.size := at_lt ((R3.out.below hb4) 0 _ rfl)
  have m0 := (R3.out.below hb4) 0 _ rfl
  have m1 := (R3.out.below hb4) 1 _ rfl
  have m2 := (R3.out.below hb4) 2 _ rfl
  have m3 := (R3.out.below hb4) 3 _ rfl
  have m4 := (R3.out.below hb4) 4 _ rfl
  clear hb4 bx B3 R3 L3
  go_wp2_with fail
  refine (sWorth_any m n _ HSM.out).mono ?_
  rintro e w5 ⟨rfl, hb5⟩
  have B5 := Lib.hid (below_trans B4.out hb5); have R5 := Lib.hid (R4.out.below hb5); have L5 := Lib.hid (L4.out.below hb5); have X5 := Lib.hid (X4.out.below hb5)
  clear m0 m1 m2 m3 m4
  clear hb5 B4 R4 L4 X4
  go_wp2_with fail
  refine (iMillsOk_any _ L5.out (by omega) HZ.out).mono ?_
  rintro e w6 ⟨rfl, hb⟩
  have B6 := Lib.hid (below_trans B5.out hb); have R6 := Lib.hid (R5.out.below hb); have L6 := Lib.hid (L5.out.below hb); have X6 := Lib.hid (X5.out.below hb)
  clear hb B5 R5 L5 X5
  go_wp2_with fail
  refine (sMillsOk_any _ L6.out (by omega) HZ.out).mono ?_
  rintro e w7 ⟨rfl, hb⟩
  have B7 := Lib.hid (below_trans B6.out hb); have R7 := Lib.hid (R6.out.below hb); have L7 := Lib.hid (L6.out.below hb); have X7 := Lib.hid (X6.out.below hb)
  clear hb B6 R6 L6 X6
  go_wp2_with fail
  refine (iStakesIn_any _ L7.out (by omega) HZ.out).mono ?_
  rintro e w8 ⟨rfl, hb⟩
  have B8 := Lib.hid (below_trans B7.out hb); have R8 := Lib.hid (R7.out.below hb); have L8 := Lib.hid (L7.out.below hb); have X8 := Lib.hid (X7.out.below hb)
  clear hb B7 R7 L7 X7
  go_wp2_with fail
  refine (sStakesIn_any _ L8.out (by omega) HZ.out).mono ?_
  rintro e w9 ⟨rfl, hb⟩
  have B9 := Lib.hid (below_trans B8.out hb); have R9 := Lib.hid (R8.out.below hb); have L9 := Lib.hid (L8.out.below hb); have X9 := Lib.hid (X8.out.below hb)
  clear hb B8 R8 L8 X8
  go_wp2_with fail
  refine (sMillIn_any _ _ L9.out (by omega) HZ.out).mono ?_
  rw [HX.out, HBB.out]
  rintro e wa ⟨rfl, hb⟩
  have ba := below_new wa (.cells #[.string x.name, .int .i64 x.stake, .int .i64 x.shares, .int .i64 x.cut, .bool x.shut] 25)
  have Ba := Lib.hid (below_trans B9.out (below_trans hb ba)); have Ra := Lib.hid (R9.out.below (below_trans hb ba))
  have Rw := Lib.hid (R9.out.below hb)
  have xa := X9.out.below hb
  have x0 := xa 0 _ rfl
  have x1 := xa 1 _ rfl
  have x2 := xa 2 _ rfl
  have x3 := xa 3 _ rfl
  have x4 := xa 4 _ rfl
  have hlta := at_lt x0
  clear hb ba B9 R9 L9 X9 xa
  cases b
  · by_cases hn : worthV m n < 0
    · have hq2 : (worthV m n == -1) = true := by rw [worth_neg hn]; rfl
      go_wp2
      go_ret
      exact ⟨rfl, Ba.out⟩
    · obtain ⟨hm, h0, h1⟩ := worth_ok hn
      have hp := millB_parts hm
      obtain ⟨⟨p1, p2⟩, ⟨p3, p4⟩, -, -⟩ := hp
      obtain ⟨f1, f2, f3, f4, f5, f6⟩ := worth_facts hn
      have F3 := Lib.hid f3
      have F6 := Lib.hid (f6 m.name m.cut m.shut)
      clear f3 f6
      have m0 := Rw.out 0 _ rfl
      have m1 := Rw.out 1 _ rfl
      have m2 := Rw.out 2 _ rfl
      have m3 := Rw.out 3 _ rfl
      have m4 := Rw.out 4 _ rfl
      have hltm := at_lt m0
      have hltn : w1.heap.size < wa.heap.size + 1 := by omega
      have bn := below_new (wa.alloc (.cells #[.string x.name, .int .i64 x.stake, .int .i64 x.shares, .int .i64 x.cut, .bool x.shut] 25)) (.cells #[.string m.name, .int .i64 (m.stake - worthV m n), .int .i64 (m.shares - n), .int .i64 m.cut, .bool m.shut] 25)
      have Bb := Lib.hid (below_trans Ba.out bn); have Rb := Lib.hid (Ra.out.below bn)
      have Yb := Lib.hid (show RecAt Mil.cs ((wa.alloc (.cells #[.string x.name, .int .i64 x.stake, .int .i64 x.shares, .int .i64 x.cut, .bool x.shut] 25)).alloc (.cells #[.string m.name, .int .i64 (m.stake - worthV m n), .int .i64 (m.shares - n), .int .i64 m.cut, .bool m.shut] 25)) (wa.heap.size + 1) ⟨m.name, m.stake - worthV m n, m.shares - n, m.cut, m.shut⟩ from by have := RecAt.new Mil.cs (wa.alloc (.cells #[.string x.name, .int .i64 x.stake, .int .i64 x.shares, .int .i64 x.cut, .bool x.shut] 25)) ⟨m.name, m.stake - worthV m n, m.shares - n, m.cut, m.shut⟩ 25; simpa [Mil.cs] using this)
      clear bn
      go_wp2_with fail
      refine (sMillOk_any ⟨m.name, m.stake - worthV m n, m.shares - n, m.cut, m.shut⟩ _ HSM.out).mono ?_
      rintro e wc ⟨rfl, hb⟩
      have Bc := Lib.hid (below_trans Bb.out hb); have Rc := Lib.hid (Rb.out.below hb); have Yc := Lib.hid (Yb.out.below hb)
      clear hb Bb Rb Yb Ba Ra m0 m1 m2 m3 m4 x0 x1 x2 x3 x4 hltm hltn hlta Rw
      cases hy : millB ⟨m.name, m.stake - worthV m n, m.shares - n, m.cut, m.shut⟩
      · have g0 := Grow.cell (Rc.out 0 _ rfl)
        have g1 := Grow.cell (Rc.out 1 _ rfl)
        have g2 := Grow.cell (Rc.out 2 _ rfl)
        have g3 := Grow.cell (Rc.out 3 _ rfl)
        have g4 := Grow.cell (Rc.out 4 _ rfl)
        have hle : decide (worthV m n + worthV m (m.shares - n) ≤ m.stake) = true := by simpa using f4
        have hge : decide (0 ≤ worthV m n) = true := by simpa using f1
        have hw1 : IntKind.i64.wrap (m.shares - n) = m.shares - n := IntWalk.i64_in _ (by omega)
        have hw2 : IntKind.i64.wrap (worthV m n + worthV m (m.shares - n)) = worthV m n + worthV m (m.shares - n) := IntWalk.i64_in _ (by omega)
        go_wp2
        refine wp_region_grow (by kernel_rfl) (by kernel_rfl) ?_
        repeat (go_big_quiet_step ((go_at_call 21; first | with_reducible exact grow_call rfl (iWorth_any m (m.shares - n) _ HSM.out) | with_reducible exact grow_call (int_is F3.out) (iWorth_any m m.shares _ HSM.out))))
        refine wpQuiet_nil ?_
        intro _ hw'
        obtain ⟨gq, rfl⟩ := hw'
        have Bz := Lib.hid (below_trans Bc.out gq.ok)
        clear hw1 hw2 g0 g1 g2 g3 g4
        go_wp2
        go_ret
        exact ⟨rfl, Bz.out⟩
      · have y0 := Yc.out 0 _ rfl
        have y1 := Yc.out 1 _ rfl
        have y2 := Yc.out 2 _ rfl
        have y3 := Yc.out 3 _ rfl
        have y4 := Yc.out 4 _ rfl
        have m0 := Rc.out 0 _ rfl
        have m1 := Rc.out 1 _ rfl
        have m2 := Rc.out 2 _ rfl
        have m3 := Rc.out 3 _ rfl
        have m4 := Rc.out 4 _ rfl
        go_wp2_with fail
        refine (iCheaper_any ⟨m.name, m.stake - worthV m n, m.shares - n, m.cut, m.shut⟩ m _ HSM.out HSM.out).mono ?_
        rw [F6.out]
        rintro e wd ⟨rfl, hb⟩
        have Bd := Lib.hid (below_trans Bc.out hb); have Rd := Lib.hid (Rc.out.below hb)
        clear hb y0 y1 y2 y3 y4 m0 m1 m2 m3 m4 Yc
        have g0 := Grow.cell (Rd.out 0 _ rfl)
        have g1 := Grow.cell (Rd.out 1 _ rfl)
        have g2 := Grow.cell (Rd.out 2 _ rfl)
        have g3 := Grow.cell (Rd.out 3 _ rfl)
        have g4 := Grow.cell (Rd.out 4 _ rfl)
        have hle : decide (worthV m n + worthV m (m.shares - n) ≤ m.stake) = true := by simpa using f4
        have hge : decide (0 ≤ worthV m n) = true := by simpa using f1
        have hw1 : IntKind.i64.wrap (m.shares - n) = m.shares - n := IntWalk.i64_in _ (by omega)
        have hw2 : IntKind.i64.wrap (worthV m n + worthV m (m.shares - n)) = worthV m n + worthV m (m.shares - n) := IntWalk.i64_in _ (by omega)
        go_wp2
        refine wp_region_grow (by kernel_rfl) (by kernel_rfl) ?_
        repeat (go_big_quiet_step ((go_at_call 21; first | with_reducible exact grow_call rfl (iWorth_any m (m.shares - n) _ HSM.out) | with_reducible exact grow_call (int_is F3.out) (iWorth_any m m.shares _ HSM.out))))
        refine wpQuiet_nil ?_
        intro _ hw'
        obtain ⟨gq, rfl⟩ := hw'
        have Bz := Lib.hid (below_trans Bd.out gq.ok)
        clear hw1 hw2 g0 g1 g2 g3 g4
        go_wp2
        go_ret
        exact ⟨rfl, Bz.out⟩
  · have hq := HNM.out rfl
    by_cases hn : worthV m n < 0
    · have hq2 : (worthV m n == -1) = true := by rw [worth_neg hn]; rfl
      go_wp2
      go_ret
      exact ⟨rfl, Ba.out⟩
    · obtain ⟨hm, h0, h1⟩ := worth_ok hn
      have hp := millB_parts hm
      obtain ⟨⟨p1, p2⟩, ⟨p3, p4⟩, -, -⟩ := hp
      obtain ⟨f1, f2, f3, f4, f5, f6⟩ := worth_facts hn
      have F3 := Lib.hid f3
      have F6 := Lib.hid (f6 m.name m.cut m.shut)
      clear f3 f6
      have m0 := Rw.out 0 _ rfl
      have m1 := Rw.out 1 _ rfl
      have m2 := Rw.out 2 _ rfl
      have m3 := Rw.out 3 _ rfl
      have m4 := Rw.out 4 _ rfl
      have hltm := at_lt m0
      have hltn : w1.heap.size < wa.heap.size + 1 := by omega
      have bn := below_new (wa.alloc (.cells #[.string x.name, .int .i64 x.stake, .int .i64 x.shares, .int .i64 x.cut, .bool x.shut] 25)) (.cells #[.string m.name, .int .i64 (m.stake - worthV m n), .int .i64 (m.shares - n), .int .i64 m.cut, .bool m.shut] 25)
      have Bb := Lib.hid (below_trans Ba.out bn); have Rb := Lib.hid (Ra.out.below bn)
      have Yb := Lib.hid (show RecAt Mil.cs ((wa.alloc (.cells #[.string x.name, .int .i64 x.stake, .int .i64 x.shares, .int .i64 x.cut, .bool x.shut] 25)).alloc (.cells #[.string m.name, .int .i64 (m.stake - worthV m n), .int .i64 (m.shares - n), .int .i64 m.cut, .bool m.shut] 25)) (wa.heap.size + 1) ⟨m.name, m.stake - worthV m n, m.shares - n, m.cut, m.shut⟩ from by have := RecAt.new Mil.cs (wa.alloc (.cells #[.string x.name, .int .i64 x.stake, .int .i64 x.shares, .int .i64 x.cut, .bool x.shut] 25)) ⟨m.name, m.stake - worthV m n, m.shares - n, m.cut, m.shut⟩ 25; simpa [Mil.cs] using this)
      clear bn
      go_wp2_with fail
      refine (sMillOk_any ⟨m.name, m.stake - worthV m n, m.shares - n, m.cut, m.shut⟩ _ HSM.out).mono ?_
      rintro e wc ⟨rfl, hb⟩
      have Bc := Lib.hid (below_trans Bb.out hb); have Rc := Lib.hid (Rb.out.below hb); have Yc := Lib.hid (Yb.out.below hb)
      clear hb Bb Rb Yb Ba Ra m0 m1 m2 m3 m4 x0 x1 x2 x3 x4 hltm hltn hlta Rw
      cases hy : millB ⟨m.name, m.stake - worthV m n, m.shares - n, m.cut, m.shut⟩
      · have g0 := Grow.cell (Rc.out 0 _ rfl)
        have g1 := Grow.cell (Rc.out 1 _ rfl)
        have g2 := Grow.cell (Rc.out 2 _ rfl)
        have g3 := Grow.cell (Rc.out 3 _ rfl)
        have g4 := Grow.cell (Rc.out 4 _ rfl)
        have hle : decide (worthV m n + worthV m (m.shares - n) ≤ m.stake) = true := by simpa using f4
        have hge : decide (0 ≤ worthV m n) = true := by simpa using f1
        have hw1 : IntKind.i64.wrap (m.shares - n) = m.shares - n := IntWalk.i64_in _ (by omega)
        have hw2 : IntKind.i64.wrap (worthV m n + worthV m (m.shares - n)) = worthV m n + worthV m (m.shares - n) := IntWalk.i64_in _ (by omega)
        go_wp2
        refine wp_region_grow (by kernel_rfl) (by kernel_rfl) ?_
        repeat (go_big_quiet_step ((go_at_call 21; first | with_reducible exact grow_call rfl (iWorth_any m (m.shares - n) _ HSM.out) | with_reducible exact grow_call (int_is F3.out) (iWorth_any m m.shares _ HSM.out))))
        refine wpQuiet_nil ?_
        intro _ hw'
        obtain ⟨gq, rfl⟩ := hw'
        have Bz := Lib.hid (below_trans Bc.out gq.ok)
        clear hw1 hw2 g0 g1 g2 g3 g4
        go_wp2
        go_ret
        exact ⟨rfl, Bz.out⟩
      · have y0 := Yc.out 0 _ rfl
        have y1 := Yc.out 1 _ rfl
        have y2 := Yc.out 2 _ rfl
        have y3 := Yc.out 3 _ rfl
        have y4 := Yc.out 4 _ rfl
        have m0 := Rc.out 0 _ rfl
        have m1 := Rc.out 1 _ rfl
        have m2 := Rc.out 2 _ rfl
        have m3 := Rc.out 3 _ rfl
        have m4 := Rc.out 4 _ rfl
        go_wp2_with fail
        refine (iCheaper_any ⟨m.name, m.stake - worthV m n, m.shares - n, m.cut, m.shut⟩ m _ HSM.out HSM.out).mono ?_
        rw [F6.out]
        rintro e wd ⟨rfl, hb⟩
        have Bd := Lib.hid (below_trans Bc.out hb); have Rd := Lib.hid (Rc.out.below hb)
        clear hb y0 y1 y2 y3 y4 m0 m1 m2 m3 m4 Yc
        have g0 := Grow.cell (Rd.out 0 _ rfl)
        have g1 := Grow.cell (Rd.out 1 _ rfl)
        have g2 := Grow.cell (Rd.out 2 _ rfl)
        have g3 := Grow.cell (Rd.out 3 _ rfl)
        have g4 := Grow.cell (Rd.out 4 _ rfl)
        have hle : decide (worthV m n + worthV m (m.shares - n) ≤ m.stake) = true := by simpa using f4
        have hge : decide (0 ≤ worthV m n) = true := by simpa using f1
        have hw1 : IntKind.i64.wrap (m.shares - n) = m.shares - n := IntWalk.i64_in _ (by omega)
        have hw2 : IntKind.i64.wrap (worthV m n + worthV m (m.shares - n)) = worthV m n + worthV m (m.shares - n) := IntWalk.i64_in _ (by omega)
        go_wp2
        refine wp_region_grow (by kernel_rfl) (by kernel_rfl) ?_
        repeat (go_big_quiet_step ((go_at_call 21; first | with_reducible exact grow_call rfl (iWorth_any m (m.shares - n) _ HSM.out) | with_reducible exact grow_call (int_is F3.out) (iWorth_any m m.shares _ HSM.out))))
        refine wpQuiet_nil ?_
        intro _ hw'
        obtain ⟨gq, rfl⟩ := hw'
        have Bz := Lib.hid (below_trans Bd.out gq.ok)
        clear hw1 hw2 g0 g1 g2 g3 g4
        go_wp2
        go_ret
        exact ⟨rfl, Bz.out⟩

/-! ### STEP 1: THE WALK: the Go text returns true, AND WRITES NOTHING THAT WAS THERE: 'Below w.heap.size w w'' (Derived/Below.lean: '.refl', '.alloc', '.drew', '.setCell' at a new block, '.trans'). Open each 'IsRow' by 'rcases' AHEAD of 'go_enter'; part every test ahead of the walk. -/
theorem walk (a0 : Option Addr) (len0 cap0 : Nat) (z0 : List Int) (w : World) (w0 : IsRow .u8 w a0 len0 cap0 z0) :
    Calls Try.prog 4 #[.slice a0 len0 cap0] w fun e w' => e = .returned (.bool true) ∧ Below w.heap.size w w' := by
  by_cases hbig : len0 ≤ 4096
  case neg => exact walk_big _ _ _ _ hbig
  refine walk_small _ _ _ _ ⟨fun k hk => ?_, hbig⟩
  rcases w0 with ⟨_, rfl, _, _⟩ | ⟨x, rfl, hl, _, hz, hc, hwf⟩
  · omega
  · obtain ⟨b, off, rfl, hc2⟩ := ints_at hc (by omega)
    have hk2 : k < z0.length := by omega
    have hw := hwf (z0.getD k 0) (by rw [List.getD_eq_getElem?_getD, List.getElem?_eq_getElem hk2, Option.getD_some]; exact List.getElem_mem hk2)
    have hb := bounds_u8 hw
    exact ⟨b, off, _, rfl, by omega, by omega, hc2 k hk2⟩

/-! ### THE ROW's STEP: WRITTEN OUT: LEAVE IT -/
set_option maxRecDepth 100000 in
theorem lifted (os : Os) (started : os.Started) (H : Type) (enc : TypeId × Value → H) :
    ReturnsInHanded {} Try.checked os 4 .any (Rows.fnWorthSpec.pre6 enc Try.prog Try.f4 Rows.fnWorthRow.domain false) (Rows.fnWorthSpec.post enc Try.prog Try.f4 false true false false) := by
  refine returnsInHanded_of_change (C := Try.checked) own started (by kernel_rfl) Try.func4
    (ChangeSpec.witness6 (enc := enc) (C := Try.checked) false ⟨#[], #[.slice none 0 0], []⟩ 8 (by kernel_rfl) (by kernel_rfl) (by kernel_rfl) (by kernel_rfl)) ?_
  intro W base args ds gs before hval0 hW hcnd _
  have hval : ∀ (j : Nat) t v, Try.f4.params[j]? = some t → args[j]? = some v → Value.okWide Try.prog W .any base t v := hval0
  have hW' := hW
  obtain ⟨p, q, hA0, hV, rfl, hfz, hnd⟩ := hW
  have hA : DataW.TrodAll enc Try.prog W 0 (fun _ => true) true Try.f4.params.toList args.toList ds p := hA0
  rw [Try.params4] at hA hval
  obtain ⟨v0, vs0, d0, ds0, p0, q0, hargs, rfl, rfl, h0, r0⟩ := trodAll_cons hA
  obtain ⟨rfl, rfl, rfl⟩ := trodAll_nil r0
  obtain rfl : args = #[v0] := by cases args; simp_all
  obtain ⟨rfl, rfl⟩ := trodVars_none hV
  obtain ⟨a0, len0, cap0, rfl⟩ := okWide_slice Try.underlying22 (hval 0 22 v0 rfl rfl)
  have k0 := h0
  have lt0 : ∀ x ∈ p0, x.block < W.heap.size := by obtain ⟨m, hm⟩ := k0; exact DataW.trod_lt m _ _ _ hm
  obtain ⟨z0, w0⟩ : ∃ zs, IsRow .u8 W a0 len0 cap0 zs := by
    obtain ⟨fuel, hf⟩ := h0
    rcases open_ints Try.underlying22 Try.underlying5 (by kernel_rfl) hf with ⟨hcs, _⟩ | ⟨x, l, c, zs, hcs, _, hl, hm, hz, _, hcell, hwz⟩
    · simp [Value.cells] at hcs
      obtain ⟨rfl, rfl, rfl⟩ := hcs
      exact ⟨[], .inl ⟨rfl, rfl, rfl, rfl⟩⟩
    · simp [Value.cells] at hcs
      obtain ⟨rfl, rfl, rfl⟩ := hcs
      exact ⟨zs, .inr ⟨_, rfl, hl, hm, by simpa using hz, hcell, hwz⟩⟩
  clear hA0 hval0
  refine (walk a0 len0 cap0 z0 W w0).mono fun e W' ⟨he, bel⟩ => ?_
  subst he
  exact ⟨_, rfl, _, _, _, [], _, [], hW', trodAll_mk1 (shut_bool Try.underlying4 _), (trodAll_cons_mk (Below.trod laidOut (by kernel_rfl) (of_decide_eq_true (by kernel_rfl)) k0 bel lt0) trodAll_mk0), rfl, bel.frame _, fun h => by cases h⟩

theorem over : Rows.fnWorthRow.holds Try.pinned (OpenSpec.ofChange Rows.fnWorthSpec) :=
  OpenClaim.holds_of_wide 4 Try.f4 rfl rfl rfl rfl rfl rfl rfl ⟨rfl, rfl, rfl, rfl, rfl⟩ rfl rfl rfl rfl rfl (by kernel_rfl) Try.func4 (by kernel_rfl)
    (of_decide_eq_true (by kernel_rfl)) (by unfold Func.isWrapper; first | (rw [if_pos (by decide +kernel)]; kernel_rfl) | (rw [if_neg (by decide +kernel)]; exact ⟨rfl, rfl⟩))
    (fun os started H enc _ => lifted os started H enc)

/-- ████ THE STATEMENT ████ -/
theorem proved : Rows.FnWorthSaid := over
#print axioms proved
end Go.Proofs.Ytdpiepddafpceaa.fnWorth
