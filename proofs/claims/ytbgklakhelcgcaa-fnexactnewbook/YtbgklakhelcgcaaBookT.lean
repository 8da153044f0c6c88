/-
  What chapter 7's BookOk, Total and WorthIn answer, the model's, at every book.
-/
import Derived.Test.YtbgklakhelcgcaaBookS
namespace Go.Proofs.Ytbgklakhelcgcaa
open Go.ChangeShapes Go.WideShapes Go.ChangeAt Go.RowKit

/-- All that is in it. -/
def totalV (b : Bok) : Int := sumP b.folk b.folk.length + sumM b.mills b.mills.length + sumA b.waits b.waits.length + b.burnt + b.pot
theorem total_bd {b : Bok} (h : listsB b = true) : (0 ≤ sumP b.folk b.folk.length ∧ sumP b.folk b.folk.length ≤ 8000000) ∧ (0 ≤ sumM b.mills b.mills.length ∧ sumM b.mills b.mills.length ≤ 4000000) ∧ (0 ≤ sumA b.waits b.waits.length ∧ sumA b.waits b.waits.length ≤ 20000000) ∧ (0 ≤ b.burnt ∧ b.burnt ≤ 1000000) ∧ (0 ≤ b.pot ∧ b.pot ≤ 1000000) := by
  obtain ⟨⟨h1, h2, h3, h4⟩, h5, h6, h7, h8⟩ := lists_all h
  obtain ⟨a1, a2, -⟩ := folk_true h1
  obtain ⟨m1, m2, -⟩ := mills_true h2
  obtain ⟨w1, w2⟩ := waits_true h4
  have q1 := sumP_bd a2 _ (Nat.le_refl _)
  have q2 := sumM_bd m2 _ (Nat.le_refl _)
  have q3 := sumA_bd w2 _ (Nat.le_refl _)
  have q4 := inB_bd h7
  have q5 := inB_bd h8
  omega

set_option maxHeartbeats 2000000 in
set_option maxRecDepth 100000 in
theorem l7Total_any {w : World} {b : Bok} {s : Spots} (h : BookAt w b s) (hf : listsB b = true) :
    Calls Try.prog 37 #[.agg #[.int .i64 b.season, .int .i64 b.supply, .int .i64 b.burnt, .int .i64 b.pot, .slice s.fa b.folk.length s.fc, .slice s.ma b.mills.length s.mc, .slice s.pa b.parts.length s.pc, .slice s.wa b.waits.length s.wc]] w fun e w' => e = .returned (.int .i64 (totalV b)) ∧ Below w.heap.size w w' := by
  obtain ⟨W, hW⟩ : ∃ W, w.alloc (.cells #[.int .i64 b.season, .int .i64 b.supply, .int .i64 b.burnt, .int .i64 b.pot, .slice s.fa b.folk.length s.fc, .slice s.ma b.mills.length s.mc, .slice s.pa b.parts.length s.pc, .slice s.wa b.waits.length s.wc] 29) = W := ⟨_, rfl⟩
  have X0 := Lib.hid (BoxB.new h 29)
  have B0 := Lib.hid (below_new w (.cells #[.int .i64 b.season, .int .i64 b.supply, .int .i64 b.burnt, .int .i64 b.pot, .slice s.fa b.folk.length s.fc, .slice s.ma b.mills.length s.mc, .slice s.pa b.parts.length s.pc, .slice s.wa b.waits.length s.wc] 29))
  rw [hW] at X0 B0
  have HF := Lib.hid (lists_all hf)
  obtain ⟨q1, q2, q3, q4, q5⟩ := total_bd hf
  have HT : Hid (totalV b = sumP b.folk b.folk.length + sumM b.mills b.mills.length + sumA b.waits b.waits.length + b.burnt + b.pot) := rfl
  obtain ⟨v1, e1⟩ : ∃ v, sumP b.folk b.folk.length = v := ⟨_, rfl⟩
  obtain ⟨v2, e2⟩ : ∃ v, sumM b.mills b.mills.length = v := ⟨_, rfl⟩
  obtain ⟨v3, e3⟩ : ∃ v, sumA b.waits b.waits.length = v := ⟨_, rfl⟩
  rw [e1] at q1
  rw [e2] at q2
  rw [e3] at q3
  rw [e1, e2, e3] at HT
  have E1 := Lib.hid e1
  have E2 := Lib.hid e2
  have E3 := Lib.hid e3
  clear h hf e1 e2 e3
  have g2 := Grow.cell X0.out.c2
  have g3 := Grow.cell X0.out.c3
  have g4 := Grow.cell X0.out.c4
  have g5 := Grow.cell X0.out.c5
  have g7 := Grow.cell X0.out.c7
  have s1 : IntKind.i64.wrap (v1 + v2) = v1 + v2 := IntWalk.i64_in _ (by omega)
  have s2 : IntKind.i64.wrap (v1 + v2 + v3) = v1 + v2 + v3 := IntWalk.i64_in _ (by omega)
  have s3 : IntKind.i64.wrap (v1 + v2 + v3 + b.burnt) = v1 + v2 + v3 + b.burnt := IntWalk.i64_in _ (by omega)
  have s4 : IntKind.i64.wrap (v1 + v2 + v3 + b.burnt + b.pot) = v1 + v2 + v3 + b.burnt + b.pot := IntWalk.i64_in _ (by omega)
  go_enter Try.func37, Try.ntmps37
  go_wp2
  refine wp_region_grow (by kernel_rfl) (by kernel_rfl) ?_
  repeat (go_big_quiet_step (first | (go_at_call 34; exact grow_same (int_is E1.out) (l3Free_any _ (X0.out.book.folk.below (Grow.ok _)) HF.out.1.1)) | (go_at_call 52; exact grow_same (int_is E2.out) (l4Stakes_any _ (X0.out.book.mills.below (Grow.ok _)) HF.out.1.2.1)) | (go_at_call 53; exact grow_same (int_is E3.out) (l6Amount_any _ (X0.out.book.waits.below (Grow.ok _)) HF.out.1.2.2.2))))
  refine wpQuiet_nil ?_
  intro _ hw'
  obtain ⟨gq, rfl⟩ := hw'
  have HB2 := Lib.hid (below_trans B0.out gq.ok)
  go_wp2
  go_ret
  exact ⟨by rw [HT.out]; rfl, HB2.out⟩

/-- Is it right? -/
noncomputable def bookB (b : Bok) : Bool := listsB b && (thereB b && (totalV b == b.supply))
theorem book_l {b : Bok} (h : listsB b = false) : bookB b = false := by simp [bookB, h]
theorem book_t {b : Bok} (h : thereB b = false) : bookB b = false := by simp [bookB, h]
theorem book_s {b : Bok} (h : (totalV b == b.supply) = false) : bookB b = false := by unfold bookB; rw [h]; simp
theorem book_yes {b : Bok} (h1 : listsB b = true) (h2 : thereB b = true) (h : (totalV b == b.supply) = true) : bookB b = true := by unfold bookB; rw [h1, h2, h]; rfl
theorem book_true {b : Bok} (h : bookB b = true) : listsB b = true ∧ thereB b = true ∧ totalV b = b.supply := by
  simpa [bookB] using h

set_option maxHeartbeats 4000000 in
set_option maxRecDepth 100000 in
theorem sBookOk_any {w : World} {b : Bok} {s : Spots} (h : BookAt w b s) (hl : BLen b) (hz : BSized b) :
    Calls Try.prog 16 #[.agg #[.int .i64 b.season, .int .i64 b.supply, .int .i64 b.burnt, .int .i64 b.pot, .slice s.fa b.folk.length s.fc, .slice s.ma b.mills.length s.mc, .slice s.pa b.parts.length s.pc, .slice s.wa b.waits.length s.wc]] w fun e w' => e = .returned (.bool (bookB b)) ∧ Below w.heap.size w w' := by
  obtain ⟨W, hW⟩ : ∃ W, w.alloc (.cells #[.int .i64 b.season, .int .i64 b.supply, .int .i64 b.burnt, .int .i64 b.pot, .slice s.fa b.folk.length s.fc, .slice s.ma b.mills.length s.mc, .slice s.pa b.parts.length s.pc, .slice s.wa b.waits.length s.wc] 29) = W := ⟨_, rfl⟩
  have X0 := Lib.hid (BoxB.new h 29)
  have B0 := Lib.hid (below_new w (.cells #[.int .i64 b.season, .int .i64 b.supply, .int .i64 b.burnt, .int .i64 b.pot, .slice s.fa b.folk.length s.fc, .slice s.ma b.mills.length s.mc, .slice s.pa b.parts.length s.pc, .slice s.wa b.waits.length s.wc] 29))
  rw [hW] at X0 B0
  have HL := Lib.hid hl
  have HZ := Lib.hid hz
  clear h hl hz
  have g0 := Grow.cell X0.out.c0
  have g1 := Grow.cell X0.out.c1
  have g2 := Grow.cell X0.out.c2
  have g3 := Grow.cell X0.out.c3
  have g4 := Grow.cell X0.out.c4
  have g5 := Grow.cell X0.out.c5
  have g6 := Grow.cell X0.out.c6
  have g7 := Grow.cell X0.out.c7
  cases h1 : listsB b
  · have HN := Lib.hid (book_l h1)
    go_enter Try.func16, Try.ntmps16
    go_wp2
    refine wp_region_grow (by kernel_rfl) (by kernel_rfl) ?_
    repeat (go_big_quiet_step (first | (go_at_call 35; exact grow_call (bool_is h1) (l7Lists_any (s := s) (X0.out.book.below (Grow.ok _)) HL.out HZ.out))))
    refine wpQuiet_nil ?_
    intro _ hw'
    obtain ⟨gq, rfl⟩ := hw'
    have HB2 := Lib.hid (below_trans B0.out gq.ok)
    go_wp2
    go_ret
    exact ⟨by rw [HN.out]; rfl, HB2.out⟩
  cases h2 : thereB b
  · have HN := Lib.hid (book_t h2)
    go_enter Try.func16, Try.ntmps16
    go_wp2
    refine wp_region_grow (by kernel_rfl) (by kernel_rfl) ?_
    repeat (go_big_quiet_step (first | (go_at_call 35; exact grow_call (bool_is h1) (l7Lists_any (s := s) (X0.out.book.below (Grow.ok _)) HL.out HZ.out)) | (go_at_call 36; exact grow_call (bool_is h2) (l7There_any (s := s) (X0.out.book.below (Grow.ok _)) HL.out HZ.out))))
    refine wpQuiet_nil ?_
    intro _ hw'
    obtain ⟨gq, rfl⟩ := hw'
    have HB2 := Lib.hid (below_trans B0.out gq.ok)
    go_wp2
    go_ret
    exact ⟨by rw [HN.out]; rfl, HB2.out⟩
  cases h3 : (totalV b == b.supply)
  · have HN := Lib.hid (book_s h3)
    go_enter Try.func16, Try.ntmps16
    go_wp2
    refine wp_region_grow (by kernel_rfl) (by kernel_rfl) ?_
    repeat (go_big_quiet_step (first | (go_at_call 35; exact grow_call (bool_is h1) (l7Lists_any (s := s) (X0.out.book.below (Grow.ok _)) HL.out HZ.out)) | (go_at_call 36; exact grow_call (bool_is h2) (l7There_any (s := s) (X0.out.book.below (Grow.ok _)) HL.out HZ.out)) | (go_at_call 37; exact grow_call rfl (l7Total_any (s := s) (X0.out.book.below (Grow.ok _)) h1))))
    refine wpQuiet_nil ?_
    intro _ hw'
    obtain ⟨gq, rfl⟩ := hw'
    have HB2 := Lib.hid (below_trans B0.out gq.ok)
    go_wp2
    go_ret
    exact ⟨by rw [HN.out]; rfl, HB2.out⟩
  · have HN := Lib.hid (book_yes h1 h2 h3)
    go_enter Try.func16, Try.ntmps16
    go_wp2
    refine wp_region_grow (by kernel_rfl) (by kernel_rfl) ?_
    repeat (go_big_quiet_step (first | (go_at_call 35; exact grow_call (bool_is h1) (l7Lists_any (s := s) (X0.out.book.below (Grow.ok _)) HL.out HZ.out)) | (go_at_call 36; exact grow_call (bool_is h2) (l7There_any (s := s) (X0.out.book.below (Grow.ok _)) HL.out HZ.out)) | (go_at_call 37; exact grow_call rfl (l7Total_any (s := s) (X0.out.book.below (Grow.ok _)) h1))))
    refine wpQuiet_nil ?_
    intro _ hw'
    obtain ⟨gq, rfl⟩ := hw'
    have HB2 := Lib.hid (below_trans B0.out gq.ok)
    go_wp2
    go_ret
    exact ⟨by rw [HN.out]; rfl, HB2.out⟩

/-- What is in it; -1 where its lists or numbers are not right. -/
noncomputable def totalOfV (b : Bok) : Int := if listsB b = true then totalV b else -1
theorem totalOf_no {b : Bok} (h : listsB b = false) : totalOfV b = -1 := by simp [totalOfV, h]
theorem totalOf_yes {b : Bok} (h : listsB b = true) : totalOfV b = totalV b := by simp [totalOfV, h]

end Go.Proofs.Ytbgklakhelcgcaa
