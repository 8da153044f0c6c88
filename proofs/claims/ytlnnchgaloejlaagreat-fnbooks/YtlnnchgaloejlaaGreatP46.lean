/-
  Texts joined: BookK, BookX.
-/
import Derived.Test.YtlnnchgaloejlaaGreatP45
namespace Go.Proofs.YtlnnchgaloejlaaGreat
open Go.ChangeShapes Go.WideShapes Go.ChangeAt Go.RowKit

set_option maxHeartbeats 8000000 in
set_option maxRecDepth 100000 in
theorem iAllHeld_any {w : World} {b : Bok} {s : Spots} (h : BookAt w b s) (hl : BLen b) (hz : BSized b) :
    Calls Tryz.prog 31 #[.agg #[.slice s.fa b.folk.length s.fc, .slice s.ma b.mills.length s.mc, .slice s.pa b.parts.length s.pc, .slice s.wa b.waits.length s.wc]] w fun e w' => e = .returned (.bool (heldB b)) ∧ Below w.heap.size w w' := by
  obtain ⟨W, hW⟩ : ∃ W, w.alloc (.cells #[.slice s.fa b.folk.length s.fc, .slice s.ma b.mills.length s.mc, .slice s.pa b.parts.length s.pc, .slice s.wa b.waits.length s.wc] 60) = W := ⟨_, rfl⟩
  have X0 := Lib.hid (BoxL.new h 60)
  have B0 := Lib.hid (below_new w (.cells #[.slice s.fa b.folk.length s.fc, .slice s.ma b.mills.length s.mc, .slice s.pa b.parts.length s.pc, .slice s.wa b.waits.length s.wc] 60))
  rw [hW] at X0 B0
  have HL := Lib.hid hl
  have HZ := Lib.hid hz
  have l2 := hl.ml
  have l3 := hl.pl
  clear h hl hz
  have c1 := X0.out.c1
  cases s with | mk fa fc ma mc pa pc wa wc =>
  dsimp only at c1 hW ⊢
  go_enter Tryz.func31, Tryz.ntmps31
  go_wp2
  clear c1
  go_loopw [8] (fun i w' => ∃ k : Nat, k ≤ b.mills.length ∧ i = .int .i64 k ∧ Below W.heap.size W w' ∧ HeldM b k) (fun i _ => b.mills.length - (intOf i).toNat)
  case atStart => exact ⟨0, Nat.zero_le _, rfl, Below.refl _ _, HeldM.zero _⟩
  case round =>
    obtain ⟨k, hk, rfl, hb, hu⟩ := hrel
    have X := Lib.hid (X0.out.below hb)
    have BB := Lib.hid (below_trans B0.out hb)
    have HB := Lib.hid hb
    have HU := Lib.hid hu
    clear hb hu
    by_cases hlt : k < b.mills.length
    · obtain ⟨p, off, ep, hlb, d0, d1, d2, d3, d4⟩ := Mil.at X.out.book.mills k hlt
      dsimp only at ep
      subst ep
      obtain ⟨V, hV⟩ : ∃ V, wr.alloc (.cells #[.string b.mills[k].name, .int .i64 b.mills[k].stake, .int .i64 b.mills[k].shares, .int .i64 b.mills[k].cut, .bool b.mills[k].shut] 54) = V := ⟨_, rfl⟩
      have BV := Lib.hid (below_new wr (.cells #[.string b.mills[k].name, .int .i64 b.mills[k].stake, .int .i64 b.mills[k].shares, .int .i64 b.mills[k].cut, .bool b.mills[k].shut] 54))
      have RV := Lib.hid (RecAt.new Mil.cs wr b.mills[k] 54)
      rw [hV] at BV
      rw [show wr.alloc (.cells (b.mills[k].cs).toArray 54) = V from hV] at RV
      have XV := Lib.hid (X.out.below BV.out)
      have HBV := Lib.hid (below_trans HB.out BV.out)
      have BBV := Lib.hid (below_trans BB.out BV.out)
      have g0 := Grow.cell (RV.out 0 _ rfl)
      have g2 := Grow.cell (RV.out 2 _ rfl)
      have x2 := XV.out.c2
      dsimp only at x2
      have e2 := Grow.cell x2
      clear hlb x2
      obtain ⟨v, hv⟩ : ∃ q, sharesInV b.parts b.mills[k].name = q := ⟨_, rfl⟩
      by_cases n1 : b.mills[k].shares = v
      · have HN := Lib.hid (HU.out.succ hlt (hv.trans n1.symm))
        have hd1 : (b.mills[k].shares != v) = false := by simp [n1]
        have HV := Lib.hid hv
        clear hv n1
        go_wp2
        refine wp_region_grow (by kernel_rfl) (by kernel_rfl) ?_
        repeat (go_big_quiet_step (first | (go_at_call 62; exact grow_call (int_is HV.out) (iSharesInM_any _ _ (XV.out.book.parts.below (Grow.ok _)) (by omega) HZ.out.ps))))
        refine wpQuiet_nil ?_
        intro _ hw'
        obtain ⟨gq, rfl⟩ := hw'
        have HB2 := Lib.hid (below_trans HBV.out gq.ok)
        go_wp2
        go_roundw
        case rel => exact ⟨k + 1, by omega, by go_num, HB2.out, HN.out⟩
        case measure => simp [intOf]; omega
      · have HN := Lib.hid (heldM_no hlt (fun e => n1 (e.symm.trans hv)))
        have hd1 : (b.mills[k].shares != v) = true := by simpa using n1
        have HV := Lib.hid hv
        clear hv
        go_wp2
        refine wp_region_grow (by kernel_rfl) (by kernel_rfl) ?_
        repeat (go_big_quiet_step (first | (go_at_call 62; exact grow_call (int_is HV.out) (iSharesInM_any _ _ (XV.out.book.parts.below (Grow.ok _)) (by omega) HZ.out.ps))))
        refine wpQuiet_nil ?_
        intro _ hw'
        obtain ⟨gq, rfl⟩ := hw'
        have HB2 := Lib.hid (below_trans BBV.out gq.ok)
        go_wp2
        go_ret
        exact ⟨by rw [HN.out]; rfl, HB2.out⟩
    obtain rfl : k = b.mills.length := by omega
    have HN := Lib.hid (heldM_yes HU.out)
    go_wp2
    go_ret
    exact ⟨by rw [HN.out]; rfl, BB.out⟩

theorem lists_range {b : Bok} (h : rangeB b = false) : listsB b = false := by simp [listsB, h]
theorem lists_rights {b : Bok} (h : rightsB b = false) : listsB b = false := by simp [listsB, h]
theorem lists_both {b : Bok} (h : rightsB b = true) (h2 : rangeB b = true) : listsB b = true := by simp [listsB, h, h2]
theorem rights_all {b : Bok} (h : listsB b = true) : freeInV b.folk = sumP b.folk b.folk.length ∧ stakesV b.mills = sumM b.mills b.mills.length ∧ amountInV b.waits = sumA b.waits b.waits.length := by
  obtain ⟨⟨h1, h2, h3, h4⟩, -⟩ := lists_all h
  exact ⟨by simp [freeInV, h1], by simp [stakesV, h2], by simp [amountInV, h4]⟩

set_option maxHeartbeats 8000000 in
set_option maxRecDepth 100000 in
theorem iTotal_any {w : World} {b : Bok} {s : Spots} (h : BookAt w b s) (hl : BLen b) (hz : BSized b) :
    Calls Tryz.prog 12 #[.agg #[.int .i64 b.season, .int .i64 b.supply, .int .i64 b.burnt, .int .i64 b.pot, .slice s.fa b.folk.length s.fc, .slice s.ma b.mills.length s.mc, .slice s.pa b.parts.length s.pc, .slice s.wa b.waits.length s.wc]] w fun e w' => e = .returned (.int .i64 (totalOfV b)) ∧ Below w.heap.size w w' := by
  have X0 := Lib.hid (BoxB.new h 29)
  have B0 := Lib.hid (below_new w (.cells #[.int .i64 b.season, .int .i64 b.supply, .int .i64 b.burnt, .int .i64 b.pot, .slice s.fa b.folk.length s.fc, .slice s.ma b.mills.length s.mc, .slice s.pa b.parts.length s.pc, .slice s.wa b.waits.length s.wc] 29))
  have HL := Lib.hid hl
  have HZ := Lib.hid hz
  clear h hl hz
  go_enter Tryz.func12, Tryz.ntmps12
  go_wp2_with fail
  refine (iLedger_any (b := b) (s := s)).mono ?_
  rintro e w1 ⟨rfl, hb1⟩
  have X1 := Lib.hid (X0.out.below hb1)
  have B1 := Lib.hid (below_trans B0.out hb1)
  obtain ⟨V, hV⟩ : ∃ V, w1.alloc (.cells #[.slice s.fa b.folk.length s.fc, .slice s.ma b.mills.length s.mc, .slice s.pa b.parts.length s.pc, .slice s.wa b.waits.length s.wc] 60) = V := ⟨_, rfl⟩
  have Y := Lib.hid (BoxL.new X1.out.book 60)
  have XV := Lib.hid (X1.out.below (below_new w1 (.cells #[.slice s.fa b.folk.length s.fc, .slice s.ma b.mills.length s.mc, .slice s.pa b.parts.length s.pc, .slice s.wa b.waits.length s.wc] 60)))
  have BV := Lib.hid (below_trans B1.out (below_new w1 (.cells #[.slice s.fa b.folk.length s.fc, .slice s.ma b.mills.length s.mc, .slice s.pa b.parts.length s.pc, .slice s.wa b.waits.length s.wc] 60)))
  rw [hV] at Y XV BV
  clear X0 B0 hb1 X1 B1
  have c0 := XV.out.c0
  have c1 := XV.out.c1
  have c2 := XV.out.c2
  have c3 := XV.out.c3
  have c4 := XV.out.c4
  have c5 := XV.out.c5
  have c6 := XV.out.c6
  have c7 := XV.out.c7
  go_wp2_with fail
  refine (iRange_any (s := s) XV.out.book).mono ?_
  rintro e w2 ⟨rfl, hb2⟩
  have Y2 := Lib.hid (Y.out.below hb2)
  have X2 := Lib.hid (XV.out.below hb2)
  have B2 := Lib.hid (below_trans BV.out hb2)
  clear Y XV BV hb2 c0 c1 c2 c3 c4 c5 c6 c7
  cases h1 : rangeB b
  · have HN := Lib.hid (totalOf_no (lists_range h1))
    go_wp2
    go_ret
    exact ⟨by rw [HN.out]; rfl, B2.out⟩
  have y0 := Y2.out.c0
  have y1 := Y2.out.c1
  have y2 := Y2.out.c2
  have y3 := Y2.out.c3
  go_wp2_with fail
  refine (iRight_any (s := s) X2.out.book HL.out HZ.out).mono ?_
  rintro e w3 ⟨rfl, hb3⟩
  have Y3 := Lib.hid (Y2.out.below hb3)
  have X3 := Lib.hid (X2.out.below hb3)
  have B3 := Lib.hid (below_trans B2.out hb3)
  clear Y2 X2 B2 hb3 y0 y1 y2 y3
  cases h2 : rightsB b
  · have HN := Lib.hid (totalOf_no (lists_rights h2))
    go_wp2
    go_ret
    exact ⟨by rw [HN.out]; rfl, B3.out⟩
  have hf := lists_both h2 h1
  obtain ⟨q1, q2, q3, q4, q5⟩ := total_bd hf
  have HT : Hid (totalV b = sumP b.folk b.folk.length + sumM b.mills b.mills.length + sumA b.waits b.waits.length + b.burnt + b.pot) := rfl
  obtain ⟨a1, a2, a3⟩ := rights_all hf
  obtain ⟨v1, e1⟩ : ∃ v, sumP b.folk b.folk.length = v := ⟨_, rfl⟩
  obtain ⟨v2, e2⟩ : ∃ v, sumM b.mills b.mills.length = v := ⟨_, rfl⟩
  obtain ⟨v3, e3⟩ : ∃ v, sumA b.waits b.waits.length = v := ⟨_, rfl⟩
  rw [e1] at q1 a1
  rw [e2] at q2 a2
  rw [e3] at q3 a3
  rw [e1, e2, e3] at HT
  have HN := Lib.hid ((totalOf_yes hf).trans HT.out)
  have E1 := Lib.hid a1
  have E2 := Lib.hid a2
  have E3 := Lib.hid a3
  clear hf e1 e2 e3 a1 a2 a3 HT h1 h2
  have g2 := Grow.cell X3.out.c2
  have g3 := Grow.cell X3.out.c3
  have y0 := Grow.cell Y3.out.c0
  have y1 := Grow.cell Y3.out.c1
  have y3 := Grow.cell Y3.out.c3
  have s1 : IntKind.i64.wrap (v1 + v2) = v1 + v2 := IntWalk.i64_in _ (by omega)
  have s2 : IntKind.i64.wrap (v1 + v2 + v3) = v1 + v2 + v3 := IntWalk.i64_in _ (by omega)
  have s3 : IntKind.i64.wrap (v1 + v2 + v3 + b.burnt) = v1 + v2 + v3 + b.burnt := IntWalk.i64_in _ (by omega)
  have s4 : IntKind.i64.wrap (v1 + v2 + v3 + b.burnt + b.pot) = v1 + v2 + v3 + b.burnt + b.pot := IntWalk.i64_in _ (by omega)
  go_wp2
  refine wp_region_grow (by kernel_rfl) (by kernel_rfl) ?_
  repeat (go_big_quiet_step (first | (go_at_call 36; exact grow_call (int_is E1.out) (iFree_any _ (X3.out.book.folk.below (Grow.ok _)) HL.out.fl HZ.out.fs)) | (go_at_call 37; exact grow_call (int_is E2.out) (iStaked_any _ (X3.out.book.mills.below (Grow.ok _)) (by have := HL.out.ml; omega) HZ.out.ms)) | (go_at_call 38; exact grow_call (int_is E3.out) (iWaitingM_any _ (X3.out.book.waits.below (Grow.ok _)) (by have := HL.out.wl; omega) HZ.out.ws))))
  refine wpQuiet_nil ?_
  intro _ hw'
  obtain ⟨gq, rfl⟩ := hw'
  have HB2 := Lib.hid (below_trans B3.out gq.ok)
  go_wp2
  go_ret
  exact ⟨by rw [HN.out]; rfl, HB2.out⟩

theorem range_sup {b : Bok} (h : rangeB b = true) : 0 ≤ b.supply := by
  have : inB 0 1000000 b.supply = true := by
    simp only [rangeB, Bool.and_eq_true] at h
    exact h.2.1
  exact (inB_bd this).1
theorem book_range {b : Bok} (h : rangeB b = false) : bookB b = false := book_l (lists_range h)
theorem book_total {b : Bok} (h2 : (totalOfV b == b.supply) = false) : bookB b = false := by
  cases hl : listsB b
  · exact book_l hl
  · rw [totalOf_yes hl] at h2; exact book_s h2
theorem total_lists {b : Bok} (h : rangeB b = true) (h2 : (totalOfV b == b.supply) = true) : listsB b = true ∧ (totalV b == b.supply) = true := by
  cases hl : listsB b
  · have h3 := range_sup h
    rw [totalOf_no hl] at h2
    have : (-1 : Int) = b.supply := by simpa using h2
    omega
  · exact ⟨rfl, by rw [totalOf_yes hl] at h2; exact h2⟩

set_option maxHeartbeats 8000000 in
set_option maxRecDepth 100000 in
theorem iBookOk_any {w : World} {b : Bok} {s : Spots} (h : BookAt w b s) (hl : BLen b) (hz : BSized b) :
    Calls Tryz.prog 10 #[.agg #[.int .i64 b.season, .int .i64 b.supply, .int .i64 b.burnt, .int .i64 b.pot, .slice s.fa b.folk.length s.fc, .slice s.ma b.mills.length s.mc, .slice s.pa b.parts.length s.pc, .slice s.wa b.waits.length s.wc]] w fun e w' => e = .returned (.bool (bookB b)) ∧ Below w.heap.size w w' := by
  have X0 := Lib.hid (BoxB.new h 29)
  have B0 := Lib.hid (below_new w (.cells #[.int .i64 b.season, .int .i64 b.supply, .int .i64 b.burnt, .int .i64 b.pot, .slice s.fa b.folk.length s.fc, .slice s.ma b.mills.length s.mc, .slice s.pa b.parts.length s.pc, .slice s.wa b.waits.length s.wc] 29))
  have HL := Lib.hid hl
  have HZ := Lib.hid hz
  clear h hl hz
  go_enter Tryz.func10, Tryz.ntmps10
  go_wp2_with fail
  refine (iLedger_any (b := b) (s := s)).mono ?_
  rintro e w1 ⟨rfl, hb1⟩
  have X1 := Lib.hid (X0.out.below hb1)
  have B1 := Lib.hid (below_trans B0.out hb1)
  obtain ⟨V, hV⟩ : ∃ V, w1.alloc (.cells #[.slice s.fa b.folk.length s.fc, .slice s.ma b.mills.length s.mc, .slice s.pa b.parts.length s.pc, .slice s.wa b.waits.length s.wc] 60) = V := ⟨_, rfl⟩
  have Y := Lib.hid (BoxL.new X1.out.book 60)
  have XV := Lib.hid (X1.out.below (below_new w1 (.cells #[.slice s.fa b.folk.length s.fc, .slice s.ma b.mills.length s.mc, .slice s.pa b.parts.length s.pc, .slice s.wa b.waits.length s.wc] 60)))
  have BV := Lib.hid (below_trans B1.out (below_new w1 (.cells #[.slice s.fa b.folk.length s.fc, .slice s.ma b.mills.length s.mc, .slice s.pa b.parts.length s.pc, .slice s.wa b.waits.length s.wc] 60)))
  rw [hV] at Y XV BV
  clear X0 B0 hb1 X1 B1
  have g0 := Grow.cell XV.out.c0
  have g1 := Grow.cell XV.out.c1
  have g2 := Grow.cell XV.out.c2
  have g3 := Grow.cell XV.out.c3
  have g4 := Grow.cell XV.out.c4
  have g5 := Grow.cell XV.out.c5
  have g6 := Grow.cell XV.out.c6
  have g7 := Grow.cell XV.out.c7
  have y0 := Grow.cell Y.out.c0
  have y1 := Grow.cell Y.out.c1
  have y2 := Grow.cell Y.out.c2
  have y3 := Grow.cell Y.out.c3
  cases h1 : rangeB b
  · have HN := Lib.hid (book_range h1)
    go_wp2
    refine wp_region_grow (by kernel_rfl) (by kernel_rfl) ?_
    repeat (go_big_quiet_step (first | (go_at_call 29; exact grow_call (bool_is h1) (iRange_any (s := s) (XV.out.book.below (Grow.ok _))))))
    refine wpQuiet_nil ?_
    intro _ hw'
    obtain ⟨gq, rfl⟩ := hw'
    have HB2 := Lib.hid (below_trans BV.out gq.ok)
    go_wp2
    go_ret
    exact ⟨by rw [HN.out]; rfl, HB2.out⟩
  cases h2 : (totalOfV b == b.supply)
  · have HN := Lib.hid (book_total h2)
    go_wp2
    refine wp_region_grow (by kernel_rfl) (by kernel_rfl) ?_
    repeat (go_big_quiet_step (first | (go_at_call 29; exact grow_call (bool_is h1) (iRange_any (s := s) (XV.out.book.below (Grow.ok _)))) | (go_at_call 12; exact grow_call rfl (iTotal_any (s := s) (XV.out.book.below (Grow.ok _)) HL.out HZ.out))))
    refine wpQuiet_nil ?_
    intro _ hw'
    obtain ⟨gq, rfl⟩ := hw'
    have HB2 := Lib.hid (below_trans BV.out gq.ok)
    go_wp2
    go_ret
    exact ⟨by rw [HN.out]; rfl, HB2.out⟩
  obtain ⟨hls, hts⟩ := total_lists h1 h2
  have HF := Lib.hid (lists_all hls).1
  have HTB := Lib.hid (there_both b)
  cases h3 : knowsB b
  · have HN := Lib.hid (show bookB b = false from book_t (by rw [HTB.out, h3]; rfl))
    clear hls hts
    go_wp2
    refine wp_region_grow (by kernel_rfl) (by kernel_rfl) ?_
    repeat (go_big_quiet_step (first | (go_at_call 29; exact grow_call (bool_is h1) (iRange_any (s := s) (XV.out.book.below (Grow.ok _)))) | (go_at_call 12; exact grow_call rfl (iTotal_any (s := s) (XV.out.book.below (Grow.ok _)) HL.out HZ.out)) | (go_at_call 30; exact grow_call (bool_is h3) (iKnowsAll_any (s := s) (XV.out.book.below (Grow.ok _)) HL.out HZ.out HF.out.1 HF.out.2.1))))
    refine wpQuiet_nil ?_
    intro _ hw'
    obtain ⟨gq, rfl⟩ := hw'
    have HB2 := Lib.hid (below_trans BV.out gq.ok)
    go_wp2
    go_ret
    exact ⟨by rw [HN.out]; rfl, HB2.out⟩
  have HN := Lib.hid (show bookB b = heldB b by unfold bookB; rw [hls, hts, HTB.out, h3]; simp)
  clear hls hts
  go_wp2
  refine wp_region_grow (by kernel_rfl) (by kernel_rfl) ?_
  repeat (go_big_quiet_step (first | (go_at_call 29; exact grow_call (bool_is h1) (iRange_any (s := s) (XV.out.book.below (Grow.ok _)))) | (go_at_call 12; exact grow_call rfl (iTotal_any (s := s) (XV.out.book.below (Grow.ok _)) HL.out HZ.out)) | (go_at_call 30; exact grow_call (bool_is h3) (iKnowsAll_any (s := s) (XV.out.book.below (Grow.ok _)) HL.out HZ.out HF.out.1 HF.out.2.1)) | (go_at_call 31; exact grow_call rfl (iAllHeld_any (s := s) (XV.out.book.below (Grow.ok _)) HL.out HZ.out))))
  refine wpQuiet_nil ?_
  intro _ hw'
  obtain ⟨gq, rfl⟩ := hw'
  have HB2 := Lib.hid (below_trans BV.out gq.ok)
  go_wp2
  go_ret
  exact ⟨by rw [HN.out]; rfl, HB2.out⟩
end Go.Proofs.YtlnnchgaloejlaaGreat
namespace Go.Proofs.YtlnnchgaloejlaaGreat
open Go.ChangeShapes Go.WideShapes Go.ChangeAt Go.RowKit

set_option maxHeartbeats 1000000 in
set_option maxRecDepth 100000 in
theorem iPartsForM_any {w : World} {a : Option Addr} {ps : List Par} (cap : Nat) (who : ByteArray) (h : Recs Par.cs w a ps) (hl : ps.length ≤ 1048576) (hs : PSized ps) :
    Calls Tryz.prog 42 #[.slice a ps.length cap, .string who] w (ResO Par.cs 3 (partsForV ps who) w) := by
  have H := Lib.hid h
  have HS := Lib.hid hs
  clear h hs
  go_enter Tryz.func42, Tryz.ntmps42
  go_wp2_with fail
  refine (iPartsFor_any _ _ H.out hl HS.out).mono ?_
  rintro e w1 hr
  have HR := Lib.hid hr
  obtain ⟨a1, c1, rfl, -, -⟩ := hr
  go_wp2
  go_ret
  exact HR.out

theorem sumA_map (xs : List Wai) : ∀ k, k ≤ xs.length → sumA xs k = WS (xs.take k)
  | 0, _ => by simp [sumA, WS]
  | k + 1, h => by
    rw [sumA, sumA_map xs k (by omega), watn_eq (by omega), List.take_succ_eq_append_getElem (by omega), WS_more]
theorem amount_for {ps : List Wai} (who : ByteArray) (hf : waitsB ps = true) : amountInV (waitsForV ps who) = WS (ofWhoW who ps) := by
  have h1 : waitsForV ps who = ofWhoW who ps := by simp [waitsForV, hf]
  have h2 : waitsB (ofWhoW who ps) = true := sub_waits hf List.filter_sublist
  rw [h1]
  simp only [amountInV, h2, if_true]
  rw [sumA_map _ _ (Nat.le_refl _), List.take_length]
theorem waitsFor_mem {ps : List Wai} {who : ByteArray} {p : Wai} (h : p ∈ waitsForV ps who) : p ∈ ps := by
  unfold waitsForV at h
  split at h
  · exact (List.mem_filter.1 h).1
  · simp at h
theorem wsized_for {ps : List Wai} (who : ByteArray) (hs : WSized ps) : WSized (waitsForV ps who) := by
  intro k hk
  obtain ⟨j, hj, e⟩ := List.getElem_of_mem (waitsFor_mem (List.getElem_mem hk))
  rw [← e]; exact hs j hj

set_option maxHeartbeats 1000000 in
set_option maxRecDepth 100000 in
theorem iWaitingFor_any {w : World} {a : Option Addr} {ps : List Wai} (cap : Nat) (who : ByteArray) (h : Recs Wai.cs w a ps) (hl : ps.length ≤ 1048576) (hs : WSized ps) (hf : waitsB ps = true) :
    Calls Tryz.prog 41 #[.slice a ps.length cap, .string who] w fun e w' => e = .returned (.int .i64 (WS (ofWhoW who ps))) ∧ Below w.heap.size w w' := by
  have H := Lib.hid h
  have HS := Lib.hid hs
  have HZ := Lib.hid (wsized_for who hs)
  have HA := Lib.hid (amount_for who hf)
  have HL := waitsFor_le ps who
  clear h hs hf
  go_enter Tryz.func41, Tryz.ntmps41
  go_wp2_with fail
  refine (iWaitsFor_any _ _ H.out hl HS.out).mono ?_
  rintro e w1 ⟨a1, c1, rfl, ho, hb1⟩
  have O1 := Lib.hid ho.1
  have B1 := Lib.hid hb1
  clear ho hb1
  go_wp2_with fail
  refine (iAmountIn_any _ O1.out (by omega) HZ.out).mono ?_
  rintro e w2 ⟨rfl, hb2⟩
  have B2 := Lib.hid (below_trans B1.out hb2)
  clear hb2
  go_wp2
  go_ret
  exact ⟨by rw [← HA.out]; rfl, B2.out⟩

theorem millIn_sized {ms : List Mil} (s : ByteArray) (hs : Sized (mnames ms)) : (millInV ms s).name.size ≤ maxLen := by
  unfold millInV
  split
  · rename_i h
    have hp : 0 ≤ placeV (mnames ms) s := by simp only [millInB, Bool.and_eq_true, decide_eq_true_eq] at h; exact h.2
    obtain ⟨k, e, hk, -⟩ := place_hit hp
    rw [len_mn] at hk
    have h2 := hs k
    rw [mnames_at hk] at h2
    rw [e, show ((k : Int)).toNat = k by omega, getD_mil hk]
    exact h2
  · simp [mil0, maxLen]

set_option maxHeartbeats 2000000 in
set_option maxRecDepth 100000 in
theorem iWorthOf_any {w : World} {a : Option Addr} {ms : List Mil} (cap : Nat) (p : Par) (h : Recs Mil.cs w a ms) (hl : ms.length ≤ 9223372036854775807) (hs : Sized (mnames ms)) :
    Calls Tryz.prog 43 #[.slice a ms.length cap, .agg #[.string p.who, .string p.mill, .int .i64 p.shares]] w fun e w' => e = .returned (.int .i64 (worthV (millInV ms p.mill) p.shares)) ∧ Below w.heap.size w w' := by
  obtain ⟨W, hW⟩ : ∃ W, w.alloc (.cells #[.string p.who, .string p.mill, .int .i64 p.shares] 68) = W := ⟨_, rfl⟩
  have R0 := Lib.hid (RecAt.new Par.cs w p 68)
  rw [show w.alloc (.cells p.cs.toArray 68) = W from hW] at R0
  have B0 := Lib.hid (below_new w (.cells #[.string p.who, .string p.mill, .int .i64 p.shares] 68))
  rw [hW] at B0
  have H := Lib.hid (h.below B0.out)
  have HS := Lib.hid hs
  have HZ := Lib.hid (millIn_sized p.mill hs)
  clear h hs
  obtain ⟨m, HM⟩ : ∃ x, Hid (millInV ms p.mill = x) := ⟨_, Lib.hid rfl⟩
  rw [HM.out] at HZ
  rw [HM.out]
  have c1 := R0.out 1 _ rfl
  go_enter Tryz.func43, Tryz.ntmps43
  go_wp2_with fail
  refine (iMillIn_any _ _ H.out hl HS.out).mono ?_
  rw [HM.out]
  rintro e w1 ⟨rfl, hb1⟩
  have R1 := Lib.hid (R0.out.below hb1)
  have B1 := Lib.hid (below_trans B0.out hb1)
  clear hb1 c1 R0 B0
  obtain ⟨V, hV⟩ : ∃ V, w1.alloc (.cells #[.string m.name, .int .i64 m.stake, .int .i64 m.shares, .int .i64 m.cut, .bool m.shut] 54) = V := ⟨_, rfl⟩
  have RV := Lib.hid (RecAt.new Mil.cs w1 m 54)
  have R2 := Lib.hid (R1.out.below (below_new w1 (.cells #[.string m.name, .int .i64 m.stake, .int .i64 m.shares, .int .i64 m.cut, .bool m.shut] 54)))
  have B2 := Lib.hid (below_trans B1.out (below_new w1 (.cells #[.string m.name, .int .i64 m.stake, .int .i64 m.shares, .int .i64 m.cut, .bool m.shut] 54)))
  rw [hV] at R2 B2
  rw [show w1.alloc (.cells m.cs.toArray 54) = V from hV] at RV
  have c2 := R2.out 2 _ rfl
  have m0 := RV.out 0 _ rfl
  have m1 := RV.out 1 _ rfl
  have m2 := RV.out 2 _ rfl
  have m3 := RV.out 3 _ rfl
  have m4 := RV.out 4 _ rfl
  go_wp2_with fail
  refine (iWorth_any m _ _ HZ.out).mono ?_
  rintro e w2 ⟨rfl, hb2⟩
  have B3 := Lib.hid (below_trans B2.out hb2)
  clear hb2
  go_wp2
  go_ret
  exact ⟨rfl, B3.out⟩

set_option maxHeartbeats 8000000 in
set_option maxRecDepth 100000 in
theorem iWorthIn_any {w : World} {b : Bok} {s : Spots} (who : ByteArray) (h : BookAt w b s) (hl : BLen b) (hz : BSized b) :
    Calls Tryz.prog 14 #[.agg #[.int .i64 b.season, .int .i64 b.supply, .int .i64 b.burnt, .int .i64 b.pot, .slice s.fa b.folk.length s.fc, .slice s.ma b.mills.length s.mc, .slice s.pa b.parts.length s.pc, .slice s.wa b.waits.length s.wc], .string who] w fun e w' => e = .returned (.int .i64 (worthInV b who)) ∧ Below w.heap.size w w' := by
  have X0 := Lib.hid (BoxB.new h 29)
  have B0 := Lib.hid (below_new w (.cells #[.int .i64 b.season, .int .i64 b.supply, .int .i64 b.burnt, .int .i64 b.pot, .slice s.fa b.folk.length s.fc, .slice s.ma b.mills.length s.mc, .slice s.pa b.parts.length s.pc, .slice s.wa b.waits.length s.wc] 29))
  have HL := Lib.hid hl
  have HZ := Lib.hid hz
  have l1 := hl.fl
  have l2 := hl.ml
  have l3 := hl.pl
  have l4 := hl.wl
  clear h hl hz
  go_enter Tryz.func14, Tryz.ntmps14
  go_wp2_with fail
  refine (iLedger_any (b := b) (s := s)).mono ?_
  rintro e w1 ⟨rfl, hb1⟩
  have X1 := Lib.hid (X0.out.below hb1)
  have B1 := Lib.hid (below_trans B0.out hb1)
  obtain ⟨V, hV⟩ : ∃ V, w1.alloc (.cells #[.slice s.fa b.folk.length s.fc, .slice s.ma b.mills.length s.mc, .slice s.pa b.parts.length s.pc, .slice s.wa b.waits.length s.wc] 60) = V := ⟨_, rfl⟩
  have Y := Lib.hid (BoxL.new X1.out.book 60)
  have XV := Lib.hid (X1.out.below (below_new w1 (.cells #[.slice s.fa b.folk.length s.fc, .slice s.ma b.mills.length s.mc, .slice s.pa b.parts.length s.pc, .slice s.wa b.waits.length s.wc] 60)))
  have BV := Lib.hid (below_trans B1.out (below_new w1 (.cells #[.slice s.fa b.folk.length s.fc, .slice s.ma b.mills.length s.mc, .slice s.pa b.parts.length s.pc, .slice s.wa b.waits.length s.wc] 60)))
  rw [hV] at Y XV BV
  clear X0 B0 hb1 X1 B1
  have c0 := XV.out.c0
  have c1 := XV.out.c1
  have c2 := XV.out.c2
  have c3 := XV.out.c3
  have c4 := XV.out.c4
  have c5 := XV.out.c5
  have c6 := XV.out.c6
  have c7 := XV.out.c7
  go_wp2_with fail
  refine (iBookOk_any (s := s) XV.out.book HL.out HZ.out).mono ?_
  rintro e w2 ⟨rfl, hb2⟩
  have Y2 := Lib.hid (Y.out.below hb2)
  have B2 := Lib.hid (below_trans BV.out hb2)
  clear Y XV BV hb2 c0 c1 c2 c3 c4 c5 c6 c7
  cases h1 : bookB b
  · have HN := Lib.hid (worthIn_no (who := who) h1)
    go_wp2
    go_ret
    exact ⟨by rw [HN.out]; rfl, B2.out⟩
  obtain ⟨hlists, hthere, -⟩ := book_true h1
  obtain ⟨⟨hfk, hmk, hpk, hwk⟩, -⟩ := lists_all hlists
  have HFK := Lib.hid hfk
  have HWK := Lib.hid hwk
  have hp20 := (parts_true hpk).1
  have hw20 := (waits_true hwk).1
  have HWA := Lib.hid (fun j (hj : j < b.waits.length) => (waits_true hwk).2.1 j hj hj)
  have HPF := Lib.hid (show partsForV b.parts who = ofWho who b.parts by simp [partsForV, hpk])
  have y0 := Y2.out.c0
  go_wp2_with fail
  refine (iHasPurse_any _ _ Y2.out.book.folk HL.out.fl HZ.out.fs HFK.out).mono ?_
  rintro e w3 ⟨rfl, hb3⟩
  have Y3 := Lib.hid (Y2.out.below hb3)
  have B3 := Lib.hid (below_trans B2.out hb3)
  clear Y2 B2 hb3 y0
  by_cases hp : 0 ≤ placeV (pnames b.folk) who
  case neg =>
    have HN := Lib.hid (worthIn_out hp)
    rw [decide_eq_false hp]
    clear hp
    go_wp2
    go_ret
    exact ⟨by rw [HN.out]; rfl, B3.out⟩
  rw [decide_eq_true hp]
  obtain ⟨f, ef, hf, -⟩ := place_hit hp
  rw [len_pn] at hf
  have HN := Lib.hid (worthIn_in h1 ef hf)
  have HE := Lib.hid (freeOf_in hfk ef hf)
  have hfb := inB_bd ((folk_true hfk).2.1 f hf hf)
  clear hp ef hlists hthere hfk hmk hpk hwk h1
  obtain ⟨r, hr⟩ : ∃ r, WS (ofWhoW who b.waits) = r := ⟨_, rfl⟩
  have hbr := WS_bd _ (ofWhoW_mem (who := who) HWA.out b.waits.length)
  have hler := ofWhoW_le who b.waits
  rw [List.take_length] at hbr
  rw [hr] at hbr HN
  have HR := Lib.hid hr
  obtain ⟨fv, hfv⟩ : ∃ x, b.folk[f].free = x := ⟨_, rfl⟩
  rw [hfv] at hfb HE HN
  clear hr hfv
  have g0 := Grow.cell Y3.out.c0
  have g3 := Grow.cell Y3.out.c3
  have hs1 : IntKind.i64.wrap (fv + r) = fv + r := IntWalk.i64_in _ (by omega)
  go_wp2
  refine wp_region_grow (by kernel_rfl) (by kernel_rfl) ?_
  repeat (go_big_quiet_step (first | (go_at_call 40; exact grow_call (int_is HE.out) (iFreeOfM_any _ _ (Y3.out.book.folk.below (Grow.ok _)) HL.out.fl HZ.out.fs)) | (go_at_call 41; exact grow_call (int_is HR.out) (iWaitingFor_any _ _ (Y3.out.book.waits.below (Grow.ok _)) (by omega) HZ.out.ws HWK.out))))
  refine wpQuiet_nil ?_
  intro _ hw'
  obtain ⟨gq, rfl⟩ := hw'
  have Y4 := Lib.hid (Y3.out.below gq.ok)
  have B4 := Lib.hid (below_trans B3.out gq.ok)
  clear g0 g3 Y3 B3 hs1
  have y2 := Y4.out.c2
  go_wp2_with fail
  refine (iPartsForM_any _ _ Y4.out.book.parts (by omega) HZ.out.ps).mono ?_
  rintro e w5 ⟨a5, cap5, rfl, ho5, hb5⟩
  have Y5 := Lib.hid (Y4.out.below hb5)
  have B5 := Lib.hid (below_trans B4.out hb5)
  have O5 := Lib.hid ho5.1
  clear ho5 hb5 Y4 B4 y2
  rw [HPF.out] at O5
  rw [HPF.out]
  obtain ⟨xs, hxs⟩ : ∃ x, ofWho who b.parts = x := ⟨_, rfl⟩
  have hxl := ofWho_le who b.parts
  rw [hxs] at O5 HN hxl
  rw [hxs]
  clear hxs HPF
  go_wp2
  go_loopw [6, 35] (fun t i w' => ∃ k : Nat, k ≤ xs.length ∧ i = .int .i64 k ∧ t = .int .i64 (fv + r + PS b.mills (xs.take k)) ∧ Below w5.heap.size w5 w') (fun _ i _ => xs.length - (intOf i).toNat)
  case atStart => exact ⟨0, Nat.zero_le _, rfl, by simp [PS], Below.refl _ _⟩
  case round =>
    obtain ⟨k, hk, rfl, rfl, hb⟩ := hrel
    have X := Lib.hid (Y5.out.below hb)
    have OX := Lib.hid (O5.out.below hb)
    have HB := Lib.hid hb
    have BB := Lib.hid (below_trans B5.out hb)
    clear hb
    obtain ⟨t, ht⟩ : ∃ t, PS b.mills (xs.take k) = t := ⟨_, rfl⟩
    have hbd := PS_bd b.mills (xs.take k)
    rw [List.length_take] at hbd
    rw [ht] at hbd
    rw [ht]
    have HT := Lib.hid ht
    clear ht
    by_cases hlt : k < xs.length
    · obtain ⟨p, off, rfl, hlb, d0, d1, d2⟩ := Par.at OX.out k hlt
      have hwb := worth_bdW (millInV b.mills xs[k].mill) xs[k].shares
      obtain ⟨v, hv⟩ : ∃ v, worthV (millInV b.mills xs[k].mill) xs[k].shares = v := ⟨_, rfl⟩
      rw [hv] at hwb
      have HO := Lib.hid (show PS b.mills (xs.take (k + 1)) = t + v by rw [List.take_succ_eq_append_getElem hlt, PS_more, HT.out, hv])
      have HV := Lib.hid hv
      obtain ⟨U, hU⟩ : ∃ U, wr.alloc (.cells #[.string xs[k].who, .string xs[k].mill, .int .i64 xs[k].shares] 68) = U := ⟨_, rfl⟩
      have BU := Lib.hid (below_new wr (.cells #[.string xs[k].who, .string xs[k].mill, .int .i64 xs[k].shares] 68))
      have RU := Lib.hid (RecAt.new Par.cs wr xs[k] 68)
      rw [hU] at BU
      rw [show wr.alloc (.cells (xs[k].cs).toArray 68) = U from hU] at RU
      have XU := Lib.hid (X.out.below BU.out)
      have HBU := Lib.hid (below_trans HB.out BU.out)
      have x1 := XU.out.c1
      have r0 := RU.out 0 _ rfl
      have r1 := RU.out 1 _ rfl
      have r2 := RU.out 2 _ rfl
      have hs2 : IntKind.i64.wrap (fv + r + t + v) = fv + r + t + v := IntWalk.i64_in _ (by omega)
      clear hv hlb
      go_wp2_with fail
      refine (iWorthOf_any _ xs[k] XU.out.book.mills (by omega) HZ.out.ms).mono ?_
      rw [HV.out]
      rintro e w6 ⟨rfl, hb6⟩
      have HB6 := Lib.hid (below_trans HBU.out hb6)
      clear hb6
      go_wp2
      go_roundw
      case rel => exact ⟨k + 1, by omega, by go_num, by rw [HO.out, Int.add_assoc (fv + r)], HB6.out⟩
      case measure => simp [intOf]; omega
    obtain rfl : k = xs.length := by omega
    have HS := Lib.hid (show fv + PS b.mills xs + r = fv + r + t by have := HT.out; rw [List.take_length] at this; omega)
    go_wp2
    go_ret
    exact ⟨by rw [HN.out, HS.out]; rfl, BB.out⟩

end Go.Proofs.YtlnnchgaloejlaaGreat
