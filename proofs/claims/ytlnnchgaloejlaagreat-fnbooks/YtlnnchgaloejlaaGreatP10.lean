/-
  Texts joined: BookS, BookT.
-/
import Derived.Test.YtlnnchgaloejlaaGreatP3
import Derived.Test.YtlnnchgaloejlaaGreatP4
import Derived.Test.YtlnnchgaloejlaaGreatP7
import Derived.Test.YtlnnchgaloejlaaGreatP8
import Derived.Test.YtlnnchgaloejlaaGreatP9
namespace Go.Proofs.YtlnnchgaloejlaaGreat
open Go.ChangeShapes Go.WideShapes Go.ChangeAt Go.RowKit

/-- The names of its lists are no longer than a machine's. -/
structure BSized (b : Bok) : Prop where
  fs : Sized (pnames b.folk)
  ms : Sized (mnames b.mills)
  ps : PSized b.parts
  ws : WSized b.waits
/-- Are its numbers in their range? -/
def rangeB (b : Bok) : Bool := inB 0 1000 b.season && (inB 0 1000000 b.supply && (inB 0 1000000 b.burnt && inB 0 1000000 b.pot))
/-- Are its lists right? -/
noncomputable def rightsB (b : Bok) : Bool := folkB b.folk && (millsB b.mills && (partsB b.parts && waitsB b.waits))
noncomputable def listsB (b : Bok) : Bool := rightsB b && rangeB b
section
variable {b : Bok}
theorem lists_f (h : folkB b.folk = false) : listsB b = false := by simp [listsB, rightsB, h]
theorem lists_m (h : millsB b.mills = false) : listsB b = false := by simp [listsB, rightsB, h]
theorem lists_p (h : partsB b.parts = false) : listsB b = false := by simp [listsB, rightsB, h]
theorem lists_w (h : waitsB b.waits = false) : listsB b = false := by simp [listsB, rightsB, h]
theorem lists_s (h : inB 0 1000 b.season = false) : listsB b = false := by simp [listsB, rangeB, h]
theorem lists_u (h : inB 0 1000000 b.supply = false) : listsB b = false := by simp [listsB, rangeB, h]
theorem lists_b (h : inB 0 1000000 b.burnt = false) : listsB b = false := by simp [listsB, rangeB, h]
theorem lists_o (h : inB 0 1000000 b.pot = false) : listsB b = false := by simp [listsB, rangeB, h]
theorem lists_yes (h1 : folkB b.folk = true) (h2 : millsB b.mills = true) (h3 : partsB b.parts = true) (h4 : waitsB b.waits = true) (h5 : inB 0 1000 b.season = true) (h6 : inB 0 1000000 b.supply = true) (h7 : inB 0 1000000 b.burnt = true) (h8 : inB 0 1000000 b.pot = true) : listsB b = true := by
  simp [listsB, rightsB, rangeB, h1, h2, h3, h4, h5, h6, h7, h8]
theorem lists_all (h : listsB b = true) : (folkB b.folk = true ∧ millsB b.mills = true ∧ partsB b.parts = true ∧ waitsB b.waits = true) ∧ inB 0 1000 b.season = true ∧ inB 0 1000000 b.supply = true ∧ inB 0 1000000 b.burnt = true ∧ inB 0 1000000 b.pot = true := by
  simpa [listsB, rightsB, rangeB, and_assoc] using h
end

set_option maxHeartbeats 4000000 in
set_option maxRecDepth 100000 in
theorem l7Lists_any {w : World} {b : Bok} {s : Spots} (h : BookAt w b s) (hl : BLen b) (hz : BSized b) :
    Calls Tryz.prog 32 #[.agg #[.int .i64 b.season, .int .i64 b.supply, .int .i64 b.burnt, .int .i64 b.pot, .slice s.fa b.folk.length s.fc, .slice s.ma b.mills.length s.mc, .slice s.pa b.parts.length s.pc, .slice s.wa b.waits.length s.wc]] w fun e w' => e = .returned (.bool (listsB b)) ∧ Below w.heap.size w w' := by
  have X0 := Lib.hid (BoxB.new h 29)
  have B0 := Lib.hid (below_new w (.cells #[.int .i64 b.season, .int .i64 b.supply, .int .i64 b.burnt, .int .i64 b.pot, .slice s.fa b.folk.length s.fc, .slice s.ma b.mills.length s.mc, .slice s.pa b.parts.length s.pc, .slice s.wa b.waits.length s.wc] 29))
  have HL := Lib.hid hl
  have HZ := Lib.hid hz
  clear h hl hz
  go_enter Tryz.func32, Tryz.ntmps32
  go_wp2_with fail
  refine (sFolkOk_any _ X0.out.book.folk (by have := HL.out.fl; omega) HZ.out.fs).mono ?_
  rintro e w1 ⟨rfl, n1, hw1⟩
  have X1 := Lib.hid (X0.out.draws n1)
  have B1 := Lib.hid (below_draws B0.out n1)
  rw [← hw1] at X1 B1
  clear X0 B0 hw1
  cases h1 : folkB b.folk
  · have HN := Lib.hid (lists_f h1)
    go_wp2
    go_ret
    exact ⟨by rw [HN.out]; rfl, B1.out⟩
  have c5 := X1.out.c5
  go_wp2_with fail
  refine (sMillsOk_any _ X1.out.book.mills (by have := HL.out.ml; omega) HZ.out.ms).mono ?_
  rintro e w2 ⟨rfl, hb2⟩
  have X2 := Lib.hid (X1.out.below hb2)
  have B2 := Lib.hid (below_trans B1.out hb2)
  clear X1 B1 hb2 c5
  cases h2 : millsB b.mills
  · have HN := Lib.hid (lists_m h2)
    go_wp2
    go_ret
    exact ⟨by rw [HN.out]; rfl, B2.out⟩
  have c6 := X2.out.c6
  go_wp2_with fail
  refine (sPartsOk_any _ X2.out.book.parts (by have := HL.out.pl; omega) HZ.out.ps).mono ?_
  rintro e w3 ⟨rfl, hb3⟩
  have X3 := Lib.hid (X2.out.below hb3)
  have B3 := Lib.hid (below_trans B2.out hb3)
  clear X2 B2 hb3 c6
  cases h3 : partsB b.parts
  · have HN := Lib.hid (lists_p h3)
    go_wp2
    go_ret
    exact ⟨by rw [HN.out]; rfl, B3.out⟩
  have c7 := X3.out.c7
  go_wp2_with fail
  refine (sWaitsOk_any _ X3.out.book.waits (by have := HL.out.wl; omega) HZ.out.ws).mono ?_
  rintro e w4 ⟨rfl, hb4⟩
  have X4 := Lib.hid (X3.out.below hb4)
  have B4 := Lib.hid (below_trans B3.out hb4)
  clear X3 B3 hb4 c7
  cases h4 : waitsB b.waits
  · have HN := Lib.hid (lists_w h4)
    go_wp2
    go_ret
    exact ⟨by rw [HN.out]; rfl, B4.out⟩
  have c0 := X4.out.c0
  have c1 := X4.out.c1
  have c2 := X4.out.c2
  have c3 := X4.out.c3
  go_wp2_with fail
  refine (l1In_any _ _ _ _).mono ?_
  rintro e w5 ⟨rfl, rfl⟩
  cases h5 : inB 0 1000 b.season
  · have HN := Lib.hid (lists_s h5)
    go_wp2
    go_ret
    exact ⟨by rw [HN.out]; rfl, B4.out⟩
  go_wp2_with fail
  refine (sAmountOk_any _ _).mono ?_
  rintro e w5 ⟨rfl, rfl⟩
  cases h6 : inB 0 1000000 b.supply
  · have HN := Lib.hid (lists_u h6)
    go_wp2
    go_ret
    exact ⟨by rw [HN.out]; rfl, B4.out⟩
  go_wp2_with fail
  refine (sAmountOk_any _ _).mono ?_
  rintro e w5 ⟨rfl, rfl⟩
  cases h7 : inB 0 1000000 b.burnt
  · have HN := Lib.hid (lists_b h7)
    go_wp2
    go_ret
    exact ⟨by rw [HN.out]; rfl, B4.out⟩
  go_wp2_with fail
  refine (sAmountOk_any _ _).mono ?_
  rintro e w5 ⟨rfl, rfl⟩
  cases h8 : inB 0 1000000 b.pot
  · have HN := Lib.hid (lists_o h8)
    go_wp2
    go_ret
    exact ⟨by rw [HN.out]; rfl, B4.out⟩
  have HN := Lib.hid (lists_yes h1 h2 h3 h4 h5 h6 h7 h8)
  go_wp2
  go_ret
  exact ⟨by rw [HN.out]; rfl, B4.out⟩

/-- Are they one of the folk, and one of the mills? -/
def knownB (b : Bok) (who mill : ByteArray) : Bool := decide (0 ≤ placeV (pnames b.folk) who) && decide (0 ≤ placeV (mnames b.mills) mill)
theorem known_not1 {b : Bok} {who mill : ByteArray} (h : placeV (pnames b.folk) who < 0) : knownB b who mill = false := by
  unfold knownB; rw [decide_eq_false (by omega)]; rfl
theorem known_not2 {b : Bok} {who mill : ByteArray} (h : placeV (mnames b.mills) mill < 0) : knownB b who mill = false := by
  unfold knownB; rw [decide_eq_false (p := 0 ≤ placeV (mnames b.mills) mill) (by omega), Bool.and_false]
theorem known_yes {b : Bok} {who mill : ByteArray} (h : ¬ placeV (pnames b.folk) who < 0) (h2 : ¬ placeV (mnames b.mills) mill < 0) : knownB b who mill = true := by
  unfold knownB; rw [decide_eq_true (by omega), decide_eq_true (by omega)]; rfl
theorem known_true {b : Bok} {who mill : ByteArray} (h : knownB b who mill = true) : 0 ≤ placeV (pnames b.folk) who ∧ 0 ≤ placeV (mnames b.mills) mill := by
  simpa [knownB] using h
def KnowsP (b : Bok) (n : Nat) : Prop := ∀ j (h : j < b.parts.length), j < n → knownB b b.parts[j].who b.parts[j].mill = true
def KnowsW (b : Bok) (n : Nat) : Prop := ∀ j (h : j < b.waits.length), j < n → knownB b b.waits[j].who b.waits[j].mill = true
def HeldM (b : Bok) (n : Nat) : Prop := ∀ j (h : j < b.mills.length), j < n → sharesInV b.parts b.mills[j].name = b.mills[j].shares
noncomputable def thereB (b : Bok) : Bool := @decide (KnowsP b b.parts.length ∧ KnowsW b b.waits.length ∧ HeldM b b.mills.length) (Classical.propDecidable _)
theorem KnowsP.zero (b : Bok) : KnowsP b 0 := fun _ _ h => by omega
theorem KnowsW.zero (b : Bok) : KnowsW b 0 := fun _ _ h => by omega
theorem HeldM.zero (b : Bok) : HeldM b 0 := fun _ _ h => by omega
theorem KnowsP.succ {b : Bok} {k : Nat} (h : KnowsP b k) (hk : k < b.parts.length) (h1 : knownB b b.parts[k].who b.parts[k].mill = true) : KnowsP b (k + 1) := fun j hj hlt => by
  by_cases e : j = k
  · subst e; exact h1
  · exact h j hj (by omega)
theorem KnowsW.succ {b : Bok} {k : Nat} (h : KnowsW b k) (hk : k < b.waits.length) (h1 : knownB b b.waits[k].who b.waits[k].mill = true) : KnowsW b (k + 1) := fun j hj hlt => by
  by_cases e : j = k
  · subst e; exact h1
  · exact h j hj (by omega)
theorem HeldM.succ {b : Bok} {k : Nat} (h : HeldM b k) (hk : k < b.mills.length) (h1 : sharesInV b.parts b.mills[k].name = b.mills[k].shares) : HeldM b (k + 1) := fun j hj hlt => by
  by_cases e : j = k
  · subst e; exact h1
  · exact h j hj (by omega)
theorem there_true {b : Bok} (h : thereB b = true) : KnowsP b b.parts.length ∧ KnowsW b b.waits.length ∧ HeldM b b.mills.length := by
  unfold thereB at h; exact @of_decide_eq_true _ (Classical.propDecidable _) h
theorem there_yes {b : Bok} (h1 : KnowsP b b.parts.length) (h2 : KnowsW b b.waits.length) (h3 : HeldM b b.mills.length) : thereB b = true := by
  unfold thereB; exact @decide_eq_true _ (Classical.propDecidable _) ⟨h1, h2, h3⟩
theorem there_no {b : Bok} (h : ¬ (KnowsP b b.parts.length ∧ KnowsW b b.waits.length ∧ HeldM b b.mills.length)) : thereB b = false := by
  unfold thereB; exact @decide_eq_false _ (Classical.propDecidable _) h
theorem there_p {b : Bok} {k : Nat} (hk : k < b.parts.length) (h : knownB b b.parts[k].who b.parts[k].mill = false) : thereB b = false :=
  there_no fun ⟨h1, _, _⟩ => by rw [h1 k hk hk] at h; cases h
theorem there_w {b : Bok} {k : Nat} (hk : k < b.waits.length) (h : knownB b b.waits[k].who b.waits[k].mill = false) : thereB b = false :=
  there_no fun ⟨_, h1, _⟩ => by rw [h1 k hk hk] at h; cases h
theorem there_m {b : Bok} {k : Nat} (hk : k < b.mills.length) (h : sharesInV b.parts b.mills[k].name ≠ b.mills[k].shares) : thereB b = false :=
  there_no fun ⟨_, _, h1⟩ => h (h1 k hk hk)

set_option maxHeartbeats 8000000 in
set_option maxRecDepth 100000 in
theorem l7There_any {w : World} {b : Bok} {s : Spots} (h : BookAt w b s) (hl : BLen b) (hz : BSized b) :
    Calls Tryz.prog 33 #[.agg #[.int .i64 b.season, .int .i64 b.supply, .int .i64 b.burnt, .int .i64 b.pot, .slice s.fa b.folk.length s.fc, .slice s.ma b.mills.length s.mc, .slice s.pa b.parts.length s.pc, .slice s.wa b.waits.length s.wc]] w fun e w' => e = .returned (.bool (thereB b)) ∧ Below w.heap.size w w' := by
  obtain ⟨W, hW⟩ : ∃ W, w.alloc (.cells #[.int .i64 b.season, .int .i64 b.supply, .int .i64 b.burnt, .int .i64 b.pot, .slice s.fa b.folk.length s.fc, .slice s.ma b.mills.length s.mc, .slice s.pa b.parts.length s.pc, .slice s.wa b.waits.length s.wc] 29) = W := ⟨_, rfl⟩
  have X0 := Lib.hid (BoxB.new h 29)
  have B0 := Lib.hid (below_new w (.cells #[.int .i64 b.season, .int .i64 b.supply, .int .i64 b.burnt, .int .i64 b.pot, .slice s.fa b.folk.length s.fc, .slice s.ma b.mills.length s.mc, .slice s.pa b.parts.length s.pc, .slice s.wa b.waits.length s.wc] 29))
  rw [hW] at X0 B0
  have HL := Lib.hid hl
  have HZ := Lib.hid hz
  have l1 := hl.fl
  have l2 := hl.ml
  have l3 := hl.pl
  have l4 := hl.wl
  clear h hl hz
  go_enter Tryz.func33, Tryz.ntmps33
  go_wp2
  go_loopw [3] (fun i w' => ∃ k : Nat, k ≤ b.parts.length ∧ i = .int .i64 k ∧ Below W.heap.size W w' ∧ KnowsP b k) (fun i _ => b.parts.length - (intOf i).toNat)
  case atStart => exact ⟨0, Nat.zero_le _, rfl, Below.refl _ _, KnowsP.zero _⟩
  case round =>
    obtain ⟨k, hk, rfl, hb, hu⟩ := hrel
    have X := Lib.hid (X0.out.below hb)
    have BB := Lib.hid (below_trans B0.out hb)
    have HB := Lib.hid hb
    have HU := Lib.hid hu
    clear hb hu
    have c6 := X.out.c6
    by_cases hlt : k < b.parts.length
    · obtain ⟨p, off, ep, hlb, d0, d1, d2⟩ := Par.at X.out.book.parts k hlt
      obtain ⟨q1, hq1⟩ : ∃ q, placeV (pnames b.folk) b.parts[k].who = q := ⟨_, rfl⟩
      obtain ⟨q2, hq2⟩ : ∃ q, placeV (mnames b.mills) b.parts[k].mill = q := ⟨_, rfl⟩
      rw [ep] at c6
      clear ep
      have e4 := Grow.cell X.out.c4
      have e5 := Grow.cell X.out.c5
      have e6 := Grow.cell c6
      have g0 := Grow.cell d0
      have g1 := Grow.cell d1
      clear d0 d1 d2
      by_cases n1 : q1 < 0
      · have HN := Lib.hid (there_p hlt (known_not1 (by omega)))
        have hd1 := decide_eq_true n1
        go_wp2
        refine wp_region_grow (by kernel_rfl) (by kernel_rfl) ?_
        repeat (go_big_quiet_step (first | (go_at_call 44; exact grow_same (int_is hq1) (l3Find_any _ _ (X.out.book.folk.below (Grow.ok _)) (by omega)))))
        refine wpQuiet_nil ?_
        intro _ hw'
        obtain ⟨gq, rfl⟩ := hw'
        have HB2 := Lib.hid (below_trans BB.out gq.ok)
        go_wp2
        go_ret
        exact ⟨by rw [HN.out]; rfl, HB2.out⟩
      have hd1 := decide_eq_false n1
      by_cases n2 : q2 < 0
      · have HN := Lib.hid (there_p hlt (known_not2 (by omega)))
        have hd2 := decide_eq_true n2
        go_wp2
        refine wp_region_grow (by kernel_rfl) (by kernel_rfl) ?_
        repeat (go_big_quiet_step (first | (go_at_call 44; exact grow_same (int_is hq1) (l3Find_any _ _ (X.out.book.folk.below (Grow.ok _)) (by omega))) | (go_at_call 46; exact grow_same (int_is hq2) (l4Find_any _ _ (X.out.book.mills.below (Grow.ok _)) (by omega)))))
        refine wpQuiet_nil ?_
        intro _ hw'
        obtain ⟨gq, rfl⟩ := hw'
        have HB2 := Lib.hid (below_trans BB.out gq.ok)
        go_wp2
        go_ret
        exact ⟨by rw [HN.out]; rfl, HB2.out⟩
      have hd2 := decide_eq_false n2
      have HN := Lib.hid (HU.out.succ hlt (known_yes (by omega) (by omega)))
      go_wp2
      refine wp_region_grow (by kernel_rfl) (by kernel_rfl) ?_
      repeat (go_big_quiet_step (first | (go_at_call 44; exact grow_same (int_is hq1) (l3Find_any _ _ (X.out.book.folk.below (Grow.ok _)) (by omega))) | (go_at_call 46; exact grow_same (int_is hq2) (l4Find_any _ _ (X.out.book.mills.below (Grow.ok _)) (by omega)))))
      refine wpQuiet_nil ?_
      intro _ hw'
      obtain ⟨gq, rfl⟩ := hw'
      have HB2 := Lib.hid (below_trans HB.out gq.ok)
      go_wp2
      go_roundw
      case rel => exact ⟨k + 1, by omega, by go_num, HB2.out, HN.out⟩
      case measure => simp [intOf]; omega
    obtain rfl : k = b.parts.length := by omega
    have KP := HU
    clear HU hlt
    go_wp2
    go_loopw [4] (fun i w' => ∃ k : Nat, k ≤ b.waits.length ∧ i = .int .i64 k ∧ Below W.heap.size W w' ∧ KnowsW b k) (fun i _ => b.waits.length - (intOf i).toNat)
    case atStart => exact ⟨0, Nat.zero_le _, rfl, HB.out, KnowsW.zero _⟩
    case round =>
      obtain ⟨k, hk, rfl, hb, hu⟩ := hrel
      clear X HB BB
      have X := Lib.hid (X0.out.below hb)
      have BB := Lib.hid (below_trans B0.out hb)
      have HB := Lib.hid hb
      have HU := Lib.hid hu
      clear hb hu
      have c7 := X.out.c7
      by_cases hlt : k < b.waits.length
      · obtain ⟨p, off, ep, hlb, d0, d1, d2, d3⟩ := Wai.at X.out.book.waits k hlt
        obtain ⟨q1, hq1⟩ : ∃ q, placeV (pnames b.folk) b.waits[k].who = q := ⟨_, rfl⟩
        obtain ⟨q2, hq2⟩ : ∃ q, placeV (mnames b.mills) b.waits[k].mill = q := ⟨_, rfl⟩
        rw [ep] at c7
        clear ep
        have e4 := Grow.cell X.out.c4
        have e5 := Grow.cell X.out.c5
        have e6 := Grow.cell c7
        have g0 := Grow.cell d0
        have g1 := Grow.cell d1
        clear d0 d1 d2 d3
        by_cases n1 : q1 < 0
        · have HN := Lib.hid (there_w hlt (known_not1 (by omega)))
          have hd1 := decide_eq_true n1
          go_wp2
          refine wp_region_grow (by kernel_rfl) (by kernel_rfl) ?_
          repeat (go_big_quiet_step (first | (go_at_call 44; exact grow_same (int_is hq1) (l3Find_any _ _ (X.out.book.folk.below (Grow.ok _)) (by omega)))))
          refine wpQuiet_nil ?_
          intro _ hw'
          obtain ⟨gq, rfl⟩ := hw'
          have HB2 := Lib.hid (below_trans BB.out gq.ok)
          go_wp2
          go_ret
          exact ⟨by rw [HN.out]; rfl, HB2.out⟩
        have hd1 := decide_eq_false n1
        by_cases n2 : q2 < 0
        · have HN := Lib.hid (there_w hlt (known_not2 (by omega)))
          have hd2 := decide_eq_true n2
          go_wp2
          refine wp_region_grow (by kernel_rfl) (by kernel_rfl) ?_
          repeat (go_big_quiet_step (first | (go_at_call 44; exact grow_same (int_is hq1) (l3Find_any _ _ (X.out.book.folk.below (Grow.ok _)) (by omega))) | (go_at_call 46; exact grow_same (int_is hq2) (l4Find_any _ _ (X.out.book.mills.below (Grow.ok _)) (by omega)))))
          refine wpQuiet_nil ?_
          intro _ hw'
          obtain ⟨gq, rfl⟩ := hw'
          have HB2 := Lib.hid (below_trans BB.out gq.ok)
          go_wp2
          go_ret
          exact ⟨by rw [HN.out]; rfl, HB2.out⟩
        have hd2 := decide_eq_false n2
        have HN := Lib.hid (HU.out.succ hlt (known_yes (by omega) (by omega)))
        go_wp2
        refine wp_region_grow (by kernel_rfl) (by kernel_rfl) ?_
        repeat (go_big_quiet_step (first | (go_at_call 44; exact grow_same (int_is hq1) (l3Find_any _ _ (X.out.book.folk.below (Grow.ok _)) (by omega))) | (go_at_call 46; exact grow_same (int_is hq2) (l4Find_any _ _ (X.out.book.mills.below (Grow.ok _)) (by omega)))))
        refine wpQuiet_nil ?_
        intro _ hw'
        obtain ⟨gq, rfl⟩ := hw'
        have HB2 := Lib.hid (below_trans HB.out gq.ok)
        go_wp2
        go_roundw
        case rel => exact ⟨k + 1, by omega, by go_num, HB2.out, HN.out⟩
        case measure => simp [intOf]; omega
      obtain rfl : k = b.waits.length := by omega
      have KW := HU
      clear HU hlt
      go_wp2
      go_loopw [5] (fun i w' => ∃ k : Nat, k ≤ b.mills.length ∧ i = .int .i64 k ∧ Below W.heap.size W w' ∧ HeldM b k) (fun i _ => b.mills.length - (intOf i).toNat)
      case atStart => exact ⟨0, Nat.zero_le _, rfl, HB.out, HeldM.zero _⟩
      case round =>
        obtain ⟨k, hk, rfl, hb, hu⟩ := hrel
        clear X HB BB
        have X := Lib.hid (X0.out.below hb)
        have BB := Lib.hid (below_trans B0.out hb)
        have HB := Lib.hid hb
        have HU := Lib.hid hu
        clear hb hu
        have c5 := X.out.c5
        by_cases hlt : k < b.mills.length
        · obtain ⟨p, off, ep, hlb, d0, d1, d2, d3, d4⟩ := Mil.at X.out.book.mills k hlt
          obtain ⟨v, hv⟩ : ∃ q, sharesInV b.parts b.mills[k].name = q := ⟨_, rfl⟩
          rw [ep] at c5
          clear ep
          have e5 := Grow.cell c5
          have e6 := Grow.cell X.out.c6
          have g0 := Grow.cell d0
          have g2 := Grow.cell d2
          clear d0 d1 d2 d3 d4
          by_cases n1 : v = b.mills[k].shares
          · have HN := Lib.hid (HU.out.succ hlt (hv.trans n1))
            have hd1 : (v != b.mills[k].shares) = false := by simp [n1]
            have HV := Lib.hid hv
            clear hv n1
            go_wp2
            refine wp_region_grow (by kernel_rfl) (by kernel_rfl) ?_
            repeat (go_big_quiet_step (first | (go_at_call 68; exact grow_call (int_is HV.out) (sSharesIn_any _ _ (X.out.book.parts.below (Grow.ok _)) (by omega) HZ.out.ps))))
            refine wpQuiet_nil ?_
            intro _ hw'
            obtain ⟨gq, rfl⟩ := hw'
            have HB2 := Lib.hid (below_trans HB.out gq.ok)
            go_wp2
            go_roundw
            case rel => exact ⟨k + 1, by omega, by go_num, HB2.out, HN.out⟩
            case measure => simp [intOf]; omega
          · have HN := Lib.hid (there_m hlt (fun e => n1 (hv.symm.trans e)))
            have hd1 : (v != b.mills[k].shares) = true := by simpa using n1
            have HV := Lib.hid hv
            clear hv
            go_wp2
            refine wp_region_grow (by kernel_rfl) (by kernel_rfl) ?_
            repeat (go_big_quiet_step (first | (go_at_call 68; exact grow_call (int_is HV.out) (sSharesIn_any _ _ (X.out.book.parts.below (Grow.ok _)) (by omega) HZ.out.ps))))
            refine wpQuiet_nil ?_
            intro _ hw'
            obtain ⟨gq, rfl⟩ := hw'
            have HB2 := Lib.hid (below_trans BB.out gq.ok)
            go_wp2
            go_ret
            exact ⟨by rw [HN.out]; rfl, HB2.out⟩
        obtain rfl : k = b.mills.length := by omega
        have HN := Lib.hid (there_yes KP.out KW.out HU.out)
        go_wp2
        go_ret
        exact ⟨by rw [HN.out]; rfl, BB.out⟩
end Go.Proofs.YtlnnchgaloejlaaGreat
namespace Go.Proofs.YtlnnchgaloejlaaGreat
open Go.ChangeShapes Go.WideShapes Go.ChangeAt Go.RowKit

/-- All that is in it. -/
def totalV (b : Bok) : Int := sumP b.folk b.folk.length + sumM b.mills b.mills.length + sumA b.waits b.waits.length + b.burnt + b.pot
theorem total_bd {b : Bok} (h : listsB b = true) : (0 ≤ sumP b.folk b.folk.length ∧ sumP b.folk b.folk.length ≤ 8000000) ∧ (0 ≤ sumM b.mills b.mills.length ∧ sumM b.mills b.mills.length ≤ 4000000) ∧ (0 ≤ sumA b.waits b.waits.length ∧ sumA b.waits b.waits.length ≤ 20000000) ∧ (0 ≤ b.burnt ∧ b.burnt ≤ 1000000) ∧ (0 ≤ b.pot ∧ b.pot ≤ 1000000) := by
  obtain ⟨⟨h1, h2, h3, h4⟩, h5, h6, h7, h8⟩ := lists_all h
  obtain ⟨a1, a2, -⟩ := folk_true h1
  obtain ⟨m1, m2, -⟩ := mills_true h2
  obtain ⟨w1, w2⟩ := waits_true h4
  have q1 := sumP_bd a2 _ (Nat.le_refl _)
  have q2 := sumM_bd m2 _ (Nat.le_refl _)
  have q3 := sumA_bd w2 _ (Nat.le_refl _)
  have q4 := inB_bd h7
  have q5 := inB_bd h8
  omega

set_option maxHeartbeats 2000000 in
set_option maxRecDepth 100000 in
theorem l7Total_any {w : World} {b : Bok} {s : Spots} (h : BookAt w b s) (hf : listsB b = true) :
    Calls Tryz.prog 34 #[.agg #[.int .i64 b.season, .int .i64 b.supply, .int .i64 b.burnt, .int .i64 b.pot, .slice s.fa b.folk.length s.fc, .slice s.ma b.mills.length s.mc, .slice s.pa b.parts.length s.pc, .slice s.wa b.waits.length s.wc]] w fun e w' => e = .returned (.int .i64 (totalV b)) ∧ Below w.heap.size w w' := by
  obtain ⟨W, hW⟩ : ∃ W, w.alloc (.cells #[.int .i64 b.season, .int .i64 b.supply, .int .i64 b.burnt, .int .i64 b.pot, .slice s.fa b.folk.length s.fc, .slice s.ma b.mills.length s.mc, .slice s.pa b.parts.length s.pc, .slice s.wa b.waits.length s.wc] 29) = W := ⟨_, rfl⟩
  have X0 := Lib.hid (BoxB.new h 29)
  have B0 := Lib.hid (below_new w (.cells #[.int .i64 b.season, .int .i64 b.supply, .int .i64 b.burnt, .int .i64 b.pot, .slice s.fa b.folk.length s.fc, .slice s.ma b.mills.length s.mc, .slice s.pa b.parts.length s.pc, .slice s.wa b.waits.length s.wc] 29))
  rw [hW] at X0 B0
  have HF := Lib.hid (lists_all hf)
  obtain ⟨q1, q2, q3, q4, q5⟩ := total_bd hf
  have HT : Hid (totalV b = sumP b.folk b.folk.length + sumM b.mills b.mills.length + sumA b.waits b.waits.length + b.burnt + b.pot) := rfl
  obtain ⟨v1, e1⟩ : ∃ v, sumP b.folk b.folk.length = v := ⟨_, rfl⟩
  obtain ⟨v2, e2⟩ : ∃ v, sumM b.mills b.mills.length = v := ⟨_, rfl⟩
  obtain ⟨v3, e3⟩ : ∃ v, sumA b.waits b.waits.length = v := ⟨_, rfl⟩
  rw [e1] at q1
  rw [e2] at q2
  rw [e3] at q3
  rw [e1, e2, e3] at HT
  have E1 := Lib.hid e1
  have E2 := Lib.hid e2
  have E3 := Lib.hid e3
  clear h hf e1 e2 e3
  have g2 := Grow.cell X0.out.c2
  have g3 := Grow.cell X0.out.c3
  have g4 := Grow.cell X0.out.c4
  have g5 := Grow.cell X0.out.c5
  have g7 := Grow.cell X0.out.c7
  have s1 : IntKind.i64.wrap (v1 + v2) = v1 + v2 := IntWalk.i64_in _ (by omega)
  have s2 : IntKind.i64.wrap (v1 + v2 + v3) = v1 + v2 + v3 := IntWalk.i64_in _ (by omega)
  have s3 : IntKind.i64.wrap (v1 + v2 + v3 + b.burnt) = v1 + v2 + v3 + b.burnt := IntWalk.i64_in _ (by omega)
  have s4 : IntKind.i64.wrap (v1 + v2 + v3 + b.burnt + b.pot) = v1 + v2 + v3 + b.burnt + b.pot := IntWalk.i64_in _ (by omega)
  go_enter Tryz.func34, Tryz.ntmps34
  go_wp2
  refine wp_region_grow (by kernel_rfl) (by kernel_rfl) ?_
  repeat (go_big_quiet_step (first | (go_at_call 48; exact grow_same (int_is E1.out) (l3Free_any _ (X0.out.book.folk.below (Grow.ok _)) HF.out.1.1)) | (go_at_call 69; exact grow_same (int_is E2.out) (l4Stakes_any _ (X0.out.book.mills.below (Grow.ok _)) HF.out.1.2.1)) | (go_at_call 70; exact grow_same (int_is E3.out) (l6Amount_any _ (X0.out.book.waits.below (Grow.ok _)) HF.out.1.2.2.2))))
  refine wpQuiet_nil ?_
  intro _ hw'
  obtain ⟨gq, rfl⟩ := hw'
  have HB2 := Lib.hid (below_trans B0.out gq.ok)
  go_wp2
  go_ret
  exact ⟨by rw [HT.out]; rfl, HB2.out⟩

/-- Is it right? -/
noncomputable def bookB (b : Bok) : Bool := listsB b && (thereB b && (totalV b == b.supply))
theorem book_l {b : Bok} (h : listsB b = false) : bookB b = false := by simp [bookB, h]
theorem book_t {b : Bok} (h : thereB b = false) : bookB b = false := by simp [bookB, h]
theorem book_s {b : Bok} (h : (totalV b == b.supply) = false) : bookB b = false := by unfold bookB; rw [h]; simp
theorem book_yes {b : Bok} (h1 : listsB b = true) (h2 : thereB b = true) (h : (totalV b == b.supply) = true) : bookB b = true := by unfold bookB; rw [h1, h2, h]; rfl
theorem book_true {b : Bok} (h : bookB b = true) : listsB b = true ∧ thereB b = true ∧ totalV b = b.supply := by
  simpa [bookB] using h

set_option maxHeartbeats 4000000 in
set_option maxRecDepth 100000 in
theorem sBookOk_any {w : World} {b : Bok} {s : Spots} (h : BookAt w b s) (hl : BLen b) (hz : BSized b) :
    Calls Tryz.prog 11 #[.agg #[.int .i64 b.season, .int .i64 b.supply, .int .i64 b.burnt, .int .i64 b.pot, .slice s.fa b.folk.length s.fc, .slice s.ma b.mills.length s.mc, .slice s.pa b.parts.length s.pc, .slice s.wa b.waits.length s.wc]] w fun e w' => e = .returned (.bool (bookB b)) ∧ Below w.heap.size w w' := by
  obtain ⟨W, hW⟩ : ∃ W, w.alloc (.cells #[.int .i64 b.season, .int .i64 b.supply, .int .i64 b.burnt, .int .i64 b.pot, .slice s.fa b.folk.length s.fc, .slice s.ma b.mills.length s.mc, .slice s.pa b.parts.length s.pc, .slice s.wa b.waits.length s.wc] 29) = W := ⟨_, rfl⟩
  have X0 := Lib.hid (BoxB.new h 29)
  have B0 := Lib.hid (below_new w (.cells #[.int .i64 b.season, .int .i64 b.supply, .int .i64 b.burnt, .int .i64 b.pot, .slice s.fa b.folk.length s.fc, .slice s.ma b.mills.length s.mc, .slice s.pa b.parts.length s.pc, .slice s.wa b.waits.length s.wc] 29))
  rw [hW] at X0 B0
  have HL := Lib.hid hl
  have HZ := Lib.hid hz
  clear h hl hz
  have g0 := Grow.cell X0.out.c0
  have g1 := Grow.cell X0.out.c1
  have g2 := Grow.cell X0.out.c2
  have g3 := Grow.cell X0.out.c3
  have g4 := Grow.cell X0.out.c4
  have g5 := Grow.cell X0.out.c5
  have g6 := Grow.cell X0.out.c6
  have g7 := Grow.cell X0.out.c7
  cases h1 : listsB b
  · have HN := Lib.hid (book_l h1)
    go_enter Tryz.func11, Tryz.ntmps11
    go_wp2
    refine wp_region_grow (by kernel_rfl) (by kernel_rfl) ?_
    repeat (go_big_quiet_step (first | (go_at_call 32; exact grow_call (bool_is h1) (l7Lists_any (s := s) (X0.out.book.below (Grow.ok _)) HL.out HZ.out))))
    refine wpQuiet_nil ?_
    intro _ hw'
    obtain ⟨gq, rfl⟩ := hw'
    have HB2 := Lib.hid (below_trans B0.out gq.ok)
    go_wp2
    go_ret
    exact ⟨by rw [HN.out]; rfl, HB2.out⟩
  cases h2 : thereB b
  · have HN := Lib.hid (book_t h2)
    go_enter Tryz.func11, Tryz.ntmps11
    go_wp2
    refine wp_region_grow (by kernel_rfl) (by kernel_rfl) ?_
    repeat (go_big_quiet_step (first | (go_at_call 32; exact grow_call (bool_is h1) (l7Lists_any (s := s) (X0.out.book.below (Grow.ok _)) HL.out HZ.out)) | (go_at_call 33; exact grow_call (bool_is h2) (l7There_any (s := s) (X0.out.book.below (Grow.ok _)) HL.out HZ.out))))
    refine wpQuiet_nil ?_
    intro _ hw'
    obtain ⟨gq, rfl⟩ := hw'
    have HB2 := Lib.hid (below_trans B0.out gq.ok)
    go_wp2
    go_ret
    exact ⟨by rw [HN.out]; rfl, HB2.out⟩
  cases h3 : (totalV b == b.supply)
  · have HN := Lib.hid (book_s h3)
    go_enter Tryz.func11, Tryz.ntmps11
    go_wp2
    refine wp_region_grow (by kernel_rfl) (by kernel_rfl) ?_
    repeat (go_big_quiet_step (first | (go_at_call 32; exact grow_call (bool_is h1) (l7Lists_any (s := s) (X0.out.book.below (Grow.ok _)) HL.out HZ.out)) | (go_at_call 33; exact grow_call (bool_is h2) (l7There_any (s := s) (X0.out.book.below (Grow.ok _)) HL.out HZ.out)) | (go_at_call 34; exact grow_call rfl (l7Total_any (s := s) (X0.out.book.below (Grow.ok _)) h1))))
    refine wpQuiet_nil ?_
    intro _ hw'
    obtain ⟨gq, rfl⟩ := hw'
    have HB2 := Lib.hid (below_trans B0.out gq.ok)
    go_wp2
    go_ret
    exact ⟨by rw [HN.out]; rfl, HB2.out⟩
  · have HN := Lib.hid (book_yes h1 h2 h3)
    go_enter Tryz.func11, Tryz.ntmps11
    go_wp2
    refine wp_region_grow (by kernel_rfl) (by kernel_rfl) ?_
    repeat (go_big_quiet_step (first | (go_at_call 32; exact grow_call (bool_is h1) (l7Lists_any (s := s) (X0.out.book.below (Grow.ok _)) HL.out HZ.out)) | (go_at_call 33; exact grow_call (bool_is h2) (l7There_any (s := s) (X0.out.book.below (Grow.ok _)) HL.out HZ.out)) | (go_at_call 34; exact grow_call rfl (l7Total_any (s := s) (X0.out.book.below (Grow.ok _)) h1))))
    refine wpQuiet_nil ?_
    intro _ hw'
    obtain ⟨gq, rfl⟩ := hw'
    have HB2 := Lib.hid (below_trans B0.out gq.ok)
    go_wp2
    go_ret
    exact ⟨by rw [HN.out]; rfl, HB2.out⟩

/-- What is in it; -1 where its lists or numbers are not right. -/
noncomputable def totalOfV (b : Bok) : Int := if listsB b = true then totalV b else -1
theorem totalOf_no {b : Bok} (h : listsB b = false) : totalOfV b = -1 := by simp [totalOfV, h]
theorem totalOf_yes {b : Bok} (h : listsB b = true) : totalOfV b = totalV b := by simp [totalOfV, h]

set_option maxHeartbeats 4000000 in
set_option maxRecDepth 100000 in
theorem sTotal_any {w : World} {b : Bok} {s : Spots} (h : BookAt w b s) (hl : BLen b) (hz : BSized b) :
    Calls Tryz.prog 13 #[.agg #[.int .i64 b.season, .int .i64 b.supply, .int .i64 b.burnt, .int .i64 b.pot, .slice s.fa b.folk.length s.fc, .slice s.ma b.mills.length s.mc, .slice s.pa b.parts.length s.pc, .slice s.wa b.waits.length s.wc]] w fun e w' => e = .returned (.int .i64 (totalOfV b)) ∧ Below w.heap.size w w' := by
  have X0 := Lib.hid (BoxB.new h 29)
  have B0 := Lib.hid (below_new w (.cells #[.int .i64 b.season, .int .i64 b.supply, .int .i64 b.burnt, .int .i64 b.pot, .slice s.fa b.folk.length s.fc, .slice s.ma b.mills.length s.mc, .slice s.pa b.parts.length s.pc, .slice s.wa b.waits.length s.wc] 29))
  have HL := Lib.hid hl
  have HZ := Lib.hid hz
  clear h hl hz
  go_enter Tryz.func13, Tryz.ntmps13
  go_wp2_with fail
  refine (l7Lists_any (s := s) X0.out.book HL.out HZ.out).mono ?_
  rintro e w1 ⟨rfl, hb1⟩
  have X1 := Lib.hid (X0.out.below hb1)
  have B1 := Lib.hid (below_trans B0.out hb1)
  clear X0 B0 hb1
  cases h1 : listsB b
  · have HN := Lib.hid (totalOf_no h1)
    go_wp2
    go_ret
    exact ⟨by rw [HN.out]; rfl, B1.out⟩
  have HN := Lib.hid (totalOf_yes h1)
  have c0 := X1.out.c0
  have c1 := X1.out.c1
  have c2 := X1.out.c2
  have c3 := X1.out.c3
  have c4 := X1.out.c4
  have c5 := X1.out.c5
  have c6 := X1.out.c6
  have c7 := X1.out.c7
  go_wp2_with fail
  refine (l7Total_any (s := s) X1.out.book h1).mono ?_
  rintro e w2 ⟨rfl, hb2⟩
  have B2 := Lib.hid (below_trans B1.out hb2)
  clear hb2
  go_wp2
  go_ret
  exact ⟨by rw [HN.out]; rfl, B2.out⟩
end Go.Proofs.YtlnnchgaloejlaaGreat
