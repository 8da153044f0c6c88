/-
  Texts joined: WaitS, BookS, BookT, Facts4, PartW, WaitW, BookW, DueS, WaitT, WaitR, Impl, WaitF.
-/
import Derived.Test.YtncandoohlndnaaGreatJ3
import Derived.Maps.AppendAt
import Derived.Deep.AppendLies
import Derived.Deep.QuietTactic
import Derived.BigQuiet
import Derived.Lib.Hide
namespace Go.Proofs.YtncandoohlndnaaGreat
open Go.ChangeShapes Go.WideShapes Go.ChangeAt Go.RowKit

/-- A right one. -/
def waitB (p : Wai) : Bool := nameB p.who && (nameB p.mill && (inB 1 1000000 p.amount && inB 0 1000 p.ripe))

set_option maxHeartbeats 2000000 in
set_option maxRecDepth 100000 in
theorem l6Wait_any (p : Wai) (w : World) (h1 : p.who.size ≤ maxLen) (h2 : p.mill.size ≤ maxLen) :
    Calls Tryz.prog 83 #[.agg #[.string p.who, .string p.mill, .int .i64 p.amount, .int .i64 p.ripe]] w fun e w' => e = .returned (.bool (waitB p)) ∧ Below w.heap.size w w' := by
  have HS1 := Lib.hid h1
  have HS2 := Lib.hid h2
  clear h1 h2
  have HN : Hid (waitB p = (nameB p.who && (nameB p.mill && (inB 1 1000000 p.amount && inB 0 1000 p.ripe)))) := rfl
  cases q1 : nameB p.who
  · go_enter Tryz.func83, Tryz.ntmps83
    go_wp2_with fail
    refine (sNameOk_any p.who _ HS1.out).mono ?_
    rintro e w' ⟨rfl, rfl⟩
    rw [q1]
    go_wp2
    go_ret
    exact ⟨by rw [HN.out, q1]; rfl, below_new _ _⟩
  cases q2 : nameB p.mill
  · go_enter Tryz.func83, Tryz.ntmps83
    go_wp2_with fail
    refine (sNameOk_any p.who _ HS1.out).mono ?_
    rintro e w' ⟨rfl, rfl⟩
    rw [q1]
    go_wp2_with fail
    refine (sNameOk_any p.mill _ HS2.out).mono ?_
    rintro e w' ⟨rfl, rfl⟩
    rw [q2]
    go_wp2
    go_ret
    exact ⟨by rw [HN.out, q1, q2]; rfl, below_new _ _⟩
  cases q3 : inB 1 1000000 p.amount
  · go_enter Tryz.func83, Tryz.ntmps83
    go_wp2_with fail
    refine (sNameOk_any p.who _ HS1.out).mono ?_
    rintro e w' ⟨rfl, rfl⟩
    rw [q1]
    go_wp2_with fail
    refine (sNameOk_any p.mill _ HS2.out).mono ?_
    rintro e w' ⟨rfl, rfl⟩
    rw [q2]
    go_wp2_with fail
    refine (l1In_any _ _ _ _).mono ?_
    rintro e w' ⟨rfl, rfl⟩
    rw [q3]
    go_wp2
    go_ret
    exact ⟨by rw [HN.out, q1, q2, q3]; rfl, below_new _ _⟩
  cases q4 : inB 0 1000 p.ripe
  all_goals
    go_enter Tryz.func83, Tryz.ntmps83
    go_wp2_with fail
    refine (sNameOk_any p.who _ HS1.out).mono ?_
    rintro e w' ⟨rfl, rfl⟩
    rw [q1]
    go_wp2_with fail
    refine (sNameOk_any p.mill _ HS2.out).mono ?_
    rintro e w' ⟨rfl, rfl⟩
    rw [q2]
    go_wp2_with fail
    refine (l1In_any _ _ _ _).mono ?_
    rintro e w' ⟨rfl, rfl⟩
    rw [q3]
    go_wp2_with fail
    refine (l1In_any _ _ _ _).mono ?_
    rintro e w' ⟨rfl, rfl⟩
    rw [q4]
    go_wp2
    go_ret
    exact ⟨by rw [HN.out, q1, q2, q3, q4]; rfl, below_new _ _⟩

/-- The first n are right, and none is ripe sooner than one ahead of it. -/
def WUp (ps : List Wai) (n : Nat) : Prop := (∀ j (h : j < ps.length), j < n → waitB ps[j] = true) ∧ ∀ j (h : j + 1 < ps.length), j + 1 < n → ps[j].ripe ≤ ps[j + 1].ripe
noncomputable instance (ps : List Wai) (n : Nat) : Decidable (WUp ps n) := Classical.propDecidable _
noncomputable def waitsB (ps : List Wai) : Bool := decide (ps.length ≤ 20 ∧ WUp ps ps.length)
theorem waits_true {ps : List Wai} (h : waitsB ps = true) : ps.length ≤ 20 ∧ WUp ps ps.length := by simpa [waitsB] using h
theorem waits_yes {ps : List Wai} (h : ps.length ≤ 20) (h1 : WUp ps ps.length) : waitsB ps = true := by simp [waitsB, h, h1]
theorem waits_long {ps : List Wai} (h : ¬ ps.length ≤ 20) : waitsB ps = false := by simp [waitsB]; omega
theorem waits_not {ps : List Wai} {k : Nat} (hk : k < ps.length) (h : waitB ps[k] = false) : waitsB ps = false := by
  simp only [waitsB, decide_eq_false_iff_not]; rintro ⟨_, h1, _⟩; rw [h1 k hk hk] at h; cases h
theorem waits_fall {ps : List Wai} {k : Nat} (hk : k + 1 < ps.length) (h : ps[k + 1].ripe < ps[k].ripe) : waitsB ps = false := by
  simp only [waitsB, decide_eq_false_iff_not]; rintro ⟨_, _, h1⟩; have := h1 k hk hk; omega
theorem WUp.zero (ps : List Wai) : WUp ps 0 := ⟨fun _ _ h => by omega, fun _ _ h => by omega⟩
theorem WUp.one {ps : List Wai} (hk : 0 < ps.length) (h : waitB ps[0] = true) : WUp ps 1 :=
  ⟨fun j hj hlt => by obtain rfl : j = 0 := by omega
                      exact h, fun _ _ h => by omega⟩
theorem WUp.succ {ps : List Wai} {k : Nat} (h : WUp ps (k + 1)) (hk : k + 1 < ps.length) (h1 : waitB ps[k + 1] = true) (h2 : ps[k].ripe ≤ ps[k + 1].ripe) : WUp ps (k + 2) :=
  ⟨fun j hj hlt => by
    by_cases e : j = k + 1
    · subst e; exact h1
    · exact h.1 j hj (by omega), fun j hj hlt => by
    by_cases e : j = k
    · subst e; exact h2
    · exact h.2 j hj (by omega)⟩
def WSized (ps : List Wai) : Prop := ∀ k (h : k < ps.length), ps[k].who.size ≤ maxLen ∧ ps[k].mill.size ≤ maxLen

set_option maxHeartbeats 4000000 in
set_option maxRecDepth 100000 in
theorem sWaitsOk_any {w : World} {a : Option Addr} {ps : List Wai} (cap : Nat) (h : Recs Wai.cs w a ps) (hl : ps.length ≤ 9223372036854775807) (hs : WSized ps) :
    Calls Tryz.prog 55 #[.slice a ps.length cap] w fun e w' => e = .returned (.bool (waitsB ps)) ∧ Below w.heap.size w w' := by
  have H := Lib.hid h
  have HS := Lib.hid hs
  clear h hs
  go_enter Tryz.func55, Tryz.ntmps55
  go_wp2
  go_loopw [3] (fun i w' => ∃ (k : Nat), k ≤ ps.length ∧ i = .int .i64 k ∧ Below w.heap.size w w' ∧ WUp ps k) (fun i _ => ps.length - (intOf i).toNat)
  case atStart => exact ⟨0, Nat.zero_le _, rfl, Below.refl _ _, WUp.zero _⟩
  case round =>
    obtain ⟨k, hk, rfl, hb, hu⟩ := hrel
    have HB := Lib.hid hb
    have HU := Lib.hid hu
    clear hu hb
    by_cases hlt : k < ps.length
    · obtain ⟨b, off, rfl, hlb, c0, c1, c2, c3⟩ := Wai.at (H.out.below HB.out) k hlt
      have hz1 := Lib.hid (HS.out k hlt).1
      have hz2 := Lib.hid (HS.out k hlt).2
      have e0 := Grow.cell c0
      have e1 := Grow.cell c1
      have e2 := Grow.cell c2
      have e3 := Grow.cell c3
      cases hn : waitB ps[k]
      · have HN := Lib.hid (waits_not hlt hn)
        go_wp2
        refine wp_region_grow (by kernel_rfl) (by kernel_rfl) ?_
        repeat (go_big_quiet_step ((go_at_call 83; exact grow_call (bool_is hn) (l6Wait_any ps[k] _ hz1.out hz2.out))))
        refine wpQuiet_nil ?_
        intro _ hw'
        obtain ⟨gq, rfl⟩ := hw'
        have HB2 := Lib.hid (below_trans HB.out gq.ok)
        go_wp2
        go_ret
        exact ⟨by rw [HN.out]; rfl, HB2.out⟩
      cases k with
      | zero =>
        have HN := Lib.hid (WUp.one hlt hn)
        simp only [Nat.zero_mul, Nat.add_zero] at e0 e1 e2 e3
        go_wp2
        refine wp_region_grow (by kernel_rfl) (by kernel_rfl) ?_
        repeat (go_big_quiet_step ((go_at_call 83; exact grow_call (bool_is hn) (l6Wait_any ps[0] _ hz1.out hz2.out))))
        refine wpQuiet_nil ?_
        intro _ hw'
        obtain ⟨gq, rfl⟩ := hw'
        have HB2 := Lib.hid (below_trans HB.out gq.ok)
        go_wp2
        go_roundw
        case rel => exact ⟨1, by omega, by go_num, HB2.out, HN.out⟩
        case measure => simp [intOf]; omega
      | succ m =>
        obtain ⟨b', off', e', _, d0, d1, d2, d3⟩ := Wai.at (H.out.below HB.out) m (by omega)
        obtain ⟨rfl, rfl⟩ : b' = b ∧ off' = off := by injection e' with e'; injection e' with e1 e2; exact ⟨e1.symm, e2.symm⟩
        clear e'
        have f3 := Grow.cell d3
        cases hq : decide (ps[m + 1].ripe < ps[m].ripe)
        · have HN := Lib.hid (HU.out.succ hlt hn (by simpa using hq))
          go_wp2
          refine wp_region_grow (by kernel_rfl) (by kernel_rfl) ?_
          repeat (go_big_quiet_step ((go_at_call 83; exact grow_call (bool_is hn) (l6Wait_any ps[m + 1] _ hz1.out hz2.out))))
          refine wpQuiet_nil ?_
          intro _ hw'
          obtain ⟨gq, rfl⟩ := hw'
          have HB2 := Lib.hid (below_trans HB.out gq.ok)
          go_wp2
          go_roundw
          case rel => exact ⟨m + 2, by omega, by go_num, HB2.out, HN.out⟩
          case measure => simp [intOf]; omega
        · have HN := Lib.hid (waits_fall hlt (by simpa using hq))
          go_wp2
          refine wp_region_grow (by kernel_rfl) (by kernel_rfl) ?_
          repeat (go_big_quiet_step ((go_at_call 83; exact grow_call (bool_is hn) (l6Wait_any ps[m + 1] _ hz1.out hz2.out))))
          refine wpQuiet_nil ?_
          intro _ hw'
          obtain ⟨gq, rfl⟩ := hw'
          have HB2 := Lib.hid (below_trans HB.out gq.ok)
          go_wp2
          go_ret
          exact ⟨by rw [HN.out]; rfl, HB2.out⟩
    · obtain rfl : k = ps.length := by omega
      by_cases h20 : ps.length ≤ 20
      · have HN := Lib.hid (waits_yes h20 HU.out)
        go_wp2
        go_ret
        exact ⟨by rw [HN.out]; simp; omega, HB.out⟩
      · have HN := Lib.hid (waits_long h20)
        go_wp2
        go_ret
        exact ⟨by rw [HN.out]; simp; omega, HB.out⟩

def wai0 : Wai := ⟨ByteArray.empty, ByteArray.empty, 0, 0⟩
def watn (ps : List Wai) (j : Nat) : Wai := ps.getD j wai0
theorem watn_eq {ps : List Wai} {j : Nat} (h : j < ps.length) : watn ps j = ps[j] := by simp [watn, h]
/-- All amounts of the first k. -/
def sumA (ps : List Wai) : Nat → Int
  | 0 => 0
  | k + 1 => sumA ps k + (watn ps k).amount
noncomputable def amountInV (ps : List Wai) : Int := if waitsB ps = true then sumA ps ps.length else -1
theorem wait_bd {p : Wai} (h : waitB p = true) : (1 ≤ p.amount ∧ p.amount ≤ 1000000) ∧ 0 ≤ p.ripe ∧ p.ripe ≤ 1000 := by
  simp only [waitB, Bool.and_eq_true] at h
  obtain ⟨_, _, h1, h2⟩ := h
  simp [inB] at h1 h2; omega
theorem sumA_bd {ps : List Wai} (h : WUp ps ps.length) : ∀ k, k ≤ ps.length → 0 ≤ sumA ps k ∧ sumA ps k ≤ 1000000 * k
  | 0, _ => by simp [sumA]
  | k + 1, hk => by
    have h1 := sumA_bd h k (by omega)
    have h2 := wait_bd (h.1 k (by omega) (by omega))
    simp only [sumA, watn_eq (show k < ps.length by omega)]
    omega

set_option maxHeartbeats 1000000 in
set_option maxRecDepth 100000 in
theorem l6Amount_any {w : World} {a : Option Addr} {ps : List Wai} (cap : Nat) (h : Recs Wai.cs w a ps) (hf : waitsB ps = true) :
    Calls Tryz.prog 62 #[.slice a ps.length cap] w fun e w' => e = .returned (.int .i64 (sumA ps ps.length)) ∧ w = w' := by
  obtain ⟨h20, hm⟩ := waits_true hf
  have H := Lib.hid h
  have HM := Lib.hid hm
  clear h hm hf
  go_enter Tryz.func62, Tryz.ntmps62
  go_wp2
  go_loop [3, 4] (fun t i => ∃ k : Nat, k ≤ ps.length ∧ i = .int .i64 k ∧ t = .int .i64 (sumA ps k)) (fun _ i => ps.length - (intOf i).toNat)
  case atStart => exact ⟨0, Nat.zero_le _, rfl, rfl⟩
  case round =>
    obtain ⟨k, hk, rfl, rfl⟩ := hrel
    have hb := sumA_bd HM.out k hk
    by_cases hlt : k < ps.length
    · obtain ⟨b, off, rfl, _, c0, c1, c2, c3⟩ := Wai.at H.out k hlt
      have HN := Lib.hid (show sumA ps (k + 1) = sumA ps k + ps[k].amount by simp only [sumA, watn_eq hlt])
      have hb3 := wait_bd (HM.out.1 k hlt hlt)
      go_wp2
      go_round
      case rel => exact ⟨k + 1, by omega, by go_num, by rw [HN.out]⟩
      case measure => simp [intOf]; omega
    · obtain rfl : k = ps.length := by omega
      go_wp2
      go_ret
      exact ⟨rfl, rfl⟩

end Go.Proofs.YtncandoohlndnaaGreat
namespace Go.Proofs.YtncandoohlndnaaGreat
open Go.ChangeShapes Go.WideShapes Go.ChangeAt Go.RowKit

/-- The names of its lists are no longer than a machine's. -/
structure BSized (b : Bok) : Prop where
  fs : Sized (pnames b.folk)
  ms : Sized (mnames b.mills)
  ps : PSized b.parts
  ws : WSized b.waits
/-- Are its numbers in their range? -/
def rangeB (b : Bok) : Bool := inB 0 1000 b.season && (inB 0 1000000 b.supply && (inB 0 1000000 b.burnt && inB 0 1000000 b.pot))
/-- Are its lists right? -/
noncomputable def rightsB (b : Bok) : Bool := folkB b.folk && (millsB b.mills && (partsB b.parts && waitsB b.waits))
noncomputable def listsB (b : Bok) : Bool := rightsB b && rangeB b
section
variable {b : Bok}
theorem lists_f (h : folkB b.folk = false) : listsB b = false := by simp [listsB, rightsB, h]
theorem lists_m (h : millsB b.mills = false) : listsB b = false := by simp [listsB, rightsB, h]
theorem lists_p (h : partsB b.parts = false) : listsB b = false := by simp [listsB, rightsB, h]
theorem lists_w (h : waitsB b.waits = false) : listsB b = false := by simp [listsB, rightsB, h]
theorem lists_s (h : inB 0 1000 b.season = false) : listsB b = false := by simp [listsB, rangeB, h]
theorem lists_u (h : inB 0 1000000 b.supply = false) : listsB b = false := by simp [listsB, rangeB, h]
theorem lists_b (h : inB 0 1000000 b.burnt = false) : listsB b = false := by simp [listsB, rangeB, h]
theorem lists_o (h : inB 0 1000000 b.pot = false) : listsB b = false := by simp [listsB, rangeB, h]
theorem lists_yes (h1 : folkB b.folk = true) (h2 : millsB b.mills = true) (h3 : partsB b.parts = true) (h4 : waitsB b.waits = true) (h5 : inB 0 1000 b.season = true) (h6 : inB 0 1000000 b.supply = true) (h7 : inB 0 1000000 b.burnt = true) (h8 : inB 0 1000000 b.pot = true) : listsB b = true := by
  simp [listsB, rightsB, rangeB, h1, h2, h3, h4, h5, h6, h7, h8]
theorem lists_all (h : listsB b = true) : (folkB b.folk = true ∧ millsB b.mills = true ∧ partsB b.parts = true ∧ waitsB b.waits = true) ∧ inB 0 1000 b.season = true ∧ inB 0 1000000 b.supply = true ∧ inB 0 1000000 b.burnt = true ∧ inB 0 1000000 b.pot = true := by
  simpa [listsB, rightsB, rangeB, and_assoc] using h
end

set_option maxHeartbeats 4000000 in
set_option maxRecDepth 100000 in
theorem l7Lists_any {w : World} {b : Bok} {s : Spots} (h : BookAt w b s) (hl : BLen b) (hz : BSized b) :
    Calls Tryz.prog 33 #[.agg #[.int .i64 b.season, .int .i64 b.supply, .int .i64 b.burnt, .int .i64 b.pot, .slice s.fa b.folk.length s.fc, .slice s.ma b.mills.length s.mc, .slice s.pa b.parts.length s.pc, .slice s.wa b.waits.length s.wc]] w fun e w' => e = .returned (.bool (listsB b)) ∧ Below w.heap.size w w' := by
  have X0 := Lib.hid (BoxB.new h 35)
  have B0 := Lib.hid (below_new w (.cells #[.int .i64 b.season, .int .i64 b.supply, .int .i64 b.burnt, .int .i64 b.pot, .slice s.fa b.folk.length s.fc, .slice s.ma b.mills.length s.mc, .slice s.pa b.parts.length s.pc, .slice s.wa b.waits.length s.wc] 35))
  have HL := Lib.hid hl
  have HZ := Lib.hid hz
  clear h hl hz
  go_enter Tryz.func33, Tryz.ntmps33
  go_wp2_with fail
  refine (sFolkOk_any _ X0.out.book.folk (by have := HL.out.fl; omega) HZ.out.fs).mono ?_
  rintro e w1 ⟨rfl, n1, hw1⟩
  have X1 := Lib.hid (X0.out.draws n1)
  have B1 := Lib.hid (below_draws B0.out n1)
  rw [← hw1] at X1 B1
  clear X0 B0 hw1
  cases h1 : folkB b.folk
  · have HN := Lib.hid (lists_f h1)
    go_wp2
    go_ret
    exact ⟨by rw [HN.out]; rfl, B1.out⟩
  have c5 := X1.out.c5
  go_wp2_with fail
  refine (sMillsOk_any _ X1.out.book.mills (by have := HL.out.ml; omega) HZ.out.ms).mono ?_
  rintro e w2 ⟨rfl, hb2⟩
  have X2 := Lib.hid (X1.out.below hb2)
  have B2 := Lib.hid (below_trans B1.out hb2)
  clear X1 B1 hb2 c5
  cases h2 : millsB b.mills
  · have HN := Lib.hid (lists_m h2)
    go_wp2
    go_ret
    exact ⟨by rw [HN.out]; rfl, B2.out⟩
  have c6 := X2.out.c6
  go_wp2_with fail
  refine (sPartsOk_any _ X2.out.book.parts (by have := HL.out.pl; omega) HZ.out.ps).mono ?_
  rintro e w3 ⟨rfl, hb3⟩
  have X3 := Lib.hid (X2.out.below hb3)
  have B3 := Lib.hid (below_trans B2.out hb3)
  clear X2 B2 hb3 c6
  cases h3 : partsB b.parts
  · have HN := Lib.hid (lists_p h3)
    go_wp2
    go_ret
    exact ⟨by rw [HN.out]; rfl, B3.out⟩
  have c7 := X3.out.c7
  go_wp2_with fail
  refine (sWaitsOk_any _ X3.out.book.waits (by have := HL.out.wl; omega) HZ.out.ws).mono ?_
  rintro e w4 ⟨rfl, hb4⟩
  have X4 := Lib.hid (X3.out.below hb4)
  have B4 := Lib.hid (below_trans B3.out hb4)
  clear X3 B3 hb4 c7
  cases h4 : waitsB b.waits
  · have HN := Lib.hid (lists_w h4)
    go_wp2
    go_ret
    exact ⟨by rw [HN.out]; rfl, B4.out⟩
  have c0 := X4.out.c0
  have c1 := X4.out.c1
  have c2 := X4.out.c2
  have c3 := X4.out.c3
  go_wp2_with fail
  refine (l1In_any _ _ _ _).mono ?_
  rintro e w5 ⟨rfl, rfl⟩
  cases h5 : inB 0 1000 b.season
  · have HN := Lib.hid (lists_s h5)
    go_wp2
    go_ret
    exact ⟨by rw [HN.out]; rfl, B4.out⟩
  go_wp2_with fail
  refine (sAmountOk_any _ _).mono ?_
  rintro e w5 ⟨rfl, rfl⟩
  cases h6 : inB 0 1000000 b.supply
  · have HN := Lib.hid (lists_u h6)
    go_wp2
    go_ret
    exact ⟨by rw [HN.out]; rfl, B4.out⟩
  go_wp2_with fail
  refine (sAmountOk_any _ _).mono ?_
  rintro e w5 ⟨rfl, rfl⟩
  cases h7 : inB 0 1000000 b.burnt
  · have HN := Lib.hid (lists_b h7)
    go_wp2
    go_ret
    exact ⟨by rw [HN.out]; rfl, B4.out⟩
  go_wp2_with fail
  refine (sAmountOk_any _ _).mono ?_
  rintro e w5 ⟨rfl, rfl⟩
  cases h8 : inB 0 1000000 b.pot
  · have HN := Lib.hid (lists_o h8)
    go_wp2
    go_ret
    exact ⟨by rw [HN.out]; rfl, B4.out⟩
  have HN := Lib.hid (lists_yes h1 h2 h3 h4 h5 h6 h7 h8)
  go_wp2
  go_ret
  exact ⟨by rw [HN.out]; rfl, B4.out⟩

/-- Are they one of the folk, and one of the mills? -/
def knownB (b : Bok) (who mill : ByteArray) : Bool := decide (0 ≤ placeV (pnames b.folk) who) && decide (0 ≤ placeV (mnames b.mills) mill)
theorem known_not1 {b : Bok} {who mill : ByteArray} (h : placeV (pnames b.folk) who < 0) : knownB b who mill = false := by
  unfold knownB; rw [decide_eq_false (by omega)]; rfl
theorem known_not2 {b : Bok} {who mill : ByteArray} (h : placeV (mnames b.mills) mill < 0) : knownB b who mill = false := by
  unfold knownB; rw [decide_eq_false (p := 0 ≤ placeV (mnames b.mills) mill) (by omega), Bool.and_false]
theorem known_yes {b : Bok} {who mill : ByteArray} (h : ¬ placeV (pnames b.folk) who < 0) (h2 : ¬ placeV (mnames b.mills) mill < 0) : knownB b who mill = true := by
  unfold knownB; rw [decide_eq_true (by omega), decide_eq_true (by omega)]; rfl
theorem known_true {b : Bok} {who mill : ByteArray} (h : knownB b who mill = true) : 0 ≤ placeV (pnames b.folk) who ∧ 0 ≤ placeV (mnames b.mills) mill := by
  simpa [knownB] using h
def KnowsP (b : Bok) (n : Nat) : Prop := ∀ j (h : j < b.parts.length), j < n → knownB b b.parts[j].who b.parts[j].mill = true
def KnowsW (b : Bok) (n : Nat) : Prop := ∀ j (h : j < b.waits.length), j < n → knownB b b.waits[j].who b.waits[j].mill = true
def HeldM (b : Bok) (n : Nat) : Prop := ∀ j (h : j < b.mills.length), j < n → sharesInV b.parts b.mills[j].name = b.mills[j].shares
noncomputable def thereB (b : Bok) : Bool := @decide (KnowsP b b.parts.length ∧ KnowsW b b.waits.length ∧ HeldM b b.mills.length) (Classical.propDecidable _)
theorem KnowsP.zero (b : Bok) : KnowsP b 0 := fun _ _ h => by omega
theorem KnowsW.zero (b : Bok) : KnowsW b 0 := fun _ _ h => by omega
theorem HeldM.zero (b : Bok) : HeldM b 0 := fun _ _ h => by omega
theorem KnowsP.succ {b : Bok} {k : Nat} (h : KnowsP b k) (hk : k < b.parts.length) (h1 : knownB b b.parts[k].who b.parts[k].mill = true) : KnowsP b (k + 1) := fun j hj hlt => by
  by_cases e : j = k
  · subst e; exact h1
  · exact h j hj (by omega)
theorem KnowsW.succ {b : Bok} {k : Nat} (h : KnowsW b k) (hk : k < b.waits.length) (h1 : knownB b b.waits[k].who b.waits[k].mill = true) : KnowsW b (k + 1) := fun j hj hlt => by
  by_cases e : j = k
  · subst e; exact h1
  · exact h j hj (by omega)
theorem HeldM.succ {b : Bok} {k : Nat} (h : HeldM b k) (hk : k < b.mills.length) (h1 : sharesInV b.parts b.mills[k].name = b.mills[k].shares) : HeldM b (k + 1) := fun j hj hlt => by
  by_cases e : j = k
  · subst e; exact h1
  · exact h j hj (by omega)
theorem there_true {b : Bok} (h : thereB b = true) : KnowsP b b.parts.length ∧ KnowsW b b.waits.length ∧ HeldM b b.mills.length := by
  unfold thereB at h; exact @of_decide_eq_true _ (Classical.propDecidable _) h
theorem there_yes {b : Bok} (h1 : KnowsP b b.parts.length) (h2 : KnowsW b b.waits.length) (h3 : HeldM b b.mills.length) : thereB b = true := by
  unfold thereB; exact @decide_eq_true _ (Classical.propDecidable _) ⟨h1, h2, h3⟩
theorem there_no {b : Bok} (h : ¬ (KnowsP b b.parts.length ∧ KnowsW b b.waits.length ∧ HeldM b b.mills.length)) : thereB b = false := by
  unfold thereB; exact @decide_eq_false _ (Classical.propDecidable _) h
theorem there_p {b : Bok} {k : Nat} (hk : k < b.parts.length) (h : knownB b b.parts[k].who b.parts[k].mill = false) : thereB b = false :=
  there_no fun ⟨h1, _, _⟩ => by rw [h1 k hk hk] at h; cases h
theorem there_w {b : Bok} {k : Nat} (hk : k < b.waits.length) (h : knownB b b.waits[k].who b.waits[k].mill = false) : thereB b = false :=
  there_no fun ⟨_, h1, _⟩ => by rw [h1 k hk hk] at h; cases h
theorem there_m {b : Bok} {k : Nat} (hk : k < b.mills.length) (h : sharesInV b.parts b.mills[k].name ≠ b.mills[k].shares) : thereB b = false :=
  there_no fun ⟨_, _, h1⟩ => h (h1 k hk hk)

set_option maxHeartbeats 8000000 in
set_option maxRecDepth 100000 in
theorem l7There_any {w : World} {b : Bok} {s : Spots} (h : BookAt w b s) (hl : BLen b) (hz : BSized b) :
    Calls Tryz.prog 34 #[.agg #[.int .i64 b.season, .int .i64 b.supply, .int .i64 b.burnt, .int .i64 b.pot, .slice s.fa b.folk.length s.fc, .slice s.ma b.mills.length s.mc, .slice s.pa b.parts.length s.pc, .slice s.wa b.waits.length s.wc]] w fun e w' => e = .returned (.bool (thereB b)) ∧ Below w.heap.size w w' := by
  obtain ⟨W, hW⟩ : ∃ W, w.alloc (.cells #[.int .i64 b.season, .int .i64 b.supply, .int .i64 b.burnt, .int .i64 b.pot, .slice s.fa b.folk.length s.fc, .slice s.ma b.mills.length s.mc, .slice s.pa b.parts.length s.pc, .slice s.wa b.waits.length s.wc] 35) = W := ⟨_, rfl⟩
  have X0 := Lib.hid (BoxB.new h 35)
  have B0 := Lib.hid (below_new w (.cells #[.int .i64 b.season, .int .i64 b.supply, .int .i64 b.burnt, .int .i64 b.pot, .slice s.fa b.folk.length s.fc, .slice s.ma b.mills.length s.mc, .slice s.pa b.parts.length s.pc, .slice s.wa b.waits.length s.wc] 35))
  rw [hW] at X0 B0
  have HL := Lib.hid hl
  have HZ := Lib.hid hz
  have l1 := hl.fl
  have l2 := hl.ml
  have l3 := hl.pl
  have l4 := hl.wl
  clear h hl hz
  go_enter Tryz.func34, Tryz.ntmps34
  go_wp2
  go_loopw [3] (fun i w' => ∃ k : Nat, k ≤ b.parts.length ∧ i = .int .i64 k ∧ Below W.heap.size W w' ∧ KnowsP b k) (fun i _ => b.parts.length - (intOf i).toNat)
  case atStart => exact ⟨0, Nat.zero_le _, rfl, Below.refl _ _, KnowsP.zero _⟩
  case round =>
    obtain ⟨k, hk, rfl, hb, hu⟩ := hrel
    have X := Lib.hid (X0.out.below hb)
    have BB := Lib.hid (below_trans B0.out hb)
    have HB := Lib.hid hb
    have HU := Lib.hid hu
    clear hb hu
    have c6 := X.out.c6
    by_cases hlt : k < b.parts.length
    · obtain ⟨p, off, ep, hlb, d0, d1, d2⟩ := Par.at X.out.book.parts k hlt
      obtain ⟨q1, hq1⟩ : ∃ q, placeV (pnames b.folk) b.parts[k].who = q := ⟨_, rfl⟩
      obtain ⟨q2, hq2⟩ : ∃ q, placeV (mnames b.mills) b.parts[k].mill = q := ⟨_, rfl⟩
      rw [ep] at c6
      clear ep
      have e4 := Grow.cell X.out.c4
      have e5 := Grow.cell X.out.c5
      have e6 := Grow.cell c6
      have g0 := Grow.cell d0
      have g1 := Grow.cell d1
      clear d0 d1 d2
      by_cases n1 : q1 < 0
      · have HN := Lib.hid (there_p hlt (known_not1 (by omega)))
        have hd1 := decide_eq_true n1
        go_wp2
        refine wp_region_grow (by kernel_rfl) (by kernel_rfl) ?_
        repeat (go_big_quiet_step (first | (go_at_call 14; exact grow_same (int_is hq1) (l3Find_any _ _ (X.out.book.folk.below (Grow.ok _)) (by omega)))))
        refine wpQuiet_nil ?_
        intro _ hw'
        obtain ⟨gq, rfl⟩ := hw'
        have HB2 := Lib.hid (below_trans BB.out gq.ok)
        go_wp2
        go_ret
        exact ⟨by rw [HN.out]; rfl, HB2.out⟩
      have hd1 := decide_eq_false n1
      by_cases n2 : q2 < 0
      · have HN := Lib.hid (there_p hlt (known_not2 (by omega)))
        have hd2 := decide_eq_true n2
        go_wp2
        refine wp_region_grow (by kernel_rfl) (by kernel_rfl) ?_
        repeat (go_big_quiet_step (first | (go_at_call 14; exact grow_same (int_is hq1) (l3Find_any _ _ (X.out.book.folk.below (Grow.ok _)) (by omega))) | (go_at_call 58; exact grow_same (int_is hq2) (l4Find_any _ _ (X.out.book.mills.below (Grow.ok _)) (by omega)))))
        refine wpQuiet_nil ?_
        intro _ hw'
        obtain ⟨gq, rfl⟩ := hw'
        have HB2 := Lib.hid (below_trans BB.out gq.ok)
        go_wp2
        go_ret
        exact ⟨by rw [HN.out]; rfl, HB2.out⟩
      have hd2 := decide_eq_false n2
      have HN := Lib.hid (HU.out.succ hlt (known_yes (by omega) (by omega)))
      go_wp2
      refine wp_region_grow (by kernel_rfl) (by kernel_rfl) ?_
      repeat (go_big_quiet_step (first | (go_at_call 14; exact grow_same (int_is hq1) (l3Find_any _ _ (X.out.book.folk.below (Grow.ok _)) (by omega))) | (go_at_call 58; exact grow_same (int_is hq2) (l4Find_any _ _ (X.out.book.mills.below (Grow.ok _)) (by omega)))))
      refine wpQuiet_nil ?_
      intro _ hw'
      obtain ⟨gq, rfl⟩ := hw'
      have HB2 := Lib.hid (below_trans HB.out gq.ok)
      go_wp2
      go_roundw
      case rel => exact ⟨k + 1, by omega, by go_num, HB2.out, HN.out⟩
      case measure => simp [intOf]; omega
    obtain rfl : k = b.parts.length := by omega
    have KP := HU
    clear HU hlt
    go_wp2
    go_loopw [4] (fun i w' => ∃ k : Nat, k ≤ b.waits.length ∧ i = .int .i64 k ∧ Below W.heap.size W w' ∧ KnowsW b k) (fun i _ => b.waits.length - (intOf i).toNat)
    case atStart => exact ⟨0, Nat.zero_le _, rfl, HB.out, KnowsW.zero _⟩
    case round =>
      obtain ⟨k, hk, rfl, hb, hu⟩ := hrel
      clear X HB BB
      have X := Lib.hid (X0.out.below hb)
      have BB := Lib.hid (below_trans B0.out hb)
      have HB := Lib.hid hb
      have HU := Lib.hid hu
      clear hb hu
      have c7 := X.out.c7
      by_cases hlt : k < b.waits.length
      · obtain ⟨p, off, ep, hlb, d0, d1, d2, d3⟩ := Wai.at X.out.book.waits k hlt
        obtain ⟨q1, hq1⟩ : ∃ q, placeV (pnames b.folk) b.waits[k].who = q := ⟨_, rfl⟩
        obtain ⟨q2, hq2⟩ : ∃ q, placeV (mnames b.mills) b.waits[k].mill = q := ⟨_, rfl⟩
        rw [ep] at c7
        clear ep
        have e4 := Grow.cell X.out.c4
        have e5 := Grow.cell X.out.c5
        have e6 := Grow.cell c7
        have g0 := Grow.cell d0
        have g1 := Grow.cell d1
        clear d0 d1 d2 d3
        by_cases n1 : q1 < 0
        · have HN := Lib.hid (there_w hlt (known_not1 (by omega)))
          have hd1 := decide_eq_true n1
          go_wp2
          refine wp_region_grow (by kernel_rfl) (by kernel_rfl) ?_
          repeat (go_big_quiet_step (first | (go_at_call 14; exact grow_same (int_is hq1) (l3Find_any _ _ (X.out.book.folk.below (Grow.ok _)) (by omega)))))
          refine wpQuiet_nil ?_
          intro _ hw'
          obtain ⟨gq, rfl⟩ := hw'
          have HB2 := Lib.hid (below_trans BB.out gq.ok)
          go_wp2
          go_ret
          exact ⟨by rw [HN.out]; rfl, HB2.out⟩
        have hd1 := decide_eq_false n1
        by_cases n2 : q2 < 0
        · have HN := Lib.hid (there_w hlt (known_not2 (by omega)))
          have hd2 := decide_eq_true n2
          go_wp2
          refine wp_region_grow (by kernel_rfl) (by kernel_rfl) ?_
          repeat (go_big_quiet_step (first | (go_at_call 14; exact grow_same (int_is hq1) (l3Find_any _ _ (X.out.book.folk.below (Grow.ok _)) (by omega))) | (go_at_call 58; exact grow_same (int_is hq2) (l4Find_any _ _ (X.out.book.mills.below (Grow.ok _)) (by omega)))))
          refine wpQuiet_nil ?_
          intro _ hw'
          obtain ⟨gq, rfl⟩ := hw'
          have HB2 := Lib.hid (below_trans BB.out gq.ok)
          go_wp2
          go_ret
          exact ⟨by rw [HN.out]; rfl, HB2.out⟩
        have hd2 := decide_eq_false n2
        have HN := Lib.hid (HU.out.succ hlt (known_yes (by omega) (by omega)))
        go_wp2
        refine wp_region_grow (by kernel_rfl) (by kernel_rfl) ?_
        repeat (go_big_quiet_step (first | (go_at_call 14; exact grow_same (int_is hq1) (l3Find_any _ _ (X.out.book.folk.below (Grow.ok _)) (by omega))) | (go_at_call 58; exact grow_same (int_is hq2) (l4Find_any _ _ (X.out.book.mills.below (Grow.ok _)) (by omega)))))
        refine wpQuiet_nil ?_
        intro _ hw'
        obtain ⟨gq, rfl⟩ := hw'
        have HB2 := Lib.hid (below_trans HB.out gq.ok)
        go_wp2
        go_roundw
        case rel => exact ⟨k + 1, by omega, by go_num, HB2.out, HN.out⟩
        case measure => simp [intOf]; omega
      obtain rfl : k = b.waits.length := by omega
      have KW := HU
      clear HU hlt
      go_wp2
      go_loopw [5] (fun i w' => ∃ k : Nat, k ≤ b.mills.length ∧ i = .int .i64 k ∧ Below W.heap.size W w' ∧ HeldM b k) (fun i _ => b.mills.length - (intOf i).toNat)
      case atStart => exact ⟨0, Nat.zero_le _, rfl, HB.out, HeldM.zero _⟩
      case round =>
        obtain ⟨k, hk, rfl, hb, hu⟩ := hrel
        clear X HB BB
        have X := Lib.hid (X0.out.below hb)
        have BB := Lib.hid (below_trans B0.out hb)
        have HB := Lib.hid hb
        have HU := Lib.hid hu
        clear hb hu
        have c5 := X.out.c5
        by_cases hlt : k < b.mills.length
        · obtain ⟨p, off, ep, hlb, d0, d1, d2, d3, d4⟩ := Mil.at X.out.book.mills k hlt
          obtain ⟨v, hv⟩ : ∃ q, sharesInV b.parts b.mills[k].name = q := ⟨_, rfl⟩
          rw [ep] at c5
          clear ep
          have e5 := Grow.cell c5
          have e6 := Grow.cell X.out.c6
          have g0 := Grow.cell d0
          have g2 := Grow.cell d2
          clear d0 d1 d2 d3 d4
          by_cases n1 : v = b.mills[k].shares
          · have HN := Lib.hid (HU.out.succ hlt (hv.trans n1))
            have hd1 : (v != b.mills[k].shares) = false := by simp [n1]
            have HV := Lib.hid hv
            clear hv n1
            go_wp2
            refine wp_region_grow (by kernel_rfl) (by kernel_rfl) ?_
            repeat (go_big_quiet_step (first | (go_at_call 59; exact grow_call (int_is HV.out) (sSharesIn_any _ _ (X.out.book.parts.below (Grow.ok _)) (by omega) HZ.out.ps))))
            refine wpQuiet_nil ?_
            intro _ hw'
            obtain ⟨gq, rfl⟩ := hw'
            have HB2 := Lib.hid (below_trans HB.out gq.ok)
            go_wp2
            go_roundw
            case rel => exact ⟨k + 1, by omega, by go_num, HB2.out, HN.out⟩
            case measure => simp [intOf]; omega
          · have HN := Lib.hid (there_m hlt (fun e => n1 (hv.symm.trans e)))
            have hd1 : (v != b.mills[k].shares) = true := by simpa using n1
            have HV := Lib.hid hv
            clear hv
            go_wp2
            refine wp_region_grow (by kernel_rfl) (by kernel_rfl) ?_
            repeat (go_big_quiet_step (first | (go_at_call 59; exact grow_call (int_is HV.out) (sSharesIn_any _ _ (X.out.book.parts.below (Grow.ok _)) (by omega) HZ.out.ps))))
            refine wpQuiet_nil ?_
            intro _ hw'
            obtain ⟨gq, rfl⟩ := hw'
            have HB2 := Lib.hid (below_trans BB.out gq.ok)
            go_wp2
            go_ret
            exact ⟨by rw [HN.out]; rfl, HB2.out⟩
        obtain rfl : k = b.mills.length := by omega
        have HN := Lib.hid (there_yes KP.out KW.out HU.out)
        go_wp2
        go_ret
        exact ⟨by rw [HN.out]; rfl, BB.out⟩
end Go.Proofs.YtncandoohlndnaaGreat
namespace Go.Proofs.YtncandoohlndnaaGreat
open Go.ChangeShapes Go.WideShapes Go.ChangeAt Go.RowKit

/-- All that is in it. -/
def totalV (b : Bok) : Int := sumP b.folk b.folk.length + sumM b.mills b.mills.length + sumA b.waits b.waits.length + b.burnt + b.pot
theorem total_bd {b : Bok} (h : listsB b = true) : (0 ≤ sumP b.folk b.folk.length ∧ sumP b.folk b.folk.length ≤ 8000000) ∧ (0 ≤ sumM b.mills b.mills.length ∧ sumM b.mills b.mills.length ≤ 4000000) ∧ (0 ≤ sumA b.waits b.waits.length ∧ sumA b.waits b.waits.length ≤ 20000000) ∧ (0 ≤ b.burnt ∧ b.burnt ≤ 1000000) ∧ (0 ≤ b.pot ∧ b.pot ≤ 1000000) := by
  obtain ⟨⟨h1, h2, h3, h4⟩, h5, h6, h7, h8⟩ := lists_all h
  obtain ⟨a1, a2, -⟩ := folk_true h1
  obtain ⟨m1, m2, -⟩ := mills_true h2
  obtain ⟨w1, w2⟩ := waits_true h4
  have q1 := sumP_bd a2 _ (Nat.le_refl _)
  have q2 := sumM_bd m2 _ (Nat.le_refl _)
  have q3 := sumA_bd w2 _ (Nat.le_refl _)
  have q4 := inB_bd h7
  have q5 := inB_bd h8
  omega

set_option maxHeartbeats 2000000 in
set_option maxRecDepth 100000 in
theorem l7Total_any {w : World} {b : Bok} {s : Spots} (h : BookAt w b s) (hf : listsB b = true) :
    Calls Tryz.prog 35 #[.agg #[.int .i64 b.season, .int .i64 b.supply, .int .i64 b.burnt, .int .i64 b.pot, .slice s.fa b.folk.length s.fc, .slice s.ma b.mills.length s.mc, .slice s.pa b.parts.length s.pc, .slice s.wa b.waits.length s.wc]] w fun e w' => e = .returned (.int .i64 (totalV b)) ∧ Below w.heap.size w w' := by
  obtain ⟨W, hW⟩ : ∃ W, w.alloc (.cells #[.int .i64 b.season, .int .i64 b.supply, .int .i64 b.burnt, .int .i64 b.pot, .slice s.fa b.folk.length s.fc, .slice s.ma b.mills.length s.mc, .slice s.pa b.parts.length s.pc, .slice s.wa b.waits.length s.wc] 35) = W := ⟨_, rfl⟩
  have X0 := Lib.hid (BoxB.new h 35)
  have B0 := Lib.hid (below_new w (.cells #[.int .i64 b.season, .int .i64 b.supply, .int .i64 b.burnt, .int .i64 b.pot, .slice s.fa b.folk.length s.fc, .slice s.ma b.mills.length s.mc, .slice s.pa b.parts.length s.pc, .slice s.wa b.waits.length s.wc] 35))
  rw [hW] at X0 B0
  have HF := Lib.hid (lists_all hf)
  obtain ⟨q1, q2, q3, q4, q5⟩ := total_bd hf
  have HT : Hid (totalV b = sumP b.folk b.folk.length + sumM b.mills b.mills.length + sumA b.waits b.waits.length + b.burnt + b.pot) := rfl
  obtain ⟨v1, e1⟩ : ∃ v, sumP b.folk b.folk.length = v := ⟨_, rfl⟩
  obtain ⟨v2, e2⟩ : ∃ v, sumM b.mills b.mills.length = v := ⟨_, rfl⟩
  obtain ⟨v3, e3⟩ : ∃ v, sumA b.waits b.waits.length = v := ⟨_, rfl⟩
  rw [e1] at q1
  rw [e2] at q2
  rw [e3] at q3
  rw [e1, e2, e3] at HT
  have E1 := Lib.hid e1
  have E2 := Lib.hid e2
  have E3 := Lib.hid e3
  clear h hf e1 e2 e3
  have g2 := Grow.cell X0.out.c2
  have g3 := Grow.cell X0.out.c3
  have g4 := Grow.cell X0.out.c4
  have g5 := Grow.cell X0.out.c5
  have g7 := Grow.cell X0.out.c7
  have s1 : IntKind.i64.wrap (v1 + v2) = v1 + v2 := IntWalk.i64_in _ (by omega)
  have s2 : IntKind.i64.wrap (v1 + v2 + v3) = v1 + v2 + v3 := IntWalk.i64_in _ (by omega)
  have s3 : IntKind.i64.wrap (v1 + v2 + v3 + b.burnt) = v1 + v2 + v3 + b.burnt := IntWalk.i64_in _ (by omega)
  have s4 : IntKind.i64.wrap (v1 + v2 + v3 + b.burnt + b.pot) = v1 + v2 + v3 + b.burnt + b.pot := IntWalk.i64_in _ (by omega)
  go_enter Tryz.func35, Tryz.ntmps35
  go_wp2
  refine wp_region_grow (by kernel_rfl) (by kernel_rfl) ?_
  repeat (go_big_quiet_step (first | (go_at_call 60; exact grow_same (int_is E1.out) (l3Free_any _ (X0.out.book.folk.below (Grow.ok _)) HF.out.1.1)) | (go_at_call 61; exact grow_same (int_is E2.out) (l4Stakes_any _ (X0.out.book.mills.below (Grow.ok _)) HF.out.1.2.1)) | (go_at_call 62; exact grow_same (int_is E3.out) (l6Amount_any _ (X0.out.book.waits.below (Grow.ok _)) HF.out.1.2.2.2))))
  refine wpQuiet_nil ?_
  intro _ hw'
  obtain ⟨gq, rfl⟩ := hw'
  have HB2 := Lib.hid (below_trans B0.out gq.ok)
  go_wp2
  go_ret
  exact ⟨by rw [HT.out]; rfl, HB2.out⟩

/-- Is it right? -/
noncomputable def bookB (b : Bok) : Bool := listsB b && (thereB b && (totalV b == b.supply))
theorem book_l {b : Bok} (h : listsB b = false) : bookB b = false := by simp [bookB, h]
theorem book_t {b : Bok} (h : thereB b = false) : bookB b = false := by simp [bookB, h]
theorem book_s {b : Bok} (h : (totalV b == b.supply) = false) : bookB b = false := by unfold bookB; rw [h]; simp
theorem book_yes {b : Bok} (h1 : listsB b = true) (h2 : thereB b = true) (h : (totalV b == b.supply) = true) : bookB b = true := by unfold bookB; rw [h1, h2, h]; rfl
theorem book_true {b : Bok} (h : bookB b = true) : listsB b = true ∧ thereB b = true ∧ totalV b = b.supply := by
  simpa [bookB] using h

set_option maxHeartbeats 4000000 in
set_option maxRecDepth 100000 in
theorem sBookOk_any {w : World} {b : Bok} {s : Spots} (h : BookAt w b s) (hl : BLen b) (hz : BSized b) :
    Calls Tryz.prog 13 #[.agg #[.int .i64 b.season, .int .i64 b.supply, .int .i64 b.burnt, .int .i64 b.pot, .slice s.fa b.folk.length s.fc, .slice s.ma b.mills.length s.mc, .slice s.pa b.parts.length s.pc, .slice s.wa b.waits.length s.wc]] w fun e w' => e = .returned (.bool (bookB b)) ∧ Below w.heap.size w w' := by
  obtain ⟨W, hW⟩ : ∃ W, w.alloc (.cells #[.int .i64 b.season, .int .i64 b.supply, .int .i64 b.burnt, .int .i64 b.pot, .slice s.fa b.folk.length s.fc, .slice s.ma b.mills.length s.mc, .slice s.pa b.parts.length s.pc, .slice s.wa b.waits.length s.wc] 35) = W := ⟨_, rfl⟩
  have X0 := Lib.hid (BoxB.new h 35)
  have B0 := Lib.hid (below_new w (.cells #[.int .i64 b.season, .int .i64 b.supply, .int .i64 b.burnt, .int .i64 b.pot, .slice s.fa b.folk.length s.fc, .slice s.ma b.mills.length s.mc, .slice s.pa b.parts.length s.pc, .slice s.wa b.waits.length s.wc] 35))
  rw [hW] at X0 B0
  have HL := Lib.hid hl
  have HZ := Lib.hid hz
  clear h hl hz
  have g0 := Grow.cell X0.out.c0
  have g1 := Grow.cell X0.out.c1
  have g2 := Grow.cell X0.out.c2
  have g3 := Grow.cell X0.out.c3
  have g4 := Grow.cell X0.out.c4
  have g5 := Grow.cell X0.out.c5
  have g6 := Grow.cell X0.out.c6
  have g7 := Grow.cell X0.out.c7
  cases h1 : listsB b
  · have HN := Lib.hid (book_l h1)
    go_enter Tryz.func13, Tryz.ntmps13
    go_wp2
    refine wp_region_grow (by kernel_rfl) (by kernel_rfl) ?_
    repeat (go_big_quiet_step (first | (go_at_call 33; exact grow_call (bool_is h1) (l7Lists_any (s := s) (X0.out.book.below (Grow.ok _)) HL.out HZ.out))))
    refine wpQuiet_nil ?_
    intro _ hw'
    obtain ⟨gq, rfl⟩ := hw'
    have HB2 := Lib.hid (below_trans B0.out gq.ok)
    go_wp2
    go_ret
    exact ⟨by rw [HN.out]; rfl, HB2.out⟩
  cases h2 : thereB b
  · have HN := Lib.hid (book_t h2)
    go_enter Tryz.func13, Tryz.ntmps13
    go_wp2
    refine wp_region_grow (by kernel_rfl) (by kernel_rfl) ?_
    repeat (go_big_quiet_step (first | (go_at_call 33; exact grow_call (bool_is h1) (l7Lists_any (s := s) (X0.out.book.below (Grow.ok _)) HL.out HZ.out)) | (go_at_call 34; exact grow_call (bool_is h2) (l7There_any (s := s) (X0.out.book.below (Grow.ok _)) HL.out HZ.out))))
    refine wpQuiet_nil ?_
    intro _ hw'
    obtain ⟨gq, rfl⟩ := hw'
    have HB2 := Lib.hid (below_trans B0.out gq.ok)
    go_wp2
    go_ret
    exact ⟨by rw [HN.out]; rfl, HB2.out⟩
  cases h3 : (totalV b == b.supply)
  · have HN := Lib.hid (book_s h3)
    go_enter Tryz.func13, Tryz.ntmps13
    go_wp2
    refine wp_region_grow (by kernel_rfl) (by kernel_rfl) ?_
    repeat (go_big_quiet_step (first | (go_at_call 33; exact grow_call (bool_is h1) (l7Lists_any (s := s) (X0.out.book.below (Grow.ok _)) HL.out HZ.out)) | (go_at_call 34; exact grow_call (bool_is h2) (l7There_any (s := s) (X0.out.book.below (Grow.ok _)) HL.out HZ.out)) | (go_at_call 35; exact grow_call rfl (l7Total_any (s := s) (X0.out.book.below (Grow.ok _)) h1))))
    refine wpQuiet_nil ?_
    intro _ hw'
    obtain ⟨gq, rfl⟩ := hw'
    have HB2 := Lib.hid (below_trans B0.out gq.ok)
    go_wp2
    go_ret
    exact ⟨by rw [HN.out]; rfl, HB2.out⟩
  · have HN := Lib.hid (book_yes h1 h2 h3)
    go_enter Tryz.func13, Tryz.ntmps13
    go_wp2
    refine wp_region_grow (by kernel_rfl) (by kernel_rfl) ?_
    repeat (go_big_quiet_step (first | (go_at_call 33; exact grow_call (bool_is h1) (l7Lists_any (s := s) (X0.out.book.below (Grow.ok _)) HL.out HZ.out)) | (go_at_call 34; exact grow_call (bool_is h2) (l7There_any (s := s) (X0.out.book.below (Grow.ok _)) HL.out HZ.out)) | (go_at_call 35; exact grow_call rfl (l7Total_any (s := s) (X0.out.book.below (Grow.ok _)) h1))))
    refine wpQuiet_nil ?_
    intro _ hw'
    obtain ⟨gq, rfl⟩ := hw'
    have HB2 := Lib.hid (below_trans B0.out gq.ok)
    go_wp2
    go_ret
    exact ⟨by rw [HN.out]; rfl, HB2.out⟩

/-- What is in it; -1 where its lists or numbers are not right. -/
noncomputable def totalOfV (b : Bok) : Int := if listsB b = true then totalV b else -1
theorem totalOf_no {b : Bok} (h : listsB b = false) : totalOfV b = -1 := by simp [totalOfV, h]
theorem totalOf_yes {b : Bok} (h : listsB b = true) : totalOfV b = totalV b := by simp [totalOfV, h]

end Go.Proofs.YtncandoohlndnaaGreat
namespace Go.Proofs.YtncandoohlndnaaGreat
open Go.ChangeShapes Go.WideShapes Go.ChangeAt Go.RowKit

theorem okD_of_bd {a b c : Int} (h1 : 0 ≤ a) (h2 : a ≤ 1000000000) (h3 : 0 ≤ b) (h4 : b ≤ 1000000000) (h5 : 1 ≤ c) (h6 : c ≤ 1000000000) : okD a b c = true := by
  simp only [okD, Bool.and_eq_true]
  exact ⟨inB_of h1 h2, inB_of h3 h4, inB_of h5 h6⟩
theorem downV_eq {a b c : Int} (h1 : 0 ≤ a) (h2 : a ≤ 1000000000) (h3 : 0 ≤ b) (h4 : b ≤ 1000000000) (h5 : 1 ≤ c) (h6 : c ≤ 1000000000) : downV a b c = a * b / c := by
  rw [downV, if_pos (okD_of_bd h1 h2 h3 h4 h5 h6)]
/-- Down, by c again, is no more than what is exact, and c more is more. -/
theorem floor_bd {p c : Int} (h : 1 ≤ c) : p / c * c ≤ p ∧ p < (p / c + 1) * c := by
  have h1 := Int.mul_ediv_add_emod p c
  have h2 := Int.emod_nonneg p (show c ≠ 0 by omega)
  have h3 := Int.emod_lt_of_pos p (show 0 < c by omega)
  have h4 : c * (p / c) = p / c * c := Int.mul_comm _ _
  rw [Int.add_mul, Int.one_mul]
  omega
theorem floor_le {p c q : Int} (h : 1 ≤ c) (hp : p < (q + 1) * c) : p / c ≤ q := by
  have := Int.ediv_lt_of_lt_mul (show 0 < c by omega) hp
  omega

theorem worth_neg {m : Mil} {n : Int} (h : worthV m n < 0) : worthV m n = -1 := by
  unfold worthV at h ⊢
  split at h
  · rename_i hb
    rw [if_pos hb]
    simp only [Bool.and_eq_true] at hb
    obtain ⟨hm, hn⟩ := hb
    have hp := millB_parts hm
    have hn' := inB_true hn
    split at h
    · omega
    · rename_i hz
      rw [downV_eq (by omega) (by omega) (by omega) (by omega) (by omega) (by omega)] at h
      have := Int.ediv_nonneg (Int.mul_nonneg (show 0 ≤ n by omega) (show 0 ≤ m.stake by omega)) (show 0 ≤ m.shares by omega)
      omega
  · rename_i hb
    rw [if_neg hb]
theorem worth_ok {m : Mil} {n : Int} (h : ¬ worthV m n < 0) : millB m = true ∧ 0 ≤ n ∧ n ≤ m.shares := by
  unfold worthV at h
  split at h
  · rename_i hb
    simp only [Bool.and_eq_true] at hb
    have := inB_true hb.2
    exact ⟨hb.1, by omega, by omega⟩
  · omega
/-- So much it is, where there are shares. -/
theorem worth_eq {m : Mil} {n : Int} (hm : millB m = true) (h0 : 0 ≤ n) (h1 : n ≤ m.shares) : worthV m n = if m.shares = 0 then 0 else n * m.stake / m.shares := by
  have hp := millB_parts hm
  rw [worthV, if_pos (by rw [hm, inB_of h0 h1]; rfl)]
  split
  · rfl
  · exact downV_eq (by omega) (by omega) (by omega) (by omega) (by omega) (by omega)

/-- All shares are worth the stake; parts of them no more than that together; what is left is no cheaper. -/
theorem worth_facts {m : Mil} {n : Int} (h : ¬ worthV m n < 0) :
    0 ≤ worthV m n ∧ worthV m n ≤ m.stake ∧ worthV m m.shares = m.stake ∧ worthV m n + worthV m (m.shares - n) ≤ m.stake ∧ 0 ≤ worthV m (m.shares - n) ∧
    ∀ (s : ByteArray) (c : Int) (b : Bool), cheapB ⟨s, m.stake - worthV m n, m.shares - n, c, b⟩ m = false := by
  obtain ⟨hm, h0, h1⟩ := worth_ok h
  have hp := millB_parts hm
  rw [worth_eq hm h0 h1, worth_eq hm (show 0 ≤ m.shares by omega) (Int.le_refl _), worth_eq hm (show 0 ≤ m.shares - n by omega) (by omega)]
  by_cases hz : m.shares = 0
  · rw [if_pos hz, if_pos hz, if_pos hz]
    refine ⟨by omega, by omega, by omega, by omega, by omega, fun s c b => ?_⟩
    simp [cheapB, hz]
  · rw [if_neg hz, if_neg hz, if_neg hz]
    have hS : 1 ≤ m.shares := by omega
    have f1 := floor_bd (p := n * m.stake) hS
    have f2 := floor_bd (p := (m.shares - n) * m.stake) hS
    have e1 : (m.shares - n) * m.stake = m.shares * m.stake - n * m.stake := Int.sub_mul _ _ _
    have e2 : m.shares * m.stake / m.shares = m.stake := Int.mul_ediv_cancel_left _ hz
    have hn0 : 0 ≤ n * m.stake := Int.mul_nonneg h0 (by omega)
    have hn1 : 0 ≤ (m.shares - n) * m.stake := Int.mul_nonneg (by omega) (by omega)
    have hw0 : 0 ≤ n * m.stake / m.shares := Int.ediv_nonneg hn0 (by omega)
    have hw1 : 0 ≤ (m.shares - n) * m.stake / m.shares := Int.ediv_nonneg hn1 (by omega)
    have hsum : n * m.stake / m.shares + (m.shares - n) * m.stake / m.shares ≤ m.stake := by
      have hlt : (n * m.stake / m.shares + (m.shares - n) * m.stake / m.shares) * m.shares ≤ m.stake * m.shares := by
        rw [Int.add_mul]
        have : m.stake * m.shares = m.shares * m.stake := Int.mul_comm _ _
        omega
      exact Int.le_of_mul_le_mul_right hlt (by omega)
    refine ⟨hw0, by omega, e2, hsum, hw1, fun s c b => ?_⟩
    have hnot : ¬ (m.stake - n * m.stake / m.shares) * m.shares < m.stake * (m.shares - n) := by
      rw [Int.sub_mul, Int.mul_sub]
      have : m.stake * n = n * m.stake := Int.mul_comm _ _
      omega
    simp [cheapB, hnot]

theorem for_neg {m : Mil} {n : Int} (h : sharesForV m n < 0) : sharesForV m n = -1 := by
  unfold sharesForV at h ⊢
  split at h
  · rename_i hb
    rw [if_pos hb]
    simp only [Bool.and_eq_true, buyB, Bool.not_eq_true', Bool.and_eq_false_iff, decide_eq_false_iff_not, beq_eq_false_iff_ne] at hb
    obtain ⟨⟨hm, hn, hz⟩, _⟩ := hb
    have := buy_bd hm hn (by rintro ⟨h1, h2⟩; rcases hz with hz | hz; exact hz h1; exact hz h2)
    omega
  · rename_i hb
    rw [if_neg hb]
/-- What is bought is worth no more than what it cost, and makes no share cheaper. -/
theorem for_facts {m : Mil} {a : Int} (h : ¬ sharesForV m a < 0) (hx : millB ⟨m.name, m.stake + a, m.shares + sharesForV m a, m.cut, m.shut⟩ = true) (h1 : 1 ≤ sharesForV m a) :
    worthV ⟨m.name, m.stake + a, m.shares + sharesForV m a, m.cut, m.shut⟩ (sharesForV m a) ≤ a ∧ cheapB ⟨m.name, m.stake + a, m.shares + sharesForV m a, m.cut, m.shut⟩ m = false := by
  have hb : (buyB m a && inB 0 1000000000 (m.shares + buyV m a)) = true := by
    cases hq : (buyB m a && inB 0 1000000000 (m.shares + buyV m a))
    · unfold sharesForV at h; rw [hq] at h; simp at h
    · rfl
  have hv : sharesForV m a = buyV m a := by unfold sharesForV; rw [if_pos hb]
  rw [hv] at hx h1 ⊢
  simp only [Bool.and_eq_true, buyB, Bool.not_eq_true', Bool.and_eq_false_iff, decide_eq_false_iff_not, beq_eq_false_iff_ne] at hb
  obtain ⟨⟨hm, hn, hz⟩, _⟩ := hb
  have hp := millB_parts hm
  have hn' := inB_true hn
  have hpx := millB_parts hx
  simp only at hpx
  rw [worth_eq hx (by omega) (by show buyV m a ≤ m.shares + buyV m a; omega)]
  simp only
  rw [if_neg (by omega)]
  by_cases hS : 0 < m.shares
  · have hT : 1 ≤ m.stake := by rcases hz with hz | hz <;> omega
    have hbv : buyV m a = a * m.shares / m.stake := by
      unfold buyV; rw [if_pos hS]; exact downV_eq (by omega) (by omega) (by omega) (by omega) (by omega) (by omega)
    have fb := (floor_bd (p := a * m.shares) hT).1
    rw [← hbv] at fb
    constructor
    · refine floor_le (by omega) ?_
      have e1 : buyV m a * (m.stake + a) = buyV m a * m.stake + buyV m a * a := Int.mul_add _ _ _
      have e2 : (a + 1) * (m.shares + buyV m a) = a * m.shares + a * buyV m a + (m.shares + buyV m a) := by rw [Int.add_mul, Int.one_mul, Int.mul_add]
      have e3 : buyV m a * a = a * buyV m a := Int.mul_comm _ _
      omega
    · have hnot : ¬ (m.stake + a) * m.shares < m.stake * (m.shares + buyV m a) := by
        have e1 : (m.stake + a) * m.shares = m.stake * m.shares + a * m.shares := Int.add_mul _ _ _
        have e2 : m.stake * (m.shares + buyV m a) = m.stake * m.shares + m.stake * buyV m a := Int.mul_add _ _ _
        have e3 : m.stake * buyV m a = buyV m a * m.stake := Int.mul_comm _ _
        omega
      simp [cheapB, hnot]
  · have hS0 : m.shares = 0 := by omega
    have hT0 : m.stake = 0 := by omega
    have hbv : buyV m a = 1000 * a := by unfold buyV; rw [if_neg hS]
    constructor
    · rw [hbv, hS0, hT0]
      refine floor_le (by omega) ?_
      have e1 : 1000 * a * (0 + a) = 1000 * (a * a) := by rw [Int.zero_add, Int.mul_assoc]
      have e2 : (a + 1) * (0 + 1000 * a) = 1000 * (a * a) + 1000 * a := by rw [Int.zero_add, Int.add_mul, Int.one_mul, Int.mul_left_comm]
      omega
    · simp [cheapB, hS0]

theorem cheap_self (m : Mil) : cheapB m m = false := by simp [cheapB]
theorem cheap_not {x y : Mil} (h : cheapB x y = true) : cheapB y x = false := by
  simp only [cheapB, Bool.and_eq_true, decide_eq_true_eq] at h
  have : ¬ y.stake * x.shares < x.stake * y.shares := by omega
  simp [cheapB, this]
end Go.Proofs.YtncandoohlndnaaGreat
namespace Go.Proofs.YtncandoohlndnaaGreat
open Go.ChangeShapes Go.WideShapes Go.ChangeAt Go.RowKit

/-- A list of the call's own comes back. -/
def ResP (xs : List Par) (w : World) (e : Ending) (w' : World) : Prop :=
  ∃ a cap, e = .returned (.slice a xs.length cap) ∧ OwnR Par.cs 3 w' w.heap.size a xs ∧ Below w.heap.size w w'
/-- All parts of that one. -/
def ofWho (who : ByteArray) (ps : List Par) : List Par := ps.filter fun p => p.who.toList == who.toList
noncomputable def partsForV (ps : List Par) (who : ByteArray) : List Par := if partsB ps = true then ofWho who ps else []
theorem ofWho_yes {ps : List Par} {who : ByteArray} {k : Nat} (h : k < ps.length) (hq : (ps[k].who.toList == who.toList) = true) : ofWho who (ps.take (k + 1)) = ofWho who (ps.take k) ++ [ps[k]] := by
  unfold ofWho
  rw [List.take_succ_eq_append_getElem h, List.filter_append, List.filter_cons, if_pos hq, List.filter_nil]
theorem ofWho_no {ps : List Par} {who : ByteArray} {k : Nat} (h : k < ps.length) (hq : (ps[k].who.toList == who.toList) = false) : ofWho who (ps.take (k + 1)) = ofWho who (ps.take k) := by
  unfold ofWho
  rw [List.take_succ_eq_append_getElem h, List.filter_append, List.filter_cons, if_neg (by rw [hq]; decide), List.filter_nil, List.append_nil]
theorem ofWho_le (who : ByteArray) (ps : List Par) : (ofWho who ps).length ≤ ps.length := List.length_filter_le _ _

/-- The loop's word. -/
def ForRel (w : World) (ps : List Par) (who : ByteArray) (v i : Value) (wr : World) : Prop :=
  ∃ k : Nat, k ≤ ps.length ∧ i = .int .i64 k ∧ wr.ownsRow w.heap.size 83 3 v (ofWho who (ps.take k)).length ((ofWho who (ps.take k)).flatMap Par.cs) ∧ Below w.heap.size w wr ∧ (k = 0 ∨ partsB ps = true)

end Go.Proofs.YtncandoohlndnaaGreat
namespace Go.Proofs.YtncandoohlndnaaGreat
open Go.ChangeShapes Go.WideShapes Go.ChangeAt Go.RowKit

/-- A copy of the call's own. -/
def CopyW (ps : List Wai) (w : World) (e : Ending) (w' : World) : Prop :=
  ∃ b cap, e = .returned (.slice (some ⟨b, 0, none⟩) ps.length cap) ∧ OwnR Wai.cs 4 w' w.heap.size (some ⟨b, 0, none⟩) ps ∧ w'.ownsRow w.heap.size 46 4 (.slice (some ⟨b, 0, none⟩) ps.length cap) ps.length (ps.flatMap Wai.cs) ∧ Below w.heap.size w w'

/-- A list of the call's own comes back. -/
def ResW (xs : List Wai) (w : World) (e : Ending) (w' : World) : Prop :=
  ∃ a cap, e = .returned (.slice a xs.length cap) ∧ OwnR Wai.cs 4 w' w.heap.size a xs ∧ Below w.heap.size w w'
/-- All parts of that one. -/
def ofWhoW (who : ByteArray) (ps : List Wai) : List Wai := ps.filter fun p => p.who.toList == who.toList
noncomputable def waitsForV (ps : List Wai) (who : ByteArray) : List Wai := if waitsB ps = true then ofWhoW who ps else []
theorem ofWhoW_yes {ps : List Wai} {who : ByteArray} {k : Nat} (h : k < ps.length) (hq : (ps[k].who.toList == who.toList) = true) : ofWhoW who (ps.take (k + 1)) = ofWhoW who (ps.take k) ++ [ps[k]] := by
  unfold ofWhoW
  rw [List.take_succ_eq_append_getElem h, List.filter_append, List.filter_cons, if_pos hq, List.filter_nil]
theorem ofWhoW_no {ps : List Wai} {who : ByteArray} {k : Nat} (h : k < ps.length) (hq : (ps[k].who.toList == who.toList) = false) : ofWhoW who (ps.take (k + 1)) = ofWhoW who (ps.take k) := by
  unfold ofWhoW
  rw [List.take_succ_eq_append_getElem h, List.filter_append, List.filter_cons, if_neg (by rw [hq]; decide), List.filter_nil, List.append_nil]
theorem ofWhoW_le (who : ByteArray) (ps : List Wai) : (ofWhoW who ps).length ≤ ps.length := List.length_filter_le _ _

/-- The loop's word. -/
def ForRelW (w : World) (ps : List Wai) (who : ByteArray) (v i : Value) (wr : World) : Prop :=
  ∃ k : Nat, k ≤ ps.length ∧ i = .int .i64 k ∧ wr.ownsRow w.heap.size 46 4 v (ofWhoW who (ps.take k)).length ((ofWhoW who (ps.take k)).flatMap Wai.cs) ∧ Below w.heap.size w wr ∧ (k = 0 ∨ waitsB ps = true)

end Go.Proofs.YtncandoohlndnaaGreat
namespace Go.Proofs.YtncandoohlndnaaGreat
open Go.ChangeShapes Go.WideShapes Go.ChangeAt Go.RowKit

/-- What these parts are worth, each alone. -/
def PS (ms : List Mil) (xs : List Par) : Int := (xs.map fun p => worthV (millInV ms p.mill) p.shares).sum
/-- What these have that wait. -/
def WS (xs : List Wai) : Int := (xs.map Wai.amount).sum
theorem PS_nil (ms : List Mil) : PS ms [] = 0 := rfl
theorem WS_nil : WS [] = 0 := rfl
theorem PS_more (ms : List Mil) (xs : List Par) (p : Par) : PS ms (xs ++ [p]) = PS ms xs + worthV (millInV ms p.mill) p.shares := by
  unfold PS; rw [List.map_append, List.sum_append]; simp
theorem WS_more (xs : List Wai) (p : Wai) : WS (xs ++ [p]) = WS xs + p.amount := by
  unfold WS; rw [List.map_append, List.sum_append]; simp
theorem worth_bdW (m : Mil) (n : Int) : -1 ≤ worthV m n ∧ worthV m n ≤ 1000000 := by
  by_cases h : worthV m n < 0
  · have := worth_neg h; omega
  · have h1 := worth_facts h
    have h2 := millB_parts (worth_ok h).1
    omega
theorem PS_bd (ms : List Mil) : ∀ xs : List Par, -(xs.length : Int) ≤ PS ms xs ∧ PS ms xs ≤ 1000000 * xs.length
  | [] => by simp [PS]
  | p :: r => by
    have h1 := PS_bd ms r
    have h2 := worth_bdW (millInV ms p.mill) p.shares
    have h3 : PS ms (p :: r) = worthV (millInV ms p.mill) p.shares + PS ms r := by simp [PS]
    rw [h3, List.length_cons]
    omega
theorem WS_bd : ∀ xs : List Wai, (∀ p ∈ xs, waitB p = true) → 0 ≤ WS xs ∧ WS xs ≤ 1000000 * xs.length
  | [], _ => by simp [WS]
  | p :: r, h => by
    have h1 := WS_bd r (fun q hq => h q (List.mem_cons_of_mem _ hq))
    have h2 := wait_bd (h p (List.mem_cons_self ..))
    have h3 : WS (p :: r) = p.amount + WS r := by simp [WS]
    rw [h3, List.length_cons]
    omega
/-- What one has in all. -/
noncomputable def worthInV (b : Bok) (who : ByteArray) : Int :=
  if bookB b = true ∧ 0 ≤ placeV (pnames b.folk) who then pfree b.folk (placeV (pnames b.folk) who).toNat + PS b.mills (ofWho who b.parts) + WS (ofWhoW who b.waits) else -1
theorem worthIn_no {b : Bok} {who : ByteArray} (h : bookB b = false) : worthInV b who = -1 := by simp [worthInV, h]
theorem worthIn_out {b : Bok} {who : ByteArray} (h : ¬ 0 ≤ placeV (pnames b.folk) who) : worthInV b who = -1 := by simp [worthInV, h]
theorem worthIn_in {b : Bok} {who : ByteArray} {k : Nat} (h : bookB b = true) (e : placeV (pnames b.folk) who = k) (hk : k < b.folk.length) : worthInV b who = b.folk[k].free + PS b.mills (ofWho who b.parts) + WS (ofWhoW who b.waits) := by
  rw [worthInV, if_pos ⟨h, by omega⟩, e, show ((k : Int)).toNat = k by omega, pfree_eq hk]
theorem ofWhoW_mem {who : ByteArray} {ps : List Wai} (h : ∀ j (hj : j < ps.length), waitB ps[j] = true) (k : Nat) : ∀ p ∈ ofWhoW who (ps.take k), waitB p = true := by
  intro p hp
  have h1 := List.mem_of_mem_take (List.mem_filter.1 hp).1
  obtain ⟨j, hj, rfl⟩ := List.getElem_of_mem h1
  exact h j hj

end Go.Proofs.YtncandoohlndnaaGreat
namespace Go.Proofs.YtncandoohlndnaaGreat
open Go.ChangeShapes Go.WideShapes Go.ChangeAt Go.RowKit

/-- What waits for that one and is ripe by then. -/
def dueOf (who : ByteArray) (t : Int) (ps : List Wai) : List Wai := ps.filter fun p => p.who.toList == who.toList && decide (p.ripe ≤ t)
theorem due_yes {ps : List Wai} {who : ByteArray} {t : Int} {k : Nat} (h : k < ps.length) (hq : (ps[k].who.toList == who.toList) = true) (hr : ps[k].ripe ≤ t) : dueOf who t (ps.take (k + 1)) = dueOf who t (ps.take k) ++ [ps[k]] := by
  unfold dueOf
  rw [List.take_succ_eq_append_getElem h, List.filter_append, List.filter_cons, if_pos (by rw [hq]; simpa using hr), List.filter_nil]
theorem due_no {ps : List Wai} {who : ByteArray} {t : Int} {k : Nat} (h : k < ps.length) (hq : (ps[k].who.toList == who.toList) = false ∨ ¬ ps[k].ripe ≤ t) : dueOf who t (ps.take (k + 1)) = dueOf who t (ps.take k) := by
  unfold dueOf
  rw [List.take_succ_eq_append_getElem h, List.filter_append, List.filter_cons, if_neg, List.filter_nil, List.append_nil]
  rcases hq with hq | hq
  · rw [hq]; simp
  · simp [hq]
theorem due_le (who : ByteArray) (t : Int) (ps : List Wai) : (dueOf who t ps).length ≤ ps.length := List.length_filter_le _ _
theorem due_mem {who : ByteArray} {t : Int} {ps : List Wai} (h : ∀ j (hj : j < ps.length), waitB ps[j] = true) (k : Nat) : ∀ p ∈ dueOf who t (ps.take k), waitB p = true := by
  intro p hp
  have h1 := List.mem_of_mem_take (List.mem_filter.1 hp).1
  obtain ⟨j, hj, rfl⟩ := List.getElem_of_mem h1
  exact h j hj
noncomputable def dueInV (b : Bok) (who : ByteArray) (t : Int) : Int := if bookB b = true ∧ 0 ≤ placeV (pnames b.folk) who then WS (dueOf who t b.waits) else -1

set_option maxHeartbeats 8000000 in
set_option maxRecDepth 100000 in
theorem sDueIn_any {w : World} {b : Bok} {s : Spots} (who : ByteArray) (t : Int) (h : BookAt w b s) (hl : BLen b) (hz : BSized b) :
    Calls Tryz.prog 5 #[.agg #[.int .i64 b.season, .int .i64 b.supply, .int .i64 b.burnt, .int .i64 b.pot, .slice s.fa b.folk.length s.fc, .slice s.ma b.mills.length s.mc, .slice s.pa b.parts.length s.pc, .slice s.wa b.waits.length s.wc], .string who, .int .i64 t] w fun e w' => e = .returned (.int .i64 (dueInV b who t)) ∧ Below w.heap.size w w' := by
  obtain ⟨W, hW⟩ : ∃ W, w.alloc (.cells #[.int .i64 b.season, .int .i64 b.supply, .int .i64 b.burnt, .int .i64 b.pot, .slice s.fa b.folk.length s.fc, .slice s.ma b.mills.length s.mc, .slice s.pa b.parts.length s.pc, .slice s.wa b.waits.length s.wc] 35) = W := ⟨_, rfl⟩
  have X0 := Lib.hid (BoxB.new h 35)
  have B0 := Lib.hid (below_new w (.cells #[.int .i64 b.season, .int .i64 b.supply, .int .i64 b.burnt, .int .i64 b.pot, .slice s.fa b.folk.length s.fc, .slice s.ma b.mills.length s.mc, .slice s.pa b.parts.length s.pc, .slice s.wa b.waits.length s.wc] 35))
  rw [hW] at X0 B0
  have HL := Lib.hid hl
  have HZ := Lib.hid hz
  have l1 := hl.fl
  have l2 := hl.ml
  have l4 := hl.wl
  clear h hl hz
  have c0 := X0.out.c0
  have c1 := X0.out.c1
  have c2 := X0.out.c2
  have c3 := X0.out.c3
  have c4 := X0.out.c4
  have c5 := X0.out.c5
  have c6 := X0.out.c6
  have c7 := X0.out.c7
  go_enter Tryz.func5, Tryz.ntmps5
  go_wp2_with fail
  refine (sBookOk_any (s := s) X0.out.book HL.out HZ.out).mono ?_
  rintro e w1 ⟨rfl, hb1⟩
  have X1 := Lib.hid (X0.out.below hb1)
  have B1 := Lib.hid (below_trans B0.out hb1)
  clear hb1 c0 c1 c2 c3 c4 c5 c6 c7
  cases h1 : bookB b
  · have HN := Lib.hid (show dueInV b who t = -1 from if_neg (by rw [h1]; simp))
    go_wp2
    go_ret
    exact ⟨by rw [HN.out]; rfl, B1.out⟩
  have c4 := X1.out.c4
  go_wp2_with fail
  refine (l3Find_any _ _ X1.out.book.folk (by omega)).mono ?_
  rintro e w2 ⟨rfl, rfl⟩
  by_cases hp : 0 ≤ placeV (pnames b.folk) who
  case neg =>
    have HN := Lib.hid (show dueInV b who t = -1 from if_neg (fun q => hp q.2))
    have hlo := place_lo (pnames b.folk) who
    have hpe : placeV (pnames b.folk) who = -1 := by omega
    rw [hpe]
    clear hp hpe hlo
    go_wp2
    go_ret
    exact ⟨by rw [HN.out]; rfl, B1.out⟩
  have HN := Lib.hid (show dueInV b who t = WS (dueOf who t b.waits) from if_pos ⟨h1, hp⟩)
  obtain ⟨hlists, -, -⟩ := book_true h1
  obtain ⟨⟨-, -, -, hwk⟩, -⟩ := lists_all hlists
  have hw20 := (waits_true hwk).1
  have HWA := Lib.hid (fun j (hj : j < b.waits.length) => (waits_true hwk).2.1 j hj hj)
  have hpn : ¬ placeV (pnames b.folk) who < 0 := by omega
  clear hlists hwk h1 c4
  go_wp2_with fail
  go_loopw [7, 8] (fun n i w' => ∃ k : Nat, k ≤ b.waits.length ∧ i = .int .i64 k ∧ n = .int .i64 (WS (dueOf who t (b.waits.take k))) ∧ Below w1.heap.size w1 w') (fun _ i _ => b.waits.length - (intOf i).toNat)
  case atStart => exact ⟨0, Nat.zero_le _, rfl, by simp [dueOf, WS], Below.refl _ _⟩
  case round =>
    obtain ⟨k, hk, rfl, rfl, hb⟩ := hrel
    have X := Lib.hid (X1.out.below hb)
    have HB := Lib.hid hb
    have BB := Lib.hid (below_trans B1.out hb)
    clear hb
    have c7 := X.out.c7
    obtain ⟨r, hr⟩ : ∃ r, WS (dueOf who t (b.waits.take k)) = r := ⟨_, rfl⟩
    have hbd := WS_bd (dueOf who t (b.waits.take k)) (due_mem HWA.out k)
    have hle := due_le who t (b.waits.take k)
    rw [List.length_take] at hle
    rw [hr] at hbd
    rw [hr]
    have HR := Lib.hid hr
    clear hr
    by_cases hlt : k < b.waits.length
    · have hba := wait_bd (HWA.out k hlt)
      obtain ⟨p, off, ep, hlb, d0, d1, d2, d3⟩ := Wai.at X.out.book.waits k hlt
      rw [ep] at c7
      clear ep
      cases hq : (b.waits[k].who.toList == who.toList)
      · have HO := Lib.hid (show WS (dueOf who t (b.waits.take (k + 1))) = r by rw [due_no hlt (.inl hq)]; exact HR.out)
        go_wp2
        go_roundw
        case rel => exact ⟨k + 1, by omega, by go_num, by rw [HO.out], HB.out⟩
        case measure => simp [intOf]; omega
      by_cases hrp : b.waits[k].ripe ≤ t
      case neg =>
        have HO := Lib.hid (show WS (dueOf who t (b.waits.take (k + 1))) = r by rw [due_no hlt (.inr hrp)]; exact HR.out)
        go_wp2
        go_roundw
        case rel => exact ⟨k + 1, by omega, by go_num, by rw [HO.out], HB.out⟩
        case measure => simp [intOf]; omega
      have HO := Lib.hid (show WS (dueOf who t (b.waits.take (k + 1))) = r + b.waits[k].amount by rw [due_yes hlt hq hrp, WS_more, HR.out])
      have hwr : IntKind.i64.wrap (r + b.waits[k].amount) = r + b.waits[k].amount := IntWalk.i64_in _ (by omega)
      go_wp2
      go_roundw
      case rel => exact ⟨k + 1, by omega, by go_num, by rw [HO.out], HB.out⟩
      case measure => simp [intOf]; omega
    · obtain rfl : k = b.waits.length := by omega
      have HR1 := Lib.hid (show WS (dueOf who t b.waits) = r by have := HR.out; rwa [List.take_length] at this)
      go_wp2
      go_ret
      exact ⟨by rw [HN.out, HR1.out]; rfl, BB.out⟩
end Go.Proofs.YtncandoohlndnaaGreat
namespace Go.Proofs.YtncandoohlndnaaGreat
open Go.ChangeShapes Go.WideShapes Go.ChangeAt Go.RowKit

/-- How many are ripe no later. -/
def lowW : List Wai → Int → Nat
  | [], _ => 0
  | p :: r, x => if p.ripe ≤ x then lowW r x + 1 else 0
theorem lowW_le : ∀ (ps : List Wai) (x : Int), lowW ps x ≤ ps.length
  | [], _ => by simp [lowW]
  | p :: r, x => by
    have := lowW_le r x
    simp only [lowW, List.length_cons]
    split <;> omega
theorem lowW_is : ∀ (ps : List Wai) (x : Int) (k : Nat), k ≤ ps.length → (∀ j (h : j < ps.length), j < k → ps[j].ripe ≤ x) → (∀ h : k < ps.length, x < ps[k].ripe) → lowW ps x = k
  | [], _, k, hk, _, _ => by simp at hk; simp [lowW, hk]
  | p :: r, x, 0, _, _, h2 => by
    have := h2 (by simp)
    simp only [List.getElem_cons_zero] at this
    rw [lowW, if_neg (by omega)]
  | p :: r, x, k + 1, hk, h1, h2 => by
    have h0 := h1 0 (by simp) (by omega)
    simp only [List.getElem_cons_zero] at h0
    have := lowW_is r x k (by simpa using hk) (fun j h hj => by have := h1 (j + 1) (by simpa using h) (by omega); simpa using this) (fun h => by have := h2 (by simpa using h); simpa using this)
    rw [lowW, if_pos h0, this]
/-- With that one, behind all that are ripe no later. -/
def putW (ps : List Wai) (q : Wai) : List Wai := ps.take (lowW ps q.ripe) ++ [q] ++ ps.drop (lowW ps q.ripe)
noncomputable def waitingB (ps : List Wai) (q : Wai) : Bool := waitsB ps && waitsB (putW ps q)
noncomputable def waitingL (ps : List Wai) (q : Wai) : List Wai := if waitsB ps = true then (if waitingB ps q = true then putW ps q else ps) else []
section
variable {ps : List Wai} {q : Wai}
theorem waiting_no (h : waitsB ps = false) : waitingB ps q = false ∧ waitingL ps q = [] := by simp [waitingB, waitingL, h]
theorem waiting_keep (h : waitsB ps = true) (hb : waitingB ps q = false) : waitingL ps q = ps := by simp [waitingL, h, hb]
theorem waiting_not (h : waitsB (putW ps q) = false) : waitingB ps q = false := by simp [waitingB, h]
theorem waiting_yes (hf : waitsB ps = true) (h : waitsB (putW ps q) = true) : waitingB ps q = true ∧ waitingL ps q = putW ps q := by
  have h2 : waitingB ps q = true := by simp [waitingB, hf, h]
  exact ⟨h2, by rw [waitingL, if_pos hf, if_pos h2]⟩
end
theorem wsized_mem {ps : List Wai} : WSized ps ↔ ∀ p ∈ ps, p.who.size ≤ maxLen ∧ p.mill.size ≤ maxLen :=
  ⟨fun h p hp => by obtain ⟨k, hk, rfl⟩ := List.getElem_of_mem hp; exact h k hk, fun h k hk => h _ (List.getElem_mem hk)⟩
theorem wsized_put {ps : List Wai} (hs : WSized ps) {q : Wai} (hq : q.who.size ≤ maxLen ∧ q.mill.size ≤ maxLen) (k : Nat) : WSized (ps.take k ++ [q] ++ ps.drop k) := by
  rw [wsized_mem] at hs ⊢
  intro p hp
  simp only [List.mem_append, List.mem_singleton] at hp
  rcases hp with (hp | rfl) | hp
  · exact hs p (List.mem_of_mem_take hp)
  · exact hq
  · exact hs p (List.mem_of_mem_drop hp)
/-- 'WaitsOk' of a list that the call owns. -/
theorem okW_own {W : World} {base g c L : Nat} {out : List Wai} (ho : W.ownsRow base 46 4 (.slice (some ⟨g, 0, none⟩) L c) L (out.flatMap Wai.cs)) (hl : out.length = L) (hL : L ≤ 1048577) (hs : WSized out) :
    Calls Tryz.prog 55 #[.slice (some ⟨g, 0, none⟩) L c] W fun e w' => e = .returned (.bool (waitsB out)) ∧ Below W.heap.size W w' := by
  subst hl
  obtain ⟨a, cap, e, hr, -⟩ := ownR_of Wai.len ho
  injection e with e1 e2 e3
  subst e1; subst e3
  exact sWaitsOk_any _ hr.1 (by omega) hs
theorem rec_new (q : Wai) (w : World) : ∀ j u, q.cs[j]? = some u → (w.alloc (.cells #[.string q.who, .string q.mill, .int .i64 q.amount, .int .i64 q.ripe] 46)).cell? ((⟨w.heap.size, 0, none⟩ : Addr).add j) = some u := by
  intro j u hj
  rw [add_plain, Nat.zero_add]
  exact RecAt.new Wai.cs w q 46 j u hj
theorem rec_kept {w w' : World} {vs : List Value} {b : Nat} (h : ∀ j u, vs[j]? = some u → w.cell? ((⟨b, 0, none⟩ : Addr).add j) = some u) (hb : Below w.heap.size w w') : ∀ j u, vs[j]? = some u → w'.cell? ((⟨b, 0, none⟩ : Addr).add j) = some u := by
  intro j u hj
  have := h j u hj
  rw [add_plain] at this ⊢
  rw [hb.cell (p := ⟨b, 0 + j, none⟩) (at_lt this)]; exact this

section
variable {w wz : World} {b off k cap : Nat} {ps : List Wai} {q : Wai}
end

end Go.Proofs.YtncandoohlndnaaGreat
namespace Go.Proofs.YtncandoohlndnaaGreat
open Go.ChangeShapes Go.WideShapes Go.ChangeAt Go.RowKit

/-- Those that are ripe later, and those that are not. -/
def laterOf (season : Int) (ps : List Wai) : List Wai := ps.filter fun p => decide (season < p.ripe)
def ripeOf (season : Int) (ps : List Wai) : List Wai := ps.filter fun p => !decide (season < p.ripe)
noncomputable def laterV (ps : List Wai) (season : Int) : List Wai := if waitsB ps = true then laterOf season ps else []
noncomputable def ripeV (ps : List Wai) (season : Int) : List Wai := if waitsB ps = true then ripeOf season ps else []
theorem later_yes {ps : List Wai} {season : Int} {k : Nat} (h : k < ps.length) (hq : season < ps[k].ripe) : laterOf season (ps.take (k + 1)) = laterOf season (ps.take k) ++ [ps[k]] ∧ ripeOf season (ps.take (k + 1)) = ripeOf season (ps.take k) := by
  unfold laterOf ripeOf
  rw [List.take_succ_eq_append_getElem h, List.filter_append, List.filter_append]
  simp [hq]
theorem later_no {ps : List Wai} {season : Int} {k : Nat} (h : k < ps.length) (hq : ¬ season < ps[k].ripe) : laterOf season (ps.take (k + 1)) = laterOf season (ps.take k) ∧ ripeOf season (ps.take (k + 1)) = ripeOf season (ps.take k) ++ [ps[k]] := by
  unfold laterOf ripeOf
  rw [List.take_succ_eq_append_getElem h, List.filter_append, List.filter_append]
  simp [hq]
theorem later_le (season : Int) (ps : List Wai) : (laterOf season ps).length ≤ ps.length := List.length_filter_le _ _
theorem ripe_le (season : Int) (ps : List Wai) : (ripeOf season ps).length ≤ ps.length := List.length_filter_le _ _

/-- The loop's word. -/
def RipeRel (w : World) (ps : List Wai) (season : Int) (v u i : Value) (wr : World) : Prop :=
  ∃ k g1 c1 g2 c2 : Nat, k ≤ ps.length ∧ i = .int .i64 k ∧ v = .slice (some ⟨g1, 0, none⟩) (laterOf season (ps.take k)).length c1 ∧ u = .slice (some ⟨g2, 0, none⟩) (ripeOf season (ps.take k)).length c2 ∧ g1 ≠ g2 ∧
    wr.ownsRow w.heap.size 46 4 (.slice (some ⟨g1, 0, none⟩) (laterOf season (ps.take k)).length c1) (laterOf season (ps.take k)).length ((laterOf season (ps.take k)).flatMap Wai.cs) ∧
    wr.ownsRow w.heap.size 46 4 (.slice (some ⟨g2, 0, none⟩) (ripeOf season (ps.take k)).length c2) (ripeOf season (ps.take k)).length ((ripeOf season (ps.take k)).flatMap Wai.cs) ∧ Below w.heap.size w wr ∧ (k = 0 ∨ waitsB ps = true)
/-- Two lists of the call's own, apart, each in a block that is known. -/
def ResSS (o1 o2 : List Wai) (w : World) (e : Ending) (w' : World) : Prop :=
  ∃ g1 c1 g2 c2, e = .returned (.tuple #[.slice (some ⟨g1, 0, none⟩) o1.length c1, .slice (some ⟨g2, 0, none⟩) o2.length c2]) ∧ OwnR Wai.cs 4 w' w.heap.size (some ⟨g1, 0, none⟩) o1 ∧ OwnR Wai.cs 4 w' w.heap.size (some ⟨g2, 0, none⟩) o2 ∧ g1 ≠ g2 ∧ o1.length ≤ c1 ∧ o2.length ≤ c2 ∧ w.heap.size ≤ g1 ∧ w.heap.size ≤ g2 ∧ Below w.heap.size w w'
theorem resSS_oo {o1 o2 : List Wai} {w : World} {e : Ending} {w' : World} (h : ResSS o1 o2 w e w') : ResOO Wai.cs 4 o1 o2 w e w' := by
  obtain ⟨g1, c1, g2, c2, h1, h2, h3, hne, -, -, -, -, hb⟩ := h
  refine ⟨_, _, _, _, h1, h2, h3, ?_, hb⟩
  intro b1 b2 h1 h2 _ _
  injection h1 with h1; injection h1 with h1
  injection h2 with h2; injection h2 with h2
  omega
theorem resOO_of {w w' : World} {g1 c1 g2 c2 : Nat} {o1 o2 : List Wai} (h1 : w'.ownsRow w.heap.size 46 4 (.slice (some ⟨g1, 0, none⟩) o1.length c1) o1.length (o1.flatMap Wai.cs)) (h2 : w'.ownsRow w.heap.size 46 4 (.slice (some ⟨g2, 0, none⟩) o2.length c2) o2.length (o2.flatMap Wai.cs)) (hne : g1 ≠ g2) (hb : Below w.heap.size w w') :
    ResSS o1 o2 w (.returned (.tuple #[.slice (some ⟨g1, 0, none⟩) o1.length c1, .slice (some ⟨g2, 0, none⟩) o2.length c2])) w' := by
  have p1 := own_some h1
  have p2 := own_some h2
  obtain ⟨a1, k1, e1, r1, -⟩ := ownR_of Wai.len h1
  obtain ⟨a2, k2, e2, r2, -⟩ := ownR_of Wai.len h2
  injection e1 with e1 _ e3
  injection e2 with e2 _ e4
  subst e1; subst e3; subst e2; subst e4
  exact ⟨_, _, _, _, rfl, r1, r2, hne, p1.2.1, p2.2.1, p1.2.2.2.1, p2.2.2.2.1, hb⟩

end Go.Proofs.YtncandoohlndnaaGreat
namespace Go.Proofs.YtncandoohlndnaaGreat
open Go.ChangeShapes Go.WideShapes Go.ChangeAt Go.RowKit

/-- Nothing that was there has changed; there may be new blocks. -/
def Fresh (w w' : World) : Prop := Below w.heap.size w w' ∧ Grown w w'
theorem Fresh.refl (w : World) : Fresh w w := ⟨Below.refl _ _, Grown.refl _⟩
theorem Fresh.alloc {w w' : World} (h : Fresh w w') (c : Array Value) (t : TypeId) : Fresh w (w'.alloc (.cells c t)) :=
  ⟨h.1.alloc h.1.size _, h.2.alloc c t⟩
theorem Fresh.trans {a b c : World} (h : Fresh a b) (k : Fresh b c) : Fresh a c :=
  ⟨h.1.trans (k.1.mono h.1.size), World.keptBut_trans h.2.1 (World.keptBut_mono (fun _ f => f.elim) k.2.1), fun p => (k.2.2.1 p).trans (h.2.2.1 p), Nat.le_trans h.2.2.2 k.2.2.2⟩

theorem allow_all {a b c : Int} (h : okD a b c = true) : (inB 0 1000000000 a && (inB 0 1000000000 b && inB 0 1000000000 c)) = true := by
  obtain ⟨h1, h2, h3, h4, h5, h6⟩ := okD_true h
  rw [inB_of h1 h2, inB_of h3 h4, inB_of (by omega) h6]; rfl

theorem okD_of {a b c : Int} (h : (inB 0 1000000000 a && (inB 0 1000000000 b && inB 0 1000000000 c)) = true) (hc : (c == 0) = false) : okD a b c = true := by
  simp only [Bool.and_eq_true] at h
  obtain ⟨h1, h2, h3⟩ := h
  have h4 := inB_true h3
  have : c ≠ 0 := by simpa using hc
  simp only [okD, Bool.and_eq_true]
  exact ⟨h1, h2, inB_of (by omega) h4.2⟩

theorem okD_no {a b c : Int} (h : (inB 0 1000000000 a && (inB 0 1000000000 b && inB 0 1000000000 c)) = false) : okD a b c = false := by
  cases k : okD a b c
  · rfl
  · rw [allow_all k] at h; exact absurd h (by decide)

theorem okD_zero {a b c : Int} (h : (c == 0) = true) : okD a b c = false := by
  have : c = 0 := by simpa using h
  subst this
  simp [okD, inB]

theorem allOf_new (lim a b c : Int) (w : World) :
    Calls Tryz.prog 64 #[.func (Fn.func 63) #[.int .i64 lim] #[], .slice (some ⟨w.heap.size, 0, none⟩) 3 3] (w.alloc (.cells #[.int .i64 a, .int .i64 b, .int .i64 c] 2)) fun e w' => e = .returned (.bool (inB 0 lim a && (inB 0 lim b && inB 0 lim c))) ∧ w.alloc (.cells #[.int .i64 a, .int .i64 b, .int .i64 c] 2) = w' :=
  allOf_any lim a b c w.heap.size _ (by go_simp) (by go_simp) (by go_simp)

theorem part_bd {n p : Int} (h1 : inB 0 1000000 n = true) (h2 : inB 0 100 p = true) : okD n p 100 = true ∧ 0 ≤ n * p ∧ n * p ≤ 1000000000000000000 := by
  have a := inB_true h1
  have b := inB_true h2
  have k := prod_bd n p (by omega) (by omega) (by omega) (by omega)
  refine ⟨?_, k.1, k.2⟩
  simp only [okD, Bool.and_eq_true]
  exact ⟨inB_of (by omega) (by omega), inB_of (by omega) (by omega), by decide⟩

end Go.Proofs.YtncandoohlndnaaGreat
namespace Go.Proofs.YtncandoohlndnaaGreat
open Go.ChangeShapes Go.WideShapes Go.ChangeAt Go.RowKit

theorem partV_bd {n p : Int} (h0 : 0 ≤ n) (h1 : n ≤ 1000000) (hp : inB 0 100 p = true) : 0 ≤ partV n p ∧ partV n p ≤ n := by
  have hb := inB_true hp
  rw [partV, if_pos (by rw [hp, inB_of h0 h1]; rfl)]
  have h2 : 0 ≤ n * p := Int.mul_nonneg h0 hb.1
  have h3 : n * p ≤ n * 100 := Int.mul_le_mul_of_nonneg_left hb.2 h0
  omega
/-- What is cut off of one. -/
def cutW (mill : ByteArray) (pc : Int) (p : Wai) : Int := if (p.mill.toList == mill.toList) = true then partV p.amount pc else 0
/-- One that is fined. -/
def fineW (mill : ByteArray) (pc : Int) (p : Wai) : Wai := ⟨p.who, p.mill, p.amount - cutW mill pc p, p.ripe⟩
def finOf (mill : ByteArray) (pc : Int) (ps : List Wai) : List Wai := (ps.map (fineW mill pc)).filter fun p => decide (0 < p.amount)
def finSum (mill : ByteArray) (pc : Int) (ps : List Wai) : Int := (ps.map (cutW mill pc)).sum
noncomputable def finedB (ps : List Wai) (pc : Int) : Bool := waitsB ps && inB 0 100 pc
noncomputable def finedL (ps : List Wai) (mill : ByteArray) (pc : Int) : List Wai := if finedB ps pc = true then finOf mill pc ps else []
noncomputable def finedN (ps : List Wai) (mill : ByteArray) (pc : Int) : Int := if finedB ps pc = true then finSum mill pc ps else -1
theorem finOf_le (mill : ByteArray) (pc : Int) (ps : List Wai) : (finOf mill pc ps).length ≤ ps.length := by
  unfold finOf
  exact Nat.le_trans (List.length_filter_le _ _) (by simp)
section
variable {ps : List Wai} {mill : ByteArray} {pc : Int} {k : Nat}
theorem fin_yes (h : k < ps.length) (hq : 0 < (fineW mill pc ps[k]).amount) : finOf mill pc (ps.take (k + 1)) = finOf mill pc (ps.take k) ++ [fineW mill pc ps[k]] := by
  unfold finOf
  rw [List.take_succ_eq_append_getElem h, List.map_append, List.filter_append]
  simp [hq]
theorem fin_no (h : k < ps.length) (hq : ¬ 0 < (fineW mill pc ps[k]).amount) : finOf mill pc (ps.take (k + 1)) = finOf mill pc (ps.take k) := by
  unfold finOf
  rw [List.take_succ_eq_append_getElem h, List.map_append, List.filter_append]
  simp [hq]
theorem sum_next (h : k < ps.length) : finSum mill pc (ps.take (k + 1)) = finSum mill pc (ps.take k) + cutW mill pc ps[k] := by
  unfold finSum
  rw [List.take_succ_eq_append_getElem h, List.map_append, List.sum_append]
  simp
theorem cut_bd {p : Wai} (h : waitB p = true) (hp : inB 0 100 pc = true) : 0 ≤ cutW mill pc p ∧ cutW mill pc p ≤ p.amount := by
  have h1 := wait_bd h
  unfold cutW
  split
  · exact partV_bd (by omega) (by omega) hp
  · omega
theorem fin_bd (h : WUp ps ps.length) (hp : inB 0 100 pc = true) : ∀ k, k ≤ ps.length → 0 ≤ finSum mill pc (ps.take k) ∧ finSum mill pc (ps.take k) ≤ 1000000 * k
  | 0, _ => by simp [finSum]
  | k + 1, hk => by
    have h1 := fin_bd h hp k (by omega)
    have h2 := wait_bd (h.1 k (by omega) (by omega))
    have h3 := cut_bd (mill := mill) (h.1 k (by omega) (by omega)) hp
    rw [sum_next (by omega)]
    omega
end

/-- The loop's word. -/
def FinRel (w : World) (ps : List Wai) (mill : ByteArray) (pc : Int) (v t i : Value) (wr : World) : Prop :=
  ∃ k g c : Nat, k ≤ ps.length ∧ i = .int .i64 k ∧ t = .int .i64 (finSum mill pc (ps.take k)) ∧ v = .slice (some ⟨g, 0, none⟩) (finOf mill pc (ps.take k)).length c ∧
    wr.ownsRow w.heap.size 46 4 (.slice (some ⟨g, 0, none⟩) (finOf mill pc (ps.take k)).length c) (finOf mill pc (ps.take k)).length ((finOf mill pc (ps.take k)).flatMap Wai.cs) ∧ Below w.heap.size w wr
/-- The same, in a block that is known. -/
def ResSI (out : List Wai) (n : Int) (w : World) (e : Ending) (w' : World) : Prop :=
  ∃ g cap, e = .returned (.tuple #[.slice (some ⟨g, 0, none⟩) out.length cap, .int .i64 n]) ∧ OwnR Wai.cs 4 w' w.heap.size (some ⟨g, 0, none⟩) out ∧ Below w.heap.size w w' ∧ out.length ≤ cap ∧ w.heap.size ≤ g
theorem resSI_own {out : List Wai} {n : Int} {w : World} {e : Ending} {w' : World} (h : ResSI out n w e w') : ResOI Wai.cs 4 out n w e w' := by
  obtain ⟨g, c, h1, h2, h3, h4, -⟩ := h
  exact ⟨_, c, h1, h2, h3, h4⟩
theorem resOI_of {w w' : World} {g c : Nat} {o : List Wai} {n : Int} (h : w'.ownsRow w.heap.size 46 4 (.slice (some ⟨g, 0, none⟩) o.length c) o.length (o.flatMap Wai.cs)) (hb : Below w.heap.size w w') :
    ResSI o n w (.returned (.tuple #[.slice (some ⟨g, 0, none⟩) o.length c, .int .i64 n])) w' := by
  have hg := (own_some h).2.2.2.1
  obtain ⟨a, k, e, r, -⟩ := ownR_of Wai.len h
  injection e with e1 _ e3
  subst e1; subst e3
  exact ⟨_, _, rfl, r, hb, (own_some h).2.1, hg⟩

theorem putW_le (ps : List Wai) (q : Wai) : (putW ps q).length ≤ ps.length + 1 := by
  have := lowW_le ps q.ripe
  unfold putW; simp; omega
theorem waitingL_le (ps : List Wai) (q : Wai) : (waitingL ps q).length ≤ 20 := by
  unfold waitingL
  split
  · rename_i hf
    split
    · rename_i hb
      simp only [waitingB, Bool.and_eq_true] at hb
      exact (waits_true hb.2).1
    · exact (waits_true hf).1
  · exact Nat.zero_le _
theorem waitsFor_le (ps : List Wai) (who : ByteArray) : (waitsForV ps who).length ≤ 20 := by
  unfold waitsForV
  split
  · rename_i hf
    exact Nat.le_trans (ofWhoW_le who ps) (waits_true hf).1
  · exact Nat.zero_le _
theorem finedL_le (ps : List Wai) (mill : ByteArray) (pc : Int) : (finedL ps mill pc).length ≤ 20 := by
  unfold finedL
  split
  · rename_i hf
    simp only [finedB, Bool.and_eq_true] at hf
    exact Nat.le_trans (finOf_le mill pc ps) (waits_true hf.1).1
  · exact Nat.zero_le _
theorem laterV_le (ps : List Wai) (season : Int) : (laterV ps season).length ≤ 20 := by
  unfold laterV
  split
  · rename_i hf
    exact Nat.le_trans (later_le season ps) (waits_true hf).1
  · exact Nat.zero_le _
theorem ripeV_le (ps : List Wai) (season : Int) : (ripeV ps season).length ≤ 20 := by
  unfold ripeV
  split
  · rename_i hf
    exact Nat.le_trans (ripe_le season ps) (waits_true hf).1
  · exact Nat.zero_le _
theorem sized_Wait {ps : List Wai} (hs : ∀ p ∈ ps, p.fits) : WSized ps :=
  wsized_mem.2 fun p hp => ⟨Nat.le_trans (hs p hp).1 (by unfold maxLen; omega), Nat.le_trans (hs p hp).2 (by unfold maxLen; omega)⟩
end Go.Proofs.YtncandoohlndnaaGreat
