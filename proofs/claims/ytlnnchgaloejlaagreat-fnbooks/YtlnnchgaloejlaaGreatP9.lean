/-
  Texts joined: WaitS.
-/
import Derived.Test.YtlnnchgaloejlaaGreatP1
import Derived.Maps.AppendAt
import Derived.Deep.AppendLies
namespace Go.Proofs.YtlnnchgaloejlaaGreat
open Go.ChangeShapes Go.WideShapes Go.ChangeAt Go.RowKit

/-- A right one. -/
def waitB (p : Wai) : Bool := nameB p.who && (nameB p.mill && (inB 1 1000000 p.amount && inB 0 1000 p.ripe))

set_option maxHeartbeats 2000000 in
set_option maxRecDepth 100000 in
theorem l6Wait_any (p : Wai) (w : World) (h1 : p.who.size ≤ maxLen) (h2 : p.mill.size ≤ maxLen) :
    Calls Tryz.prog 100 #[.agg #[.string p.who, .string p.mill, .int .i64 p.amount, .int .i64 p.ripe]] w fun e w' => e = .returned (.bool (waitB p)) ∧ Below w.heap.size w w' := by
  have HS1 := Lib.hid h1
  have HS2 := Lib.hid h2
  clear h1 h2
  have HN : Hid (waitB p = (nameB p.who && (nameB p.mill && (inB 1 1000000 p.amount && inB 0 1000 p.ripe)))) := rfl
  cases q1 : nameB p.who
  · go_enter Tryz.func100, Tryz.ntmps100
    go_wp2_with fail
    refine (sNameOk_any p.who _ HS1.out).mono ?_
    rintro e w' ⟨rfl, rfl⟩
    rw [q1]
    go_wp2
    go_ret
    exact ⟨by rw [HN.out, q1]; rfl, below_new _ _⟩
  cases q2 : nameB p.mill
  · go_enter Tryz.func100, Tryz.ntmps100
    go_wp2_with fail
    refine (sNameOk_any p.who _ HS1.out).mono ?_
    rintro e w' ⟨rfl, rfl⟩
    rw [q1]
    go_wp2_with fail
    refine (sNameOk_any p.mill _ HS2.out).mono ?_
    rintro e w' ⟨rfl, rfl⟩
    rw [q2]
    go_wp2
    go_ret
    exact ⟨by rw [HN.out, q1, q2]; rfl, below_new _ _⟩
  cases q3 : inB 1 1000000 p.amount
  · go_enter Tryz.func100, Tryz.ntmps100
    go_wp2_with fail
    refine (sNameOk_any p.who _ HS1.out).mono ?_
    rintro e w' ⟨rfl, rfl⟩
    rw [q1]
    go_wp2_with fail
    refine (sNameOk_any p.mill _ HS2.out).mono ?_
    rintro e w' ⟨rfl, rfl⟩
    rw [q2]
    go_wp2_with fail
    refine (l1In_any _ _ _ _).mono ?_
    rintro e w' ⟨rfl, rfl⟩
    rw [q3]
    go_wp2
    go_ret
    exact ⟨by rw [HN.out, q1, q2, q3]; rfl, below_new _ _⟩
  cases q4 : inB 0 1000 p.ripe
  all_goals
    go_enter Tryz.func100, Tryz.ntmps100
    go_wp2_with fail
    refine (sNameOk_any p.who _ HS1.out).mono ?_
    rintro e w' ⟨rfl, rfl⟩
    rw [q1]
    go_wp2_with fail
    refine (sNameOk_any p.mill _ HS2.out).mono ?_
    rintro e w' ⟨rfl, rfl⟩
    rw [q2]
    go_wp2_with fail
    refine (l1In_any _ _ _ _).mono ?_
    rintro e w' ⟨rfl, rfl⟩
    rw [q3]
    go_wp2_with fail
    refine (l1In_any _ _ _ _).mono ?_
    rintro e w' ⟨rfl, rfl⟩
    rw [q4]
    go_wp2
    go_ret
    exact ⟨by rw [HN.out, q1, q2, q3, q4]; rfl, below_new _ _⟩

/-- The first n are right, and none is ripe sooner than one ahead of it. -/
def WUp (ps : List Wai) (n : Nat) : Prop := (∀ j (h : j < ps.length), j < n → waitB ps[j] = true) ∧ ∀ j (h : j + 1 < ps.length), j + 1 < n → ps[j].ripe ≤ ps[j + 1].ripe
noncomputable instance (ps : List Wai) (n : Nat) : Decidable (WUp ps n) := Classical.propDecidable _
noncomputable def waitsB (ps : List Wai) : Bool := decide (ps.length ≤ 20 ∧ WUp ps ps.length)
theorem waits_true {ps : List Wai} (h : waitsB ps = true) : ps.length ≤ 20 ∧ WUp ps ps.length := by simpa [waitsB] using h
theorem waits_yes {ps : List Wai} (h : ps.length ≤ 20) (h1 : WUp ps ps.length) : waitsB ps = true := by simp [waitsB, h, h1]
theorem waits_long {ps : List Wai} (h : ¬ ps.length ≤ 20) : waitsB ps = false := by simp [waitsB]; omega
theorem waits_not {ps : List Wai} {k : Nat} (hk : k < ps.length) (h : waitB ps[k] = false) : waitsB ps = false := by
  simp only [waitsB, decide_eq_false_iff_not]; rintro ⟨_, h1, _⟩; rw [h1 k hk hk] at h; cases h
theorem waits_fall {ps : List Wai} {k : Nat} (hk : k + 1 < ps.length) (h : ps[k + 1].ripe < ps[k].ripe) : waitsB ps = false := by
  simp only [waitsB, decide_eq_false_iff_not]; rintro ⟨_, _, h1⟩; have := h1 k hk hk; omega
theorem WUp.zero (ps : List Wai) : WUp ps 0 := ⟨fun _ _ h => by omega, fun _ _ h => by omega⟩
theorem WUp.one {ps : List Wai} (hk : 0 < ps.length) (h : waitB ps[0] = true) : WUp ps 1 :=
  ⟨fun j hj hlt => by obtain rfl : j = 0 := by omega
                      exact h, fun _ _ h => by omega⟩
theorem WUp.succ {ps : List Wai} {k : Nat} (h : WUp ps (k + 1)) (hk : k + 1 < ps.length) (h1 : waitB ps[k + 1] = true) (h2 : ps[k].ripe ≤ ps[k + 1].ripe) : WUp ps (k + 2) :=
  ⟨fun j hj hlt => by
    by_cases e : j = k + 1
    · subst e; exact h1
    · exact h.1 j hj (by omega), fun j hj hlt => by
    by_cases e : j = k
    · subst e; exact h2
    · exact h.2 j hj (by omega)⟩
def WSized (ps : List Wai) : Prop := ∀ k (h : k < ps.length), ps[k].who.size ≤ maxLen ∧ ps[k].mill.size ≤ maxLen

set_option maxHeartbeats 4000000 in
set_option maxRecDepth 100000 in
theorem sWaitsOk_any {w : World} {a : Option Addr} {ps : List Wai} (cap : Nat) (h : Recs Wai.cs w a ps) (hl : ps.length ≤ 9223372036854775807) (hs : WSized ps) :
    Calls Tryz.prog 65 #[.slice a ps.length cap] w fun e w' => e = .returned (.bool (waitsB ps)) ∧ Below w.heap.size w w' := by
  have H := Lib.hid h
  have HS := Lib.hid hs
  clear h hs
  go_enter Tryz.func65, Tryz.ntmps65
  go_wp2
  go_loopw [3] (fun i w' => ∃ (k : Nat), k ≤ ps.length ∧ i = .int .i64 k ∧ Below w.heap.size w w' ∧ WUp ps k) (fun i _ => ps.length - (intOf i).toNat)
  case atStart => exact ⟨0, Nat.zero_le _, rfl, Below.refl _ _, WUp.zero _⟩
  case round =>
    obtain ⟨k, hk, rfl, hb, hu⟩ := hrel
    have HB := Lib.hid hb
    have HU := Lib.hid hu
    clear hu hb
    by_cases hlt : k < ps.length
    · obtain ⟨b, off, rfl, hlb, c0, c1, c2, c3⟩ := Wai.at (H.out.below HB.out) k hlt
      have hz1 := Lib.hid (HS.out k hlt).1
      have hz2 := Lib.hid (HS.out k hlt).2
      have e0 := Grow.cell c0
      have e1 := Grow.cell c1
      have e2 := Grow.cell c2
      have e3 := Grow.cell c3
      cases hn : waitB ps[k]
      · have HN := Lib.hid (waits_not hlt hn)
        go_wp2
        refine wp_region_grow (by kernel_rfl) (by kernel_rfl) ?_
        repeat (go_big_quiet_step ((go_at_call 100; exact grow_call (bool_is hn) (l6Wait_any ps[k] _ hz1.out hz2.out))))
        refine wpQuiet_nil ?_
        intro _ hw'
        obtain ⟨gq, rfl⟩ := hw'
        have HB2 := Lib.hid (below_trans HB.out gq.ok)
        go_wp2
        go_ret
        exact ⟨by rw [HN.out]; rfl, HB2.out⟩
      cases k with
      | zero =>
        have HN := Lib.hid (WUp.one hlt hn)
        simp only [Nat.zero_mul, Nat.add_zero] at e0 e1 e2 e3
        go_wp2
        refine wp_region_grow (by kernel_rfl) (by kernel_rfl) ?_
        repeat (go_big_quiet_step ((go_at_call 100; exact grow_call (bool_is hn) (l6Wait_any ps[0] _ hz1.out hz2.out))))
        refine wpQuiet_nil ?_
        intro _ hw'
        obtain ⟨gq, rfl⟩ := hw'
        have HB2 := Lib.hid (below_trans HB.out gq.ok)
        go_wp2
        go_roundw
        case rel => exact ⟨1, by omega, by go_num, HB2.out, HN.out⟩
        case measure => simp [intOf]; omega
      | succ m =>
        obtain ⟨b', off', e', _, d0, d1, d2, d3⟩ := Wai.at (H.out.below HB.out) m (by omega)
        obtain ⟨rfl, rfl⟩ : b' = b ∧ off' = off := by injection e' with e'; injection e' with e1 e2; exact ⟨e1.symm, e2.symm⟩
        clear e'
        have f3 := Grow.cell d3
        cases hq : decide (ps[m + 1].ripe < ps[m].ripe)
        · have HN := Lib.hid (HU.out.succ hlt hn (by simpa using hq))
          go_wp2
          refine wp_region_grow (by kernel_rfl) (by kernel_rfl) ?_
          repeat (go_big_quiet_step ((go_at_call 100; exact grow_call (bool_is hn) (l6Wait_any ps[m + 1] _ hz1.out hz2.out))))
          refine wpQuiet_nil ?_
          intro _ hw'
          obtain ⟨gq, rfl⟩ := hw'
          have HB2 := Lib.hid (below_trans HB.out gq.ok)
          go_wp2
          go_roundw
          case rel => exact ⟨m + 2, by omega, by go_num, HB2.out, HN.out⟩
          case measure => simp [intOf]; omega
        · have HN := Lib.hid (waits_fall hlt (by simpa using hq))
          go_wp2
          refine wp_region_grow (by kernel_rfl) (by kernel_rfl) ?_
          repeat (go_big_quiet_step ((go_at_call 100; exact grow_call (bool_is hn) (l6Wait_any ps[m + 1] _ hz1.out hz2.out))))
          refine wpQuiet_nil ?_
          intro _ hw'
          obtain ⟨gq, rfl⟩ := hw'
          have HB2 := Lib.hid (below_trans HB.out gq.ok)
          go_wp2
          go_ret
          exact ⟨by rw [HN.out]; rfl, HB2.out⟩
    · obtain rfl : k = ps.length := by omega
      by_cases h20 : ps.length ≤ 20
      · have HN := Lib.hid (waits_yes h20 HU.out)
        go_wp2
        go_ret
        exact ⟨by rw [HN.out]; simp; omega, HB.out⟩
      · have HN := Lib.hid (waits_long h20)
        go_wp2
        go_ret
        exact ⟨by rw [HN.out]; simp; omega, HB.out⟩

def wai0 : Wai := ⟨ByteArray.empty, ByteArray.empty, 0, 0⟩
def watn (ps : List Wai) (j : Nat) : Wai := ps.getD j wai0
theorem watn_eq {ps : List Wai} {j : Nat} (h : j < ps.length) : watn ps j = ps[j] := by simp [watn, h]
/-- All amounts of the first k. -/
def sumA (ps : List Wai) : Nat → Int
  | 0 => 0
  | k + 1 => sumA ps k + (watn ps k).amount
noncomputable def amountInV (ps : List Wai) : Int := if waitsB ps = true then sumA ps ps.length else -1
theorem wait_bd {p : Wai} (h : waitB p = true) : (1 ≤ p.amount ∧ p.amount ≤ 1000000) ∧ 0 ≤ p.ripe ∧ p.ripe ≤ 1000 := by
  simp only [waitB, Bool.and_eq_true] at h
  obtain ⟨_, _, h1, h2⟩ := h
  simp [inB] at h1 h2; omega
theorem sumA_bd {ps : List Wai} (h : WUp ps ps.length) : ∀ k, k ≤ ps.length → 0 ≤ sumA ps k ∧ sumA ps k ≤ 1000000 * k
  | 0, _ => by simp [sumA]
  | k + 1, hk => by
    have h1 := sumA_bd h k (by omega)
    have h2 := wait_bd (h.1 k (by omega) (by omega))
    simp only [sumA, watn_eq (show k < ps.length by omega)]
    omega

set_option maxHeartbeats 1000000 in
set_option maxRecDepth 100000 in
theorem l6Amount_any {w : World} {a : Option Addr} {ps : List Wai} (cap : Nat) (h : Recs Wai.cs w a ps) (hf : waitsB ps = true) :
    Calls Tryz.prog 70 #[.slice a ps.length cap] w fun e w' => e = .returned (.int .i64 (sumA ps ps.length)) ∧ w = w' := by
  obtain ⟨h20, hm⟩ := waits_true hf
  have H := Lib.hid h
  have HM := Lib.hid hm
  clear h hm hf
  go_enter Tryz.func70, Tryz.ntmps70
  go_wp2
  go_loop [3, 4] (fun t i => ∃ k : Nat, k ≤ ps.length ∧ i = .int .i64 k ∧ t = .int .i64 (sumA ps k)) (fun _ i => ps.length - (intOf i).toNat)
  case atStart => exact ⟨0, Nat.zero_le _, rfl, rfl⟩
  case round =>
    obtain ⟨k, hk, rfl, rfl⟩ := hrel
    have hb := sumA_bd HM.out k hk
    by_cases hlt : k < ps.length
    · obtain ⟨b, off, rfl, _, c0, c1, c2, c3⟩ := Wai.at H.out k hlt
      have HN := Lib.hid (show sumA ps (k + 1) = sumA ps k + ps[k].amount by simp only [sumA, watn_eq hlt])
      have hb3 := wait_bd (HM.out.1 k hlt hlt)
      go_wp2
      go_round
      case rel => exact ⟨k + 1, by omega, by go_num, by rw [HN.out]⟩
      case measure => simp [intOf]; omega
    · obtain rfl : k = ps.length := by omega
      go_wp2
      go_ret
      exact ⟨rfl, rfl⟩

end Go.Proofs.YtlnnchgaloejlaaGreat
