/-
  What chapter 5's PartsOk, SharesOf and SharesIn answer, the model's, at every list of parts.
-/
import Derived.Test.YtbgklakhelcgcaaRecPart
import Derived.Test.YtbgklakhelcgcaaFind
import Derived.Test.YtbgklakhelcgcaaName
import Derived.Test.YtbgklakhelcgcaaL1In
namespace Go.Proofs.Ytbgklakhelcgcaa
open Go.ChangeShapes Go.WideShapes Go.ChangeAt Go.RowKit

/-- Is p ahead of these two names? -/
def lessB (p : Par) (who mill : ByteArray) : Bool := if (p.who.toList == who.toList) = true then Op.bytesLess p.mill.toList mill.toList else Op.bytesLess p.who.toList who.toList
theorem less_same {p : Par} {who mill : ByteArray} (h : (p.who.toList == who.toList) = true) : lessB p who mill = Op.bytesLess p.mill.toList mill.toList := by unfold lessB; rw [if_pos h]
theorem less_other {p : Par} {who mill : ByteArray} (h : (p.who.toList == who.toList) = false) : lessB p who mill = Op.bytesLess p.who.toList who.toList := by unfold lessB; rw [if_neg (by rw [h]; decide)]

set_option maxHeartbeats 1000000 in
set_option maxRecDepth 100000 in
theorem l5Less_any (p : Par) (who mill : ByteArray) (w : World) :
    Calls Try.prog 56 #[.agg #[.string p.who, .string p.mill, .int .i64 p.shares], .string who, .string mill] w fun e w' => e = .returned (.bool (lessB p who mill)) ∧ Below w.heap.size w w' := by
  cases h : (p.who.toList == who.toList)
  · have HN := Lib.hid (less_other (mill := mill) h)
    go_enter Try.func56, Try.ntmps56
    go_wp2
    go_ret
    exact ⟨by rw [HN.out]; rfl, below_new _ _⟩
  · have HN := Lib.hid (less_same (mill := mill) h)
    go_enter Try.func56, Try.ntmps56
    go_wp2
    go_ret
    exact ⟨by rw [HN.out]; rfl, below_new _ _⟩

/-- A right part. -/
def partB (p : Par) : Bool := nameB p.who && (nameB p.mill && inB 1 1000000000 p.shares)
/-- The first n are right and rise. -/
def PUp (ps : List Par) (n : Nat) : Prop := (∀ j (h : j < ps.length), j < n → partB ps[j] = true) ∧ ∀ j (h : j + 1 < ps.length), j + 1 < n → lessB ps[j] ps[j + 1].who ps[j + 1].mill = true
noncomputable instance (ps : List Par) (n : Nat) : Decidable (PUp ps n) := Classical.propDecidable _
/-- They are parts. -/
noncomputable def partsB (ps : List Par) : Bool := decide (ps.length ≤ 20 ∧ PUp ps ps.length)
theorem parts_true {ps : List Par} (h : partsB ps = true) : ps.length ≤ 20 ∧ PUp ps ps.length := by simpa [partsB] using h
theorem parts_yes {ps : List Par} (h : ps.length ≤ 20) (h1 : PUp ps ps.length) : partsB ps = true := by simp [partsB, h, h1]
theorem parts_long {ps : List Par} (h : ¬ ps.length ≤ 20) : partsB ps = false := by simp [partsB]; omega
theorem parts_not {ps : List Par} {k : Nat} (hk : k < ps.length) (h : partB ps[k] = false) : partsB ps = false := by
  simp only [partsB, decide_eq_false_iff_not]; rintro ⟨_, h1, _⟩; rw [h1 k hk hk] at h; cases h
theorem parts_fall {ps : List Par} {k : Nat} (hk : k + 1 < ps.length) (h : lessB ps[k] ps[k + 1].who ps[k + 1].mill = false) : partsB ps = false := by
  simp only [partsB, decide_eq_false_iff_not]; rintro ⟨_, _, h1⟩; rw [h1 k hk hk] at h; cases h
theorem PUp.zero (ps : List Par) : PUp ps 0 := ⟨fun _ _ h => by omega, fun _ _ h => by omega⟩
theorem PUp.one {ps : List Par} (hk : 0 < ps.length) (h : partB ps[0] = true) : PUp ps 1 :=
  ⟨fun j hj hlt => by obtain rfl : j = 0 := by omega
                      exact h, fun _ _ h => by omega⟩
theorem PUp.succ {ps : List Par} {k : Nat} (h : PUp ps (k + 1)) (hk : k + 1 < ps.length) (h1 : partB ps[k + 1] = true) (h2 : lessB ps[k] ps[k + 1].who ps[k + 1].mill = true) : PUp ps (k + 2) :=
  ⟨fun j hj hlt => by
    by_cases e : j = k + 1
    · subst e; exact h1
    · exact h.1 j hj (by omega), fun j hj hlt => by
    by_cases e : j = k
    · subst e; exact h2
    · exact h.2 j hj (by omega)⟩

/-- Names of at most so many bytes. -/
def PSized (ps : List Par) : Prop := ∀ k (h : k < ps.length), ps[k].who.size ≤ maxLen ∧ ps[k].mill.size ≤ maxLen

set_option maxHeartbeats 4000000 in
set_option maxRecDepth 100000 in
theorem sPartsOk_any {w : World} {a : Option Addr} {ps : List Par} (cap : Nat) (h : Recs Par.cs w a ps) (hl : ps.length ≤ 9223372036854775807) (hs : PSized ps) :
    Calls Try.prog 46 #[.slice a ps.length cap] w fun e w' => e = .returned (.bool (partsB ps)) ∧ Below w.heap.size w w' := by
  have H := Lib.hid h
  have HS := Lib.hid hs
  clear h hs
  go_enter Try.func46, Try.ntmps46
  go_wp2
  go_loopw [3] (fun i w' => ∃ (k : Nat), k ≤ ps.length ∧ i = .int .i64 k ∧ Below w.heap.size w w' ∧ PUp ps k) (fun i _ => ps.length - (intOf i).toNat)
  case atStart => exact ⟨0, Nat.zero_le _, rfl, Below.refl _ _, PUp.zero _⟩
  case round =>
    obtain ⟨k, hk, rfl, hb, hu⟩ := hrel
    have HB := Lib.hid hb
    have HU := Lib.hid hu
    clear hu hb
    by_cases hlt : k < ps.length
    · obtain ⟨b, off, rfl, hlb, c0, c1, c2⟩ := Par.at (H.out.below HB.out) k hlt
      have hz1 := Lib.hid (HS.out k hlt).1
      have hz2 := Lib.hid (HS.out k hlt).2
      have e0 := Grow.cell c0
      have e1 := Grow.cell c1
      have e2 := Grow.cell c2
      have HPB : Hid (partB ps[k] = (nameB ps[k].who && (nameB ps[k].mill && inB 1 1000000000 ps[k].shares))) := rfl
      cases hw1 : nameB ps[k].who
      · have HN := Lib.hid (parts_not hlt (by rw [HPB.out, hw1]; rfl))
        go_wp2
        refine wp_region_grow (by kernel_rfl) (by kernel_rfl) ?_
        repeat (go_big_quiet_step (first | (go_at_call 43; first | with_reducible exact grow_same (bool_is hw1) (sNameOk_any ps[k].who _ hz1.out))))
        refine wpQuiet_nil ?_
        intro _ hw'
        obtain ⟨gq, rfl⟩ := hw'
        have HB2 := Lib.hid (below_trans HB.out gq.ok)
        go_wp2
        go_ret
        exact ⟨by rw [HN.out]; rfl, HB2.out⟩
      cases hw2 : nameB ps[k].mill
      · have HN := Lib.hid (parts_not hlt (by rw [HPB.out, hw1, hw2]; rfl))
        go_wp2
        refine wp_region_grow (by kernel_rfl) (by kernel_rfl) ?_
        repeat (go_big_quiet_step (first | (go_at_call 43; first | with_reducible exact grow_same (bool_is hw1) (sNameOk_any ps[k].who _ hz1.out) | with_reducible exact grow_same (bool_is hw2) (sNameOk_any ps[k].mill _ hz2.out))))
        refine wpQuiet_nil ?_
        intro _ hw'
        obtain ⟨gq, rfl⟩ := hw'
        have HB2 := Lib.hid (below_trans HB.out gq.ok)
        go_wp2
        go_ret
        exact ⟨by rw [HN.out]; rfl, HB2.out⟩
      cases hw3 : inB 1 1000000000 ps[k].shares
      · have HN := Lib.hid (parts_not hlt (by rw [HPB.out, hw1, hw2, hw3]; rfl))
        go_wp2
        refine wp_region_grow (by kernel_rfl) (by kernel_rfl) ?_
        repeat (go_big_quiet_step (first | (go_at_call 43; first | with_reducible exact grow_same (bool_is hw1) (sNameOk_any ps[k].who _ hz1.out) | with_reducible exact grow_same (bool_is hw2) (sNameOk_any ps[k].mill _ hz2.out)) | (go_at_call 48; exact grow_same (bool_is hw3) (l1In_any _ _ _ _))))
        refine wpQuiet_nil ?_
        intro _ hw'
        obtain ⟨gq, rfl⟩ := hw'
        have HB2 := Lib.hid (below_trans HB.out gq.ok)
        go_wp2
        go_ret
        exact ⟨by rw [HN.out]; rfl, HB2.out⟩
      have HPT := Lib.hid (show partB ps[k] = true by rw [HPB.out, hw1, hw2, hw3]; rfl)
      cases k with
      | zero =>
        have HN := Lib.hid (PUp.one hlt HPT.out)
        simp only [Nat.zero_mul, Nat.add_zero] at e0 e1 e2
        go_wp2
        refine wp_region_grow (by kernel_rfl) (by kernel_rfl) ?_
        repeat (go_big_quiet_step (first | (go_at_call 43; first | with_reducible exact grow_same (bool_is hw1) (sNameOk_any ps[0].who _ hz1.out) | with_reducible exact grow_same (bool_is hw2) (sNameOk_any ps[0].mill _ hz2.out)) | (go_at_call 48; exact grow_same (bool_is hw3) (l1In_any _ _ _ _))))
        refine wpQuiet_nil ?_
        intro _ hw'
        obtain ⟨gq, rfl⟩ := hw'
        have HB2 := Lib.hid (below_trans HB.out gq.ok)
        go_wp2
        go_roundw
        case rel => exact ⟨1, by omega, by go_num, HB2.out, HN.out⟩
        case measure => simp [intOf]; omega
      | succ m =>
        obtain ⟨b', off', e', _, d0, d1, d2⟩ := Par.at (H.out.below HB.out) m (by omega)
        obtain ⟨rfl, rfl⟩ : b' = b ∧ off' = off := by injection e' with e'; injection e' with e1 e2; exact ⟨e1.symm, e2.symm⟩
        clear e'
        have f0 := Grow.cell d0
        have f1 := Grow.cell d1
        have f2 := Grow.cell d2
        cases hq : lessB ps[m] ps[m + 1].who ps[m + 1].mill
        · have HN := Lib.hid (parts_fall hlt hq)
          go_wp2
          refine wp_region_grow (by kernel_rfl) (by kernel_rfl) ?_
          repeat (go_big_quiet_step (first | (go_at_call 43; first | with_reducible exact grow_same (bool_is hw1) (sNameOk_any ps[m + 1].who _ hz1.out) | with_reducible exact grow_same (bool_is hw2) (sNameOk_any ps[m + 1].mill _ hz2.out)) | (go_at_call 48; exact grow_same (bool_is hw3) (l1In_any _ _ _ _)) | (go_at_call 56; exact grow_call (bool_is hq) (l5Less_any ps[m] ps[m + 1].who ps[m + 1].mill _))))
          refine wpQuiet_nil ?_
          intro _ hw'
          obtain ⟨gq, rfl⟩ := hw'
          have HB2 := Lib.hid (below_trans HB.out gq.ok)
          go_wp2
          go_ret
          exact ⟨by rw [HN.out]; rfl, HB2.out⟩
        · have HN := Lib.hid (HU.out.succ hlt HPT.out hq)
          go_wp2
          refine wp_region_grow (by kernel_rfl) (by kernel_rfl) ?_
          repeat (go_big_quiet_step (first | (go_at_call 43; first | with_reducible exact grow_same (bool_is hw1) (sNameOk_any ps[m + 1].who _ hz1.out) | with_reducible exact grow_same (bool_is hw2) (sNameOk_any ps[m + 1].mill _ hz2.out)) | (go_at_call 48; exact grow_same (bool_is hw3) (l1In_any _ _ _ _)) | (go_at_call 56; exact grow_call (bool_is hq) (l5Less_any ps[m] ps[m + 1].who ps[m + 1].mill _))))
          refine wpQuiet_nil ?_
          intro _ hw'
          obtain ⟨gq, rfl⟩ := hw'
          have HB2 := Lib.hid (below_trans HB.out gq.ok)
          go_wp2
          go_roundw
          case rel => exact ⟨m + 2, by omega, by go_num, HB2.out, HN.out⟩
          case measure => simp [intOf]; omega
    · obtain rfl : k = ps.length := by omega
      by_cases h20 : ps.length ≤ 20
      · have HN := Lib.hid (parts_yes h20 HU.out)
        go_wp2
        go_ret
        exact ⟨by rw [HN.out]; simp; omega, HB.out⟩
      · have HN := Lib.hid (parts_long h20)
        go_wp2
        go_ret
        exact ⟨by rw [HN.out]; simp; omega, HB.out⟩
end Go.Proofs.Ytbgklakhelcgcaa
