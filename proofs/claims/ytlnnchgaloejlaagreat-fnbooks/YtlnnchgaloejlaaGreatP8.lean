/-
  Texts joined: PartS, PartV.
-/
import Derived.Test.YtlnnchgaloejlaaGreatP1
import Derived.Test.YtlnnchgaloejlaaGreatP7
import Derived.Maps.AppendAt
namespace Go.Proofs.YtlnnchgaloejlaaGreat
open Go.ChangeShapes Go.WideShapes Go.ChangeAt Go.RowKit

/-- Is p ahead of these two names? -/
def lessB (p : Par) (who mill : ByteArray) : Bool := if (p.who.toList == who.toList) = true then Op.bytesLess p.mill.toList mill.toList else Op.bytesLess p.who.toList who.toList
theorem less_same {p : Par} {who mill : ByteArray} (h : (p.who.toList == who.toList) = true) : lessB p who mill = Op.bytesLess p.mill.toList mill.toList := by unfold lessB; rw [if_pos h]
theorem less_other {p : Par} {who mill : ByteArray} (h : (p.who.toList == who.toList) = false) : lessB p who mill = Op.bytesLess p.who.toList who.toList := by unfold lessB; rw [if_neg (by rw [h]; decide)]

set_option maxHeartbeats 1000000 in
set_option maxRecDepth 100000 in
theorem l5Less_any (p : Par) (who mill : ByteArray) (w : World) :
    Calls Tryz.prog 99 #[.agg #[.string p.who, .string p.mill, .int .i64 p.shares], .string who, .string mill] w fun e w' => e = .returned (.bool (lessB p who mill)) ∧ Below w.heap.size w w' := by
  cases h : (p.who.toList == who.toList)
  · have HN := Lib.hid (less_other (mill := mill) h)
    go_enter Tryz.func99, Tryz.ntmps99
    go_wp2
    go_ret
    exact ⟨by rw [HN.out]; rfl, below_new _ _⟩
  · have HN := Lib.hid (less_same (mill := mill) h)
    go_enter Tryz.func99, Tryz.ntmps99
    go_wp2
    go_ret
    exact ⟨by rw [HN.out]; rfl, below_new _ _⟩

/-- A right part. -/
def partB (p : Par) : Bool := nameB p.who && (nameB p.mill && inB 1 1000000000 p.shares)
/-- The first n are right and rise. -/
def PUp (ps : List Par) (n : Nat) : Prop := (∀ j (h : j < ps.length), j < n → partB ps[j] = true) ∧ ∀ j (h : j + 1 < ps.length), j + 1 < n → lessB ps[j] ps[j + 1].who ps[j + 1].mill = true
noncomputable instance (ps : List Par) (n : Nat) : Decidable (PUp ps n) := Classical.propDecidable _
/-- They are parts. -/
noncomputable def partsB (ps : List Par) : Bool := decide (ps.length ≤ 20 ∧ PUp ps ps.length)
theorem parts_true {ps : List Par} (h : partsB ps = true) : ps.length ≤ 20 ∧ PUp ps ps.length := by simpa [partsB] using h
theorem parts_yes {ps : List Par} (h : ps.length ≤ 20) (h1 : PUp ps ps.length) : partsB ps = true := by simp [partsB, h, h1]
theorem parts_long {ps : List Par} (h : ¬ ps.length ≤ 20) : partsB ps = false := by simp [partsB]; omega
theorem parts_not {ps : List Par} {k : Nat} (hk : k < ps.length) (h : partB ps[k] = false) : partsB ps = false := by
  simp only [partsB, decide_eq_false_iff_not]; rintro ⟨_, h1, _⟩; rw [h1 k hk hk] at h; cases h
theorem parts_fall {ps : List Par} {k : Nat} (hk : k + 1 < ps.length) (h : lessB ps[k] ps[k + 1].who ps[k + 1].mill = false) : partsB ps = false := by
  simp only [partsB, decide_eq_false_iff_not]; rintro ⟨_, _, h1⟩; rw [h1 k hk hk] at h; cases h
theorem PUp.zero (ps : List Par) : PUp ps 0 := ⟨fun _ _ h => by omega, fun _ _ h => by omega⟩
theorem PUp.one {ps : List Par} (hk : 0 < ps.length) (h : partB ps[0] = true) : PUp ps 1 :=
  ⟨fun j hj hlt => by obtain rfl : j = 0 := by omega
                      exact h, fun _ _ h => by omega⟩
theorem PUp.succ {ps : List Par} {k : Nat} (h : PUp ps (k + 1)) (hk : k + 1 < ps.length) (h1 : partB ps[k + 1] = true) (h2 : lessB ps[k] ps[k + 1].who ps[k + 1].mill = true) : PUp ps (k + 2) :=
  ⟨fun j hj hlt => by
    by_cases e : j = k + 1
    · subst e; exact h1
    · exact h.1 j hj (by omega), fun j hj hlt => by
    by_cases e : j = k
    · subst e; exact h2
    · exact h.2 j hj (by omega)⟩

/-- Names of at most so many bytes. -/
def PSized (ps : List Par) : Prop := ∀ k (h : k < ps.length), ps[k].who.size ≤ maxLen ∧ ps[k].mill.size ≤ maxLen

set_option maxHeartbeats 4000000 in
set_option maxRecDepth 100000 in
theorem sPartsOk_any {w : World} {a : Option Addr} {ps : List Par} (cap : Nat) (h : Recs Par.cs w a ps) (hl : ps.length ≤ 9223372036854775807) (hs : PSized ps) :
    Calls Tryz.prog 64 #[.slice a ps.length cap] w fun e w' => e = .returned (.bool (partsB ps)) ∧ Below w.heap.size w w' := by
  have H := Lib.hid h
  have HS := Lib.hid hs
  clear h hs
  go_enter Tryz.func64, Tryz.ntmps64
  go_wp2
  go_loopw [3] (fun i w' => ∃ (k : Nat), k ≤ ps.length ∧ i = .int .i64 k ∧ Below w.heap.size w w' ∧ PUp ps k) (fun i _ => ps.length - (intOf i).toNat)
  case atStart => exact ⟨0, Nat.zero_le _, rfl, Below.refl _ _, PUp.zero _⟩
  case round =>
    obtain ⟨k, hk, rfl, hb, hu⟩ := hrel
    have HB := Lib.hid hb
    have HU := Lib.hid hu
    clear hu hb
    by_cases hlt : k < ps.length
    · obtain ⟨b, off, rfl, hlb, c0, c1, c2⟩ := Par.at (H.out.below HB.out) k hlt
      have hz1 := Lib.hid (HS.out k hlt).1
      have hz2 := Lib.hid (HS.out k hlt).2
      have e0 := Grow.cell c0
      have e1 := Grow.cell c1
      have e2 := Grow.cell c2
      have HPB : Hid (partB ps[k] = (nameB ps[k].who && (nameB ps[k].mill && inB 1 1000000000 ps[k].shares))) := rfl
      cases hw1 : nameB ps[k].who
      · have HN := Lib.hid (parts_not hlt (by rw [HPB.out, hw1]; rfl))
        go_wp2
        refine wp_region_grow (by kernel_rfl) (by kernel_rfl) ?_
        repeat (go_big_quiet_step (first | (go_at_call 83; first | with_reducible exact grow_same (bool_is hw1) (sNameOk_any ps[k].who _ hz1.out))))
        refine wpQuiet_nil ?_
        intro _ hw'
        obtain ⟨gq, rfl⟩ := hw'
        have HB2 := Lib.hid (below_trans HB.out gq.ok)
        go_wp2
        go_ret
        exact ⟨by rw [HN.out]; rfl, HB2.out⟩
      cases hw2 : nameB ps[k].mill
      · have HN := Lib.hid (parts_not hlt (by rw [HPB.out, hw1, hw2]; rfl))
        go_wp2
        refine wp_region_grow (by kernel_rfl) (by kernel_rfl) ?_
        repeat (go_big_quiet_step (first | (go_at_call 83; first | with_reducible exact grow_same (bool_is hw1) (sNameOk_any ps[k].who _ hz1.out) | with_reducible exact grow_same (bool_is hw2) (sNameOk_any ps[k].mill _ hz2.out))))
        refine wpQuiet_nil ?_
        intro _ hw'
        obtain ⟨gq, rfl⟩ := hw'
        have HB2 := Lib.hid (below_trans HB.out gq.ok)
        go_wp2
        go_ret
        exact ⟨by rw [HN.out]; rfl, HB2.out⟩
      cases hw3 : inB 1 1000000000 ps[k].shares
      · have HN := Lib.hid (parts_not hlt (by rw [HPB.out, hw1, hw2, hw3]; rfl))
        go_wp2
        refine wp_region_grow (by kernel_rfl) (by kernel_rfl) ?_
        repeat (go_big_quiet_step (first | (go_at_call 83; first | with_reducible exact grow_same (bool_is hw1) (sNameOk_any ps[k].who _ hz1.out) | with_reducible exact grow_same (bool_is hw2) (sNameOk_any ps[k].mill _ hz2.out)) | (go_at_call 66; exact grow_same (bool_is hw3) (l1In_any _ _ _ _))))
        refine wpQuiet_nil ?_
        intro _ hw'
        obtain ⟨gq, rfl⟩ := hw'
        have HB2 := Lib.hid (below_trans HB.out gq.ok)
        go_wp2
        go_ret
        exact ⟨by rw [HN.out]; rfl, HB2.out⟩
      have HPT := Lib.hid (show partB ps[k] = true by rw [HPB.out, hw1, hw2, hw3]; rfl)
      cases k with
      | zero =>
        have HN := Lib.hid (PUp.one hlt HPT.out)
        simp only [Nat.zero_mul, Nat.add_zero] at e0 e1 e2
        go_wp2
        refine wp_region_grow (by kernel_rfl) (by kernel_rfl) ?_
        repeat (go_big_quiet_step (first | (go_at_call 83; first | with_reducible exact grow_same (bool_is hw1) (sNameOk_any ps[0].who _ hz1.out) | with_reducible exact grow_same (bool_is hw2) (sNameOk_any ps[0].mill _ hz2.out)) | (go_at_call 66; exact grow_same (bool_is hw3) (l1In_any _ _ _ _))))
        refine wpQuiet_nil ?_
        intro _ hw'
        obtain ⟨gq, rfl⟩ := hw'
        have HB2 := Lib.hid (below_trans HB.out gq.ok)
        go_wp2
        go_roundw
        case rel => exact ⟨1, by omega, by go_num, HB2.out, HN.out⟩
        case measure => simp [intOf]; omega
      | succ m =>
        obtain ⟨b', off', e', _, d0, d1, d2⟩ := Par.at (H.out.below HB.out) m (by omega)
        obtain ⟨rfl, rfl⟩ : b' = b ∧ off' = off := by injection e' with e'; injection e' with e1 e2; exact ⟨e1.symm, e2.symm⟩
        clear e'
        have f0 := Grow.cell d0
        have f1 := Grow.cell d1
        have f2 := Grow.cell d2
        cases hq : lessB ps[m] ps[m + 1].who ps[m + 1].mill
        · have HN := Lib.hid (parts_fall hlt hq)
          go_wp2
          refine wp_region_grow (by kernel_rfl) (by kernel_rfl) ?_
          repeat (go_big_quiet_step (first | (go_at_call 83; first | with_reducible exact grow_same (bool_is hw1) (sNameOk_any ps[m + 1].who _ hz1.out) | with_reducible exact grow_same (bool_is hw2) (sNameOk_any ps[m + 1].mill _ hz2.out)) | (go_at_call 66; exact grow_same (bool_is hw3) (l1In_any _ _ _ _)) | (go_at_call 99; exact grow_call (bool_is hq) (l5Less_any ps[m] ps[m + 1].who ps[m + 1].mill _))))
          refine wpQuiet_nil ?_
          intro _ hw'
          obtain ⟨gq, rfl⟩ := hw'
          have HB2 := Lib.hid (below_trans HB.out gq.ok)
          go_wp2
          go_ret
          exact ⟨by rw [HN.out]; rfl, HB2.out⟩
        · have HN := Lib.hid (HU.out.succ hlt HPT.out hq)
          go_wp2
          refine wp_region_grow (by kernel_rfl) (by kernel_rfl) ?_
          repeat (go_big_quiet_step (first | (go_at_call 83; first | with_reducible exact grow_same (bool_is hw1) (sNameOk_any ps[m + 1].who _ hz1.out) | with_reducible exact grow_same (bool_is hw2) (sNameOk_any ps[m + 1].mill _ hz2.out)) | (go_at_call 66; exact grow_same (bool_is hw3) (l1In_any _ _ _ _)) | (go_at_call 99; exact grow_call (bool_is hq) (l5Less_any ps[m] ps[m + 1].who ps[m + 1].mill _))))
          refine wpQuiet_nil ?_
          intro _ hw'
          obtain ⟨gq, rfl⟩ := hw'
          have HB2 := Lib.hid (below_trans HB.out gq.ok)
          go_wp2
          go_roundw
          case rel => exact ⟨m + 2, by omega, by go_num, HB2.out, HN.out⟩
          case measure => simp [intOf]; omega
    · obtain rfl : k = ps.length := by omega
      by_cases h20 : ps.length ≤ 20
      · have HN := Lib.hid (parts_yes h20 HU.out)
        go_wp2
        go_ret
        exact ⟨by rw [HN.out]; simp; omega, HB.out⟩
      · have HN := Lib.hid (parts_long h20)
        go_wp2
        go_ret
        exact ⟨by rw [HN.out]; simp; omega, HB.out⟩
end Go.Proofs.YtlnnchgaloejlaaGreat
namespace Go.Proofs.YtlnnchgaloejlaaGreat
open Go.ChangeShapes Go.WideShapes Go.ChangeAt Go.RowKit

def par0 : Par := ⟨ByteArray.empty, ByteArray.empty, 0⟩
def patn (ps : List Par) (j : Nat) : Par := ps.getD j par0
theorem patn_eq {ps : List Par} {j : Nat} (h : j < ps.length) : patn ps j = ps[j] := by simp [patn, h]
/-- Is it of that one in that mill? -/
def isB (p : Par) (who mill : ByteArray) : Bool := (p.who.toList == who.toList) && (p.mill.toList == mill.toList)
/-- Where it is first. -/
def pfindV (ps : List Par) (who mill : ByteArray) : Int := findUp (fun j => isB (patn ps j) who mill) ps.length
theorem pfind_hit {ps : List Par} {who mill : ByteArray} (h : 0 ≤ pfindV ps who mill) : ∃ k : Nat, pfindV ps who mill = (k : Int) ∧ ∃ hk : k < ps.length, isB ps[k] who mill = true := by
  obtain ⟨k, e, hk, hq, _⟩ := findUp_hit h
  exact ⟨k, e, hk, by simpa [patn_eq hk] using hq⟩
theorem pfind_lo (ps : List Par) (who mill : ByteArray) : -1 ≤ pfindV ps who mill := (findUp_lo _ _).1

set_option maxHeartbeats 1000000 in
set_option maxRecDepth 100000 in
theorem l5Find_any {w : World} {a : Option Addr} {ps : List Par} (cap : Nat) (who mill : ByteArray) (h : Recs Par.cs w a ps) (hl : ps.length ≤ 9223372036854775807) :
    Calls Tryz.prog 133 #[.slice a ps.length cap, .string who, .string mill] w fun e w' => e = .returned (.int .i64 (pfindV ps who mill)) ∧ w = w' := by
  have H := Lib.hid h
  clear h
  go_enter Tryz.func133, Tryz.ntmps133
  go_wp2
  go_loop [7] (fun i => ∃ k : Nat, k ≤ ps.length ∧ i = .int .i64 k ∧ ∀ j, j < k → isB (patn ps j) who mill = false) (fun i => ps.length - (intOf i).toNat)
  case atStart => exact ⟨0, Nat.zero_le _, rfl, fun _ h => by omega⟩
  case round =>
    obtain ⟨k, hk, rfl, hu⟩ := hrel
    have HU := Lib.hid hu
    clear hu
    by_cases hlt : k < ps.length
    · obtain ⟨b, off, rfl, _, hc, hc1, -⟩ := Par.at H.out k hlt
      have HP := Lib.hid (patn_eq hlt)
      have HI : Hid (isB ps[k] who mill = ((ps[k].who.toList == who.toList) && (ps[k].mill.toList == mill.toList))) := rfl
      have HNEXT : Hid (isB ps[k] who mill = false → ∀ j, j < k + 1 → isB (patn ps j) who mill = false) := fun hf j hj => by
        by_cases e : j = k
        · subst e; rw [HP.out]; exact hf
        · exact HU.out j (by omega)
      have HHIT : Hid (isB ps[k] who mill = true → pfindV ps who mill = k) := fun ht => findUp_at hlt HU.out (by rw [HP.out]; exact ht)
      cases h1 : (ps[k].who.toList == who.toList)
      · have HN := Lib.hid (HNEXT.out (by rw [HI.out, h1]; rfl))
        go_wp2
        go_round
        case rel => exact ⟨k + 1, by omega, by go_num, HN.out⟩
        case measure => simp [intOf]; omega
      · cases h2 : (ps[k].mill.toList == mill.toList)
        · have HN := Lib.hid (HNEXT.out (by rw [HI.out, h1, h2]; rfl))
          go_wp2
          go_round
          case rel => exact ⟨k + 1, by omega, by go_num, HN.out⟩
          case measure => simp [intOf]; omega
        · have HN := Lib.hid (HHIT.out (by rw [HI.out, h1, h2]; rfl))
          go_wp2
          go_ret
          exact ⟨by rw [HN.out]; rfl, rfl⟩
    · obtain rfl : k = ps.length := by omega
      have HN := Lib.hid (show pfindV ps who mill = -1 from findUp_out HU.out)
      go_wp2
      go_ret
      exact ⟨by rw [HN.out]; rfl, rfl⟩

/-- So many shares that one has there. -/
noncomputable def sharesOfV (ps : List Par) (who mill : ByteArray) : Int := if partsB ps = true then (if 0 ≤ pfindV ps who mill then (patn ps (pfindV ps who mill).toNat).shares else 0) else -1

set_option maxHeartbeats 1000000 in
set_option maxRecDepth 100000 in
theorem sSharesOf_any {w : World} {a : Option Addr} {ps : List Par} (cap : Nat) (who mill : ByteArray) (h : Recs Par.cs w a ps) (hl : ps.length ≤ 9223372036854775807) (hs : PSized ps) :
    Calls Tryz.prog 152 #[.slice a ps.length cap, .string who, .string mill] w fun e w' => e = .returned (.int .i64 (sharesOfV ps who mill)) ∧ Below w.heap.size w w' := by
  have H := Lib.hid h
  have HS := Lib.hid hs
  clear h hs
  go_enter Tryz.func152, Tryz.ntmps152
  go_wp2_with fail
  refine (sPartsOk_any _ H.out hl HS.out).mono ?_
  rintro e w1 ⟨rfl, hb1⟩
  have HB1 := Lib.hid hb1
  clear hb1
  cases hf : partsB ps
  · have HN := Lib.hid (show sharesOfV ps who mill = -1 by simp [sharesOfV, hf])
    go_wp2
    go_ret
    exact ⟨by rw [HN.out]; rfl, HB1.out⟩
  · go_wp2_with fail
    refine (l5Find_any _ _ _ (H.out.below HB1.out) hl).mono ?_
    rintro e w' ⟨rfl, rfl⟩
    by_cases hp : 0 ≤ pfindV ps who mill
    · obtain ⟨k, e, hk, -⟩ := pfind_hit hp
      have HN := Lib.hid (show sharesOfV ps who mill = ps[k].shares by rw [sharesOfV, if_pos hf, if_pos hp, e]; simp [patn_eq hk])
      rw [e]
      obtain ⟨b, off, rfl, _, c0, c1, c2⟩ := Par.at (H.out.below HB1.out) k hk
      clear hp e
      go_wp2
      go_ret
      exact ⟨by rw [HN.out]; rfl, HB1.out⟩
    · have HN := Lib.hid (show sharesOfV ps who mill = 0 by rw [sharesOfV, if_pos hf, if_neg hp])
      have hlo := pfind_lo ps who mill
      have hpe : pfindV ps who mill = -1 := by omega
      rw [hpe]
      clear hp hpe hlo
      go_wp2
      go_ret
      exact ⟨by rw [HN.out]; rfl, HB1.out⟩

/-- All shares of that mill among the first k. -/
def sumS (ps : List Par) (mill : ByteArray) : Nat → Int
  | 0 => 0
  | k + 1 => sumS ps mill k + if ((patn ps k).mill.toList == mill.toList) = true then (patn ps k).shares else 0
noncomputable def sharesInV (ps : List Par) (mill : ByteArray) : Int := if partsB ps = true then sumS ps mill ps.length else -1
theorem part_bd1 {p : Par} (h : partB p = true) : 1 ≤ p.shares ∧ p.shares ≤ 1000000000 := by
  simp only [partB, Bool.and_eq_true] at h
  have := h.2.2
  simp [inB] at this; omega
theorem sumS_bd {ps : List Par} {mill : ByteArray} (h : PUp ps ps.length) : ∀ k, k ≤ ps.length → 0 ≤ sumS ps mill k ∧ sumS ps mill k ≤ 1000000000 * k
  | 0, _ => by simp [sumS]
  | k + 1, hk => by
    have h1 := sumS_bd (mill := mill) h k (by omega)
    have h2 := part_bd1 (h.1 k (by omega) (by omega))
    simp only [sumS, patn_eq (show k < ps.length by omega)]
    split <;> omega

set_option maxHeartbeats 1000000 in
set_option maxRecDepth 100000 in
theorem sSharesIn_any {w : World} {a : Option Addr} {ps : List Par} (cap : Nat) (mill : ByteArray) (h : Recs Par.cs w a ps) (hl : ps.length ≤ 9223372036854775807) (hs : PSized ps) :
    Calls Tryz.prog 68 #[.slice a ps.length cap, .string mill] w fun e w' => e = .returned (.int .i64 (sharesInV ps mill)) ∧ Below w.heap.size w w' := by
  have H := Lib.hid h
  have HS := Lib.hid hs
  clear h hs
  go_enter Tryz.func68, Tryz.ntmps68
  go_wp2_with fail
  refine (sPartsOk_any _ H.out hl HS.out).mono ?_
  rintro e w1 ⟨rfl, hb1⟩
  have HB1 := Lib.hid hb1
  have HR := Lib.hid (H.out.below hb1)
  clear hb1 H
  cases hf : partsB ps
  · have HN := Lib.hid (show sharesInV ps mill = -1 by simp [sharesInV, hf])
    go_wp2
    go_ret
    exact ⟨by rw [HN.out]; rfl, HB1.out⟩
  · have HN := Lib.hid (show sharesInV ps mill = sumS ps mill ps.length by simp [sharesInV, hf])
    obtain ⟨h20, hu⟩ := parts_true hf
    have HU := Lib.hid hu
    clear hu hf
    go_wp2
    go_loop [5, 6] (fun t i => ∃ k : Nat, k ≤ ps.length ∧ i = .int .i64 k ∧ t = .int .i64 (sumS ps mill k)) (fun _ i => ps.length - (intOf i).toNat)
    case atStart => exact ⟨0, Nat.zero_le _, rfl, rfl⟩
    case round =>
      obtain ⟨k, hk, rfl, rfl⟩ := hrel
      have hb := sumS_bd (mill := mill) HU.out k hk
      by_cases hlt : k < ps.length
      · obtain ⟨b, off, rfl, _, c0, c1, c2⟩ := Par.at HR.out k hlt
        have hb3 := part_bd1 (HU.out.1 k hlt hlt)
        cases hq : (ps[k].mill.toList == mill.toList)
        · have HM := Lib.hid (show sumS ps mill (k + 1) = sumS ps mill k by simp only [sumS, patn_eq hlt]; rw [hq]; simp)
          go_wp2
          go_round
          case rel => exact ⟨k + 1, by omega, by go_num, by rw [HM.out]⟩
          case measure => simp [intOf]; omega
        · have HM := Lib.hid (show sumS ps mill (k + 1) = sumS ps mill k + ps[k].shares by simp only [sumS, patn_eq hlt]; rw [hq]; simp)
          go_wp2
          go_round
          case rel => exact ⟨k + 1, by omega, by go_num, by rw [HM.out]⟩
          case measure => simp [intOf]; omega
      · obtain rfl : k = ps.length := by omega
        go_wp2
        go_ret
        exact ⟨by rw [HN.out]; rfl, HB1.out⟩

/-- A copy of the call's own. -/
def CopyP (ps : List Par) (w : World) (e : Ending) (w' : World) : Prop :=
  ∃ b cap, e = .returned (.slice (some ⟨b, 0, none⟩) ps.length cap) ∧ OwnR Par.cs 3 w' w.heap.size (some ⟨b, 0, none⟩) ps ∧ w'.ownsRow w.heap.size 68 3 (.slice (some ⟨b, 0, none⟩) ps.length cap) ps.length (ps.flatMap Par.cs) ∧ Below w.heap.size w w'

set_option maxHeartbeats 1000000 in
set_option maxRecDepth 100000 in
theorem l5Copy_any {w : World} {b off : Nat} {ps : List Par} (cap : Nat) (h : Recs Par.cs w (some ⟨b, off, none⟩) ps) (hl : ps.length ≤ 1048576) :
    Calls Tryz.prog 132 #[.slice (some ⟨b, off, none⟩) ps.length cap] w (CopyP ps w) := by
  have H := Lib.hid h
  clear h
  obtain ⟨i0, hi, hz0, hz1, hz2⟩ := info_parts info_Part
  have HI := Lib.hid hi
  have HZ0 := Lib.hid hz0
  have HZ1 := Lib.hid hz1
  have HZ2 := Lib.hid hz2
  clear hi hz0 hz1 hz2
  go_enter Tryz.func132, Tryz.ntmps132
  go_wp2_with (at_builtin; refine wpList_append_own_at _ rfl _ _ 26 rfl w.heap.size 68 i0 (.agg #[.string ByteArray.empty, .string ByteArray.empty, .int .i64 0]) 3 40 Tryz.underlying26 HI.out HZ0.out HZ1.out HZ2.out rfl (by decide) (.slice (some ⟨w.heap.size, 0, none⟩) 0 0) 0 [] rfl ?c0 ⟨b, off, none⟩ ps.length cap (ps.flatMap Par.cs) rfl (flat_length Par.len ps) ?c1 (flat_one Par.one ps) ?c2 ?c3 ?c4 ?_)
  case c0 => exact ⟨by simp, .inr ⟨w.heap.size, 0, #[], rfl, Nat.le_refl _, heap_alloc_new _ _, Nat.le_refl _, Nat.zero_le _, by simp, by simp⟩⟩
  case c1 =>
    intro j u hj
    obtain ⟨b', off', e, hc⟩ := (Lies.below H.out (below_new w (.cells #[] 68))) j u hj
    injection e with e; injection e with e1 e2; subst e1; subst e2
    rw [add_plain]; exact hc
  case c2 => unfold maxLen; omega
  case c3 => omega
  case c4 => simp
  intro v' w' hown hgrow hnil hat
  have HR : Hid (CopyP ps w (.returned v') w') := by
    obtain ⟨a', cap', rfl, ho, hq⟩ := ownR_of Par.len hown
    rcases hq with hq | ⟨g, rfl⟩
    · exact absurd hq hnil
    · exact ⟨g, cap', rfl, ho, hown, bgrown (below_new w (.cells #[] 68)) (by simp) hgrow (own_at0 w.heap.size)⟩
  clear hown hgrow hnil hat
  go_wp2
  go_ret
  exact HR.out
end Go.Proofs.YtlnnchgaloejlaaGreat
