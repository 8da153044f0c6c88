/-
  What chapter 5's SharesOf, SharesIn and the copies answer, the model's.
-/
import Derived.Test.YtpmibegfpfjdgaaPartS
import Derived.Maps.AppendAt
namespace Go.Proofs.Ytpmibegfpfjdgaa
open Go.ChangeShapes Go.WideShapes Go.ChangeAt Go.RowKit

def par0 : Par := ⟨ByteArray.empty, ByteArray.empty, 0⟩
def patn (ps : List Par) (j : Nat) : Par := ps.getD j par0
theorem patn_eq {ps : List Par} {j : Nat} (h : j < ps.length) : patn ps j = ps[j] := by simp [patn, h]
/-- Is it of that one in that mill? -/
def isB (p : Par) (who mill : ByteArray) : Bool := (p.who.toList == who.toList) && (p.mill.toList == mill.toList)
/-- Where it is first. -/
def pfindV (ps : List Par) (who mill : ByteArray) : Int := findUp (fun j => isB (patn ps j) who mill) ps.length
theorem pfind_hit {ps : List Par} {who mill : ByteArray} (h : 0 ≤ pfindV ps who mill) : ∃ k : Nat, pfindV ps who mill = (k : Int) ∧ ∃ hk : k < ps.length, isB ps[k] who mill = true := by
  obtain ⟨k, e, hk, hq, _⟩ := findUp_hit h
  exact ⟨k, e, hk, by simpa [patn_eq hk] using hq⟩
theorem pfind_lo (ps : List Par) (who mill : ByteArray) : -1 ≤ pfindV ps who mill := (findUp_lo _ _).1

set_option maxHeartbeats 1000000 in
set_option maxRecDepth 100000 in
theorem l5Find_any {w : World} {a : Option Addr} {ps : List Par} (cap : Nat) (who mill : ByteArray) (h : Recs Par.cs w a ps) (hl : ps.length ≤ 9223372036854775807) :
    Calls Try.prog 39 #[.slice a ps.length cap, .string who, .string mill] w fun e w' => e = .returned (.int .i64 (pfindV ps who mill)) ∧ w = w' := by
  have H := Lib.hid h
  clear h
  go_enter Try.func39, Try.ntmps39
  go_wp2
  go_loop [7] (fun i => ∃ k : Nat, k ≤ ps.length ∧ i = .int .i64 k ∧ ∀ j, j < k → isB (patn ps j) who mill = false) (fun i => ps.length - (intOf i).toNat)
  case atStart => exact ⟨0, Nat.zero_le _, rfl, fun _ h => by omega⟩
  case round =>
    obtain ⟨k, hk, rfl, hu⟩ := hrel
    have HU := Lib.hid hu
    clear hu
    by_cases hlt : k < ps.length
    · obtain ⟨b, off, rfl, _, hc, hc1, -⟩ := Par.at H.out k hlt
      have HP := Lib.hid (patn_eq hlt)
      have HI : Hid (isB ps[k] who mill = ((ps[k].who.toList == who.toList) && (ps[k].mill.toList == mill.toList))) := rfl
      have HNEXT : Hid (isB ps[k] who mill = false → ∀ j, j < k + 1 → isB (patn ps j) who mill = false) := fun hf j hj => by
        by_cases e : j = k
        · subst e; rw [HP.out]; exact hf
        · exact HU.out j (by omega)
      have HHIT : Hid (isB ps[k] who mill = true → pfindV ps who mill = k) := fun ht => findUp_at hlt HU.out (by rw [HP.out]; exact ht)
      cases h1 : (ps[k].who.toList == who.toList)
      · have HN := Lib.hid (HNEXT.out (by rw [HI.out, h1]; rfl))
        go_wp2
        go_round
        case rel => exact ⟨k + 1, by omega, by go_num, HN.out⟩
        case measure => simp [intOf]; omega
      · cases h2 : (ps[k].mill.toList == mill.toList)
        · have HN := Lib.hid (HNEXT.out (by rw [HI.out, h1, h2]; rfl))
          go_wp2
          go_round
          case rel => exact ⟨k + 1, by omega, by go_num, HN.out⟩
          case measure => simp [intOf]; omega
        · have HN := Lib.hid (HHIT.out (by rw [HI.out, h1, h2]; rfl))
          go_wp2
          go_ret
          exact ⟨by rw [HN.out]; rfl, rfl⟩
    · obtain rfl : k = ps.length := by omega
      have HN := Lib.hid (show pfindV ps who mill = -1 from findUp_out HU.out)
      go_wp2
      go_ret
      exact ⟨by rw [HN.out]; rfl, rfl⟩

/-- So many shares that one has there. -/
noncomputable def sharesOfV (ps : List Par) (who mill : ByteArray) : Int := if partsB ps = true then (if 0 ≤ pfindV ps who mill then (patn ps (pfindV ps who mill).toNat).shares else 0) else -1

set_option maxHeartbeats 1000000 in
set_option maxRecDepth 100000 in
theorem sSharesOf_any {w : World} {a : Option Addr} {ps : List Par} (cap : Nat) (who mill : ByteArray) (h : Recs Par.cs w a ps) (hl : ps.length ≤ 9223372036854775807) (hs : PSized ps) :
    Calls Try.prog 22 #[.slice a ps.length cap, .string who, .string mill] w fun e w' => e = .returned (.int .i64 (sharesOfV ps who mill)) ∧ Below w.heap.size w w' := by
  have H := Lib.hid h
  have HS := Lib.hid hs
  clear h hs
  go_enter Try.func22, Try.ntmps22
  go_wp2_with fail
  refine (sPartsOk_any _ H.out hl HS.out).mono ?_
  rintro e w1 ⟨rfl, hb1⟩
  have HB1 := Lib.hid hb1
  clear hb1
  cases hf : partsB ps
  · have HN := Lib.hid (show sharesOfV ps who mill = -1 by simp [sharesOfV, hf])
    go_wp2
    go_ret
    exact ⟨by rw [HN.out]; rfl, HB1.out⟩
  · go_wp2_with fail
    refine (l5Find_any _ _ _ (H.out.below HB1.out) hl).mono ?_
    rintro e w' ⟨rfl, rfl⟩
    by_cases hp : 0 ≤ pfindV ps who mill
    · obtain ⟨k, e, hk, -⟩ := pfind_hit hp
      have HN := Lib.hid (show sharesOfV ps who mill = ps[k].shares by rw [sharesOfV, if_pos hf, if_pos hp, e]; simp [patn_eq hk])
      rw [e]
      obtain ⟨b, off, rfl, _, c0, c1, c2⟩ := Par.at (H.out.below HB1.out) k hk
      clear hp e
      go_wp2
      go_ret
      exact ⟨by rw [HN.out]; rfl, HB1.out⟩
    · have HN := Lib.hid (show sharesOfV ps who mill = 0 by rw [sharesOfV, if_pos hf, if_neg hp])
      have hlo := pfind_lo ps who mill
      have hpe : pfindV ps who mill = -1 := by omega
      rw [hpe]
      clear hp hpe hlo
      go_wp2
      go_ret
      exact ⟨by rw [HN.out]; rfl, HB1.out⟩

/-- All shares of that mill among the first k. -/
def sumS (ps : List Par) (mill : ByteArray) : Nat → Int
  | 0 => 0
  | k + 1 => sumS ps mill k + if ((patn ps k).mill.toList == mill.toList) = true then (patn ps k).shares else 0
noncomputable def sharesInV (ps : List Par) (mill : ByteArray) : Int := if partsB ps = true then sumS ps mill ps.length else -1
theorem part_bd1 {p : Par} (h : partB p = true) : 1 ≤ p.shares ∧ p.shares ≤ 1000000000 := by
  simp only [partB, Bool.and_eq_true] at h
  have := h.2.2
  simp [inB] at this; omega
theorem sumS_bd {ps : List Par} {mill : ByteArray} (h : PUp ps ps.length) : ∀ k, k ≤ ps.length → 0 ≤ sumS ps mill k ∧ sumS ps mill k ≤ 1000000000 * k
  | 0, _ => by simp [sumS]
  | k + 1, hk => by
    have h1 := sumS_bd (mill := mill) h k (by omega)
    have h2 := part_bd1 (h.1 k (by omega) (by omega))
    simp only [sumS, patn_eq (show k < ps.length by omega)]
    split <;> omega

set_option maxHeartbeats 1000000 in
set_option maxRecDepth 100000 in
theorem sSharesIn_any {w : World} {a : Option Addr} {ps : List Par} (cap : Nat) (mill : ByteArray) (h : Recs Par.cs w a ps) (hl : ps.length ≤ 9223372036854775807) (hs : PSized ps) :
    Calls Try.prog 24 #[.slice a ps.length cap, .string mill] w fun e w' => e = .returned (.int .i64 (sharesInV ps mill)) ∧ Below w.heap.size w w' := by
  have H := Lib.hid h
  have HS := Lib.hid hs
  clear h hs
  go_enter Try.func24, Try.ntmps24
  go_wp2_with fail
  refine (sPartsOk_any _ H.out hl HS.out).mono ?_
  rintro e w1 ⟨rfl, hb1⟩
  have HB1 := Lib.hid hb1
  have HR := Lib.hid (H.out.below hb1)
  clear hb1 H
  cases hf : partsB ps
  · have HN := Lib.hid (show sharesInV ps mill = -1 by simp [sharesInV, hf])
    go_wp2
    go_ret
    exact ⟨by rw [HN.out]; rfl, HB1.out⟩
  · have HN := Lib.hid (show sharesInV ps mill = sumS ps mill ps.length by simp [sharesInV, hf])
    obtain ⟨h20, hu⟩ := parts_true hf
    have HU := Lib.hid hu
    clear hu hf
    go_wp2
    go_loop [5, 6] (fun t i => ∃ k : Nat, k ≤ ps.length ∧ i = .int .i64 k ∧ t = .int .i64 (sumS ps mill k)) (fun _ i => ps.length - (intOf i).toNat)
    case atStart => exact ⟨0, Nat.zero_le _, rfl, rfl⟩
    case round =>
      obtain ⟨k, hk, rfl, rfl⟩ := hrel
      have hb := sumS_bd (mill := mill) HU.out k hk
      by_cases hlt : k < ps.length
      · obtain ⟨b, off, rfl, _, c0, c1, c2⟩ := Par.at HR.out k hlt
        have hb3 := part_bd1 (HU.out.1 k hlt hlt)
        cases hq : (ps[k].mill.toList == mill.toList)
        · have HM := Lib.hid (show sumS ps mill (k + 1) = sumS ps mill k by simp only [sumS, patn_eq hlt]; rw [hq]; simp)
          go_wp2
          go_round
          case rel => exact ⟨k + 1, by omega, by go_num, by rw [HM.out]⟩
          case measure => simp [intOf]; omega
        · have HM := Lib.hid (show sumS ps mill (k + 1) = sumS ps mill k + ps[k].shares by simp only [sumS, patn_eq hlt]; rw [hq]; simp)
          go_wp2
          go_round
          case rel => exact ⟨k + 1, by omega, by go_num, by rw [HM.out]⟩
          case measure => simp [intOf]; omega
      · obtain rfl : k = ps.length := by omega
        go_wp2
        go_ret
        exact ⟨by rw [HN.out]; rfl, HB1.out⟩

/-- A copy of the call's own. -/
def CopyP (ps : List Par) (w : World) (e : Ending) (w' : World) : Prop :=
  ∃ b cap, e = .returned (.slice (some ⟨b, 0, none⟩) ps.length cap) ∧ OwnR Par.cs 3 w' w.heap.size (some ⟨b, 0, none⟩) ps ∧ w'.ownsRow w.heap.size 37 3 (.slice (some ⟨b, 0, none⟩) ps.length cap) ps.length (ps.flatMap Par.cs) ∧ Below w.heap.size w w'

set_option maxHeartbeats 1000000 in
set_option maxRecDepth 100000 in
theorem l5Copy_any {w : World} {b off : Nat} {ps : List Par} (cap : Nat) (h : Recs Par.cs w (some ⟨b, off, none⟩) ps) (hl : ps.length ≤ 1048576) :
    Calls Try.prog 44 #[.slice (some ⟨b, off, none⟩) ps.length cap] w (CopyP ps w) := by
  have H := Lib.hid h
  clear h
  obtain ⟨i0, hi, hz0, hz1, hz2⟩ := info_parts info_Part
  have HI := Lib.hid hi
  have HZ0 := Lib.hid hz0
  have HZ1 := Lib.hid hz1
  have HZ2 := Lib.hid hz2
  clear hi hz0 hz1 hz2
  go_enter Try.func44, Try.ntmps44
  go_wp2_with (at_builtin; refine wpList_append_own_at _ rfl _ _ 24 rfl w.heap.size 37 i0 (.agg #[.string ByteArray.empty, .string ByteArray.empty, .int .i64 0]) 3 40 Try.underlying24 HI.out HZ0.out HZ1.out HZ2.out rfl (by decide) (.slice (some ⟨w.heap.size, 0, none⟩) 0 0) 0 [] rfl ?c0 ⟨b, off, none⟩ ps.length cap (ps.flatMap Par.cs) rfl (flat_length Par.len ps) ?c1 (flat_one Par.one ps) ?c2 ?c3 ?c4 ?_)
  case c0 => exact ⟨by simp, .inr ⟨w.heap.size, 0, #[], rfl, Nat.le_refl _, heap_alloc_new _ _, Nat.le_refl _, Nat.zero_le _, by simp, by simp⟩⟩
  case c1 =>
    intro j u hj
    obtain ⟨b', off', e, hc⟩ := (Lies.below H.out (below_new w (.cells #[] 37))) j u hj
    injection e with e; injection e with e1 e2; subst e1; subst e2
    rw [add_plain]; exact hc
  case c2 => unfold maxLen; omega
  case c3 => omega
  case c4 => simp
  intro v' w' hown hgrow hnil hat
  have HR : Hid (CopyP ps w (.returned v') w') := by
    obtain ⟨a', cap', rfl, ho, hq⟩ := ownR_of Par.len hown
    rcases hq with hq | ⟨g, rfl⟩
    · exact absurd hq hnil
    · exact ⟨g, cap', rfl, ho, hown, bgrown (below_new w (.cells #[] 37)) (by simp) hgrow (own_at0 w.heap.size)⟩
  clear hown hgrow hnil hat
  go_wp2
  go_ret
  exact HR.out
end Go.Proofs.Ytpmibegfpfjdgaa
