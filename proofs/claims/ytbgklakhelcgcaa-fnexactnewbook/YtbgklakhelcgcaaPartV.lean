/-
  What chapter 5's SharesOf, SharesIn and the copies answer, the model's.
-/
import Derived.Test.YtbgklakhelcgcaaPartS
import Derived.Maps.AppendAt
namespace Go.Proofs.Ytbgklakhelcgcaa
open Go.ChangeShapes Go.WideShapes Go.ChangeAt Go.RowKit

def par0 : Par := ⟨ByteArray.empty, ByteArray.empty, 0⟩
def patn (ps : List Par) (j : Nat) : Par := ps.getD j par0
theorem patn_eq {ps : List Par} {j : Nat} (h : j < ps.length) : patn ps j = ps[j] := by simp [patn, h]
/-- Is it of that one in that mill? -/
def isB (p : Par) (who mill : ByteArray) : Bool := (p.who.toList == who.toList) && (p.mill.toList == mill.toList)
/-- Where it is first. -/
def pfindV (ps : List Par) (who mill : ByteArray) : Int := findUp (fun j => isB (patn ps j) who mill) ps.length
theorem pfind_hit {ps : List Par} {who mill : ByteArray} (h : 0 ≤ pfindV ps who mill) : ∃ k : Nat, pfindV ps who mill = (k : Int) ∧ ∃ hk : k < ps.length, isB ps[k] who mill = true := by
  obtain ⟨k, e, hk, hq, _⟩ := findUp_hit h
  exact ⟨k, e, hk, by simpa [patn_eq hk] using hq⟩
theorem pfind_lo (ps : List Par) (who mill : ByteArray) : -1 ≤ pfindV ps who mill := (findUp_lo _ _).1

/-- So many shares that one has there. -/
noncomputable def sharesOfV (ps : List Par) (who mill : ByteArray) : Int := if partsB ps = true then (if 0 ≤ pfindV ps who mill then (patn ps (pfindV ps who mill).toNat).shares else 0) else -1

/-- All shares of that mill among the first k. -/
def sumS (ps : List Par) (mill : ByteArray) : Nat → Int
  | 0 => 0
  | k + 1 => sumS ps mill k + if ((patn ps k).mill.toList == mill.toList) = true then (patn ps k).shares else 0
noncomputable def sharesInV (ps : List Par) (mill : ByteArray) : Int := if partsB ps = true then sumS ps mill ps.length else -1
theorem part_bd1 {p : Par} (h : partB p = true) : 1 ≤ p.shares ∧ p.shares ≤ 1000000000 := by
  simp only [partB, Bool.and_eq_true] at h
  have := h.2.2
  simp [inB] at this; omega
theorem sumS_bd {ps : List Par} {mill : ByteArray} (h : PUp ps ps.length) : ∀ k, k ≤ ps.length → 0 ≤ sumS ps mill k ∧ sumS ps mill k ≤ 1000000000 * k
  | 0, _ => by simp [sumS]
  | k + 1, hk => by
    have h1 := sumS_bd (mill := mill) h k (by omega)
    have h2 := part_bd1 (h.1 k (by omega) (by omega))
    simp only [sumS, patn_eq (show k < ps.length by omega)]
    split <;> omega

set_option maxHeartbeats 1000000 in
set_option maxRecDepth 100000 in
theorem sSharesIn_any {w : World} {a : Option Addr} {ps : List Par} (cap : Nat) (mill : ByteArray) (h : Recs Par.cs w a ps) (hl : ps.length ≤ 9223372036854775807) (hs : PSized ps) :
    Calls Try.prog 51 #[.slice a ps.length cap, .string mill] w fun e w' => e = .returned (.int .i64 (sharesInV ps mill)) ∧ Below w.heap.size w w' := by
  have H := Lib.hid h
  have HS := Lib.hid hs
  clear h hs
  go_enter Try.func51, Try.ntmps51
  go_wp2_with fail
  refine (sPartsOk_any _ H.out hl HS.out).mono ?_
  rintro e w1 ⟨rfl, hb1⟩
  have HB1 := Lib.hid hb1
  have HR := Lib.hid (H.out.below hb1)
  clear hb1 H
  cases hf : partsB ps
  · have HN := Lib.hid (show sharesInV ps mill = -1 by simp [sharesInV, hf])
    go_wp2
    go_ret
    exact ⟨by rw [HN.out]; rfl, HB1.out⟩
  · have HN := Lib.hid (show sharesInV ps mill = sumS ps mill ps.length by simp [sharesInV, hf])
    obtain ⟨h20, hu⟩ := parts_true hf
    have HU := Lib.hid hu
    clear hu hf
    go_wp2
    go_loop [5, 6] (fun t i => ∃ k : Nat, k ≤ ps.length ∧ i = .int .i64 k ∧ t = .int .i64 (sumS ps mill k)) (fun _ i => ps.length - (intOf i).toNat)
    case atStart => exact ⟨0, Nat.zero_le _, rfl, rfl⟩
    case round =>
      obtain ⟨k, hk, rfl, rfl⟩ := hrel
      have hb := sumS_bd (mill := mill) HU.out k hk
      by_cases hlt : k < ps.length
      · obtain ⟨b, off, rfl, _, c0, c1, c2⟩ := Par.at HR.out k hlt
        have hb3 := part_bd1 (HU.out.1 k hlt hlt)
        cases hq : (ps[k].mill.toList == mill.toList)
        · have HM := Lib.hid (show sumS ps mill (k + 1) = sumS ps mill k by simp only [sumS, patn_eq hlt]; rw [hq]; simp)
          go_wp2
          go_round
          case rel => exact ⟨k + 1, by omega, by go_num, by rw [HM.out]⟩
          case measure => simp [intOf]; omega
        · have HM := Lib.hid (show sumS ps mill (k + 1) = sumS ps mill k + ps[k].shares by simp only [sumS, patn_eq hlt]; rw [hq]; simp)
          go_wp2
          go_round
          case rel => exact ⟨k + 1, by omega, by go_num, by rw [HM.out]⟩
          case measure => simp [intOf]; omega
      · obtain rfl : k = ps.length := by omega
        go_wp2
        go_ret
        exact ⟨by rw [HN.out]; rfl, HB1.out⟩

/-- A copy of the call's own. -/
def CopyP (ps : List Par) (w : World) (e : Ending) (w' : World) : Prop :=
  ∃ b cap, e = .returned (.slice (some ⟨b, 0, none⟩) ps.length cap) ∧ OwnR Par.cs 3 w' w.heap.size (some ⟨b, 0, none⟩) ps ∧ w'.ownsRow w.heap.size 65 3 (.slice (some ⟨b, 0, none⟩) ps.length cap) ps.length (ps.flatMap Par.cs) ∧ Below w.heap.size w w'

end Go.Proofs.Ytbgklakhelcgcaa
