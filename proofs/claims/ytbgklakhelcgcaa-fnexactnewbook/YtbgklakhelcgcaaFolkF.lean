/-
  What chapter 3's FreeOf and FreeIn answer, the model's and the program's.
-/
import Derived.Test.YtbgklakhelcgcaaFolkI
import Derived.Test.YtbgklakhelcgcaaOrder
namespace Go.Proofs.Ytbgklakhelcgcaa
open Go.ChangeShapes Go.WideShapes Go.ChangeAt Go.RowKit

/-- Free of the one of that number. -/
def pfree (ps : List Pur) (k : Nat) : Int := (ps[k]?.map Pur.free).getD 0
theorem pfree_eq {ps : List Pur} {k : Nat} (h : k < ps.length) : pfree ps k = ps[k].free := by simp [pfree, h]
/-- Free of that one; -1 where there is none. -/
def freeOfV (ps : List Pur) (s : ByteArray) : Int := if folkB ps = true ∧ 0 ≤ placeV (pnames ps) s then pfree ps (placeV (pnames ps) s).toNat else -1
theorem freeOf_no {ps : List Pur} {s : ByteArray} (h : folkB ps = false) : freeOfV ps s = -1 := by simp [freeOfV, h]
theorem freeOf_out {ps : List Pur} {s : ByteArray} (h : ¬ 0 ≤ placeV (pnames ps) s) : freeOfV ps s = -1 := by simp [freeOfV, h]
theorem freeOf_in {ps : List Pur} {s : ByteArray} {k : Nat} (h : folkB ps = true) (e : placeV (pnames ps) s = k) (hk : k < ps.length) : freeOfV ps s = ps[k].free := by
  rw [freeOfV, if_pos ⟨h, by omega⟩, e]; exact pfree_eq hk
theorem place_lo (ss : List ByteArray) (s : ByteArray) : -1 ≤ placeV ss s := (placeUp_bd ss s ss.length).1

/-- All Free of the first k, together. -/
def sumP (ps : List Pur) : Nat → Int
  | 0 => 0
  | k + 1 => sumP ps k + pfree ps k
/-- All Free together; -1 where they are no folk. -/
def freeInV (ps : List Pur) : Int := if folkB ps then sumP ps ps.length else -1
theorem inB_bd {n : Int} (h : inB 0 1000000 n = true) : 0 ≤ n ∧ n ≤ 1000000 := by
  simp [inB] at h; omega
theorem sumP_bd {ps : List Pur} (h : Amts ps ps.length) : ∀ k, k ≤ ps.length → 0 ≤ sumP ps k ∧ sumP ps k ≤ 1000000 * k
  | 0, _ => by simp [sumP]
  | k + 1, hk => by
    have h1 := sumP_bd h k (by omega)
    have h2 := inB_bd (h k (by omega) (by omega))
    have h3 := pfree_eq (ps := ps) (k := k) (by omega)
    simp only [sumP, h3]
    omega

set_option maxHeartbeats 1000000 in
set_option maxRecDepth 100000 in
theorem l3Free_any {w : World} {a : Option Addr} {ps : List Pur} (cap : Nat) (h : Purs w a ps) (hf : folkB ps = true) :
    Calls Try.prog 34 #[.slice a ps.length cap] w fun e w' => e = .returned (.int .i64 (sumP ps ps.length)) ∧ w = w' := by
  obtain ⟨h8, hm, -⟩ := folk_true hf
  have H := Lib.hid h
  have HM := Lib.hid hm
  clear h hm hf
  go_enter Try.func34, Try.ntmps34
  go_wp2
  go_loop [3, 4] (fun t i => ∃ k : Nat, k ≤ ps.length ∧ i = .int .i64 k ∧ t = .int .i64 (sumP ps k)) (fun _ i => ps.length - (intOf i).toNat)
  case atStart => exact ⟨0, Nat.zero_le _, rfl, rfl⟩
  case round =>
    obtain ⟨k, hk, rfl, rfl⟩ := hrel
    have hb := sumP_bd HM.out k hk
    by_cases hlt : k < ps.length
    · obtain ⟨b, off, rfl, _, hc, hc1⟩ := H.out.at k hlt
      have hb2 := sumP_bd HM.out (k + 1) (by omega)
      have HN := Lib.hid (show sumP ps (k + 1) = sumP ps k + ps[k].free by simp only [sumP, pfree_eq hlt])
      have hb3 := inB_bd (HM.out k hlt hlt)
      clear hb2
      go_wp2
      go_round
      case rel => exact ⟨k + 1, by omega, by go_num, by rw [HN.out]⟩
      case measure => simp [intOf]; omega
    · obtain rfl : k = ps.length := by omega
      go_wp2
      go_ret
      exact ⟨rfl, rfl⟩

set_option maxHeartbeats 1000000 in
set_option maxRecDepth 100000 in
theorem sFreeIn_any {w : World} {a : Option Addr} {ps : List Pur} (cap : Nat) (h : Purs w a ps) (hl : ps.length ≤ 1048576) (hs : Sized (pnames ps)) :
    Calls Try.prog 15 #[.slice a ps.length cap] w fun e w' => e = .returned (.int .i64 (freeInV ps)) ∧ ∃ n, w' = w.drewN n := by
  have H := Lib.hid h
  have HS := Lib.hid hs
  clear h hs
  go_enter Try.func15, Try.ntmps15
  go_wp2_with fail
  refine (sFolkOk_any _ H.out (by omega) HS.out).mono ?_
  rintro e w1 ⟨rfl, n1, rfl⟩
  cases hf : folkB ps
  · have HN := Lib.hid (show freeInV ps = -1 by simp [freeInV, hf])
    go_wp2
    go_ret
    exact ⟨by rw [HN.out]; rfl, _, rfl⟩
  · have HN := Lib.hid (show freeInV ps = sumP ps ps.length by simp [freeInV, hf])
    have HF := Lib.hid hf
    clear hf
    go_wp2_with fail
    refine (l3Free_any _ (show Purs (w.drewN n1) a ps from H.out) HF.out).mono ?_
    rintro e w' ⟨rfl, rfl⟩
    go_wp2
    go_ret
    exact ⟨by rw [HN.out]; rfl, _, rfl⟩

set_option maxHeartbeats 1000000 in
set_option maxRecDepth 100000 in
theorem iFreeIn_any {w : World} {a : Option Addr} {ps : List Pur} (cap : Nat) (h : Purs w a ps) (hl : ps.length ≤ 1048576) (hs : Sized (pnames ps)) :
    Calls Try.prog 18 #[.slice a ps.length cap] w fun e w' => e = .returned (.int .i64 (freeInV ps)) ∧ Below w.heap.size w w' := by
  have H := Lib.hid h
  have HS := Lib.hid hs
  clear h hs
  go_enter Try.func18, Try.ntmps18
  go_wp2_with fail
  refine (iFolkOk_any _ H.out hl HS.out).mono ?_
  rintro e w1 ⟨rfl, hb1⟩
  have HB1 := Lib.hid hb1
  clear hb1
  cases hf : folkB ps
  · have HN := Lib.hid (show freeInV ps = -1 by simp [freeInV, hf])
    go_wp2
    go_ret
    exact ⟨by rw [HN.out]; rfl, HB1.out⟩
  · have HN := Lib.hid (show freeInV ps = sumP ps ps.length by simp [freeInV, hf])
    obtain ⟨h8, hm, -⟩ := folk_true hf
    have HM := Lib.hid hm
    clear hm hf
    go_wp2
    go_loopw [3, 11] (fun t i w' => ∃ k : Nat, k ≤ ps.length ∧ i = .int .i64 k ∧ t = .int .i64 (sumP ps k) ∧ Below w.heap.size w w') (fun _ i _ => ps.length - (intOf i).toNat)
    case atStart => exact ⟨0, Nat.zero_le _, rfl, rfl, HB1.out⟩
    case round =>
      obtain ⟨k, hk, rfl, rfl, hb⟩ := hrel
      have HB := Lib.hid hb
      clear hb
      have hb := sumP_bd HM.out k hk
      by_cases hlt : k < ps.length
      · obtain ⟨b, off, rfl, _, hc, hc1⟩ := (H.out.below HB.out).at k hlt
        have HN := Lib.hid (show sumP ps (k + 1) = sumP ps k + ps[k].free by simp only [sumP, pfree_eq hlt])
        have hb3 := inB_bd (HM.out k hlt hlt)
        go_wp2
        go_roundw
        case rel => exact ⟨k + 1, by omega, by go_num, by rw [HN.out], HB.out.alloc HB.out.size _⟩
        case measure => simp [intOf]; omega
      · obtain rfl : k = ps.length := by omega
        go_wp2
        go_ret
        exact ⟨by rw [HN.out]; rfl, HB.out⟩
end Go.Proofs.Ytbgklakhelcgcaa
