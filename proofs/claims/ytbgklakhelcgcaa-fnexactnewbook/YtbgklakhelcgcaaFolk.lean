/-
  What chapter 3's FolkOk answers, the model's and the program's, at every list of purses.
-/
import Derived.Test.YtbgklakhelcgcaaPurs
import Derived.Test.YtbgklakhelcgcaaMany
namespace Go.Proofs.Ytbgklakhelcgcaa
open Go.ChangeShapes Go.WideShapes Go.ChangeAt Go.RowKit

/-- The first n are amounts. -/
def Amts (ps : List Pur) (n : Nat) : Prop := ∀ j (h : j < ps.length), j < n → inB 0 1000000 ps[j].free = true
instance (ps : List Pur) (n : Nat) : Decidable (Amts ps n) := inferInstanceAs (Decidable (∀ j (h : j < ps.length), j < n → inB 0 1000000 ps[j].free = true))
/-- They are folk. -/
def folkB (ps : List Pur) : Bool := decide (ps.length ≤ 8 ∧ Amts ps ps.length ∧ risesB (pnames ps) = true)
theorem folk_true {ps : List Pur} (h : folkB ps = true) : ps.length ≤ 8 ∧ Amts ps ps.length ∧ risesB (pnames ps) = true := by simpa [folkB] using h
theorem folk_yes {ps : List Pur} (h : ps.length ≤ 8) (h1 : Amts ps ps.length) (h2 : risesB (pnames ps) = true) : folkB ps = true := by simp [folkB, h, h1, h2]
theorem folk_long {ps : List Pur} (h : ¬ ps.length ≤ 8) : folkB ps = false := by simp [folkB]; omega
theorem folk_amt {ps : List Pur} {k : Nat} (hk : k < ps.length) (h : inB 0 1000000 ps[k].free = false) : folkB ps = false := by
  simp only [folkB, decide_eq_false_iff_not]; rintro ⟨_, h1, _⟩; rw [h1 k hk hk] at h; cases h
theorem folk_rise {ps : List Pur} (h : risesB (pnames ps) = false) : folkB ps = false := by
  simp only [folkB, decide_eq_false_iff_not]; rintro ⟨_, _, h1⟩; rw [h1] at h; cases h
theorem Amts.zero (ps : List Pur) : Amts ps 0 := fun _ _ h => by omega
theorem Amts.succ {ps : List Pur} {k : Nat} (h : Amts ps k) (hk : k < ps.length) (h1 : inB 0 1000000 ps[k].free = true) : Amts ps (k + 1) := by
  intro j hj hlt
  by_cases e : j = k
  · subst e; exact h1
  · exact h j hj (by omega)
theorem len_pn (ps : List Pur) : (pnames ps).length = ps.length := by simp [pnames]

set_option maxHeartbeats 2000000 in
set_option maxRecDepth 100000 in
theorem sFolkOk_any {w : World} {a : Option Addr} {ps : List Pur} (cap : Nat) (h : Purs w a ps) (hl : ps.length ≤ 9223372036854775807) (hs : Sized (pnames ps)) :
    Calls Try.prog 33 #[.slice a ps.length cap] w fun e w' => e = .returned (.bool (folkB ps)) ∧ ∃ n, w' = w.drewN n := by
  have H := Lib.hid h
  have HS := Lib.hid hs
  clear h hs
  go_enter Try.func33, Try.ntmps33
  go_wp2
  go_loopw [3] (fun i w' => ∃ (k n : Nat), k ≤ ps.length ∧ i = .int .i64 k ∧ w' = w.drewN n ∧ Up (pnames ps) k ∧ Amts ps k) (fun i _ => ps.length - (intOf i).toNat)
  case atStart => exact ⟨0, 0, Nat.zero_le _, rfl, rfl, Up.zero _, Amts.zero _⟩
  case round =>
    obtain ⟨k, n, hk, rfl, rfl, hu, hm⟩ := hrel
    have HU := Lib.hid hu
    have HM := Lib.hid hm
    clear hu hm
    by_cases hlt : k < ps.length
    · obtain ⟨b, off, rfl, _, hc, hc1⟩ := H.out.at k hlt
      have HA := Lib.hid (pnames_at hlt)
      have hsz : Hid (ps[k].name.size ≤ maxLen) := by have := HS.out k; rw [HA.out] at this; exact this
      have hlp : k < (pnames ps).length := by rw [len_pn]; exact hlt
      cases hn : nameB ps[k].name
      · have HN := Lib.hid (folk_rise (rises_no hlp (by rw [HA.out]; exact hn)))
        go_wp2
        go_quiet ((go_at_call 43; first | exact quiet_is2 hn (sNameOk_any _ _ hsz.out) | exact quiet_is hn (sNameOk_any _ _ hsz.out)))
        go_wp2
        go_ret
        exact ⟨by rw [HN.out]; rfl, drawn_more _ _⟩
      · cases hm : inB 0 1000000 ps[k].free
        · have HN := Lib.hid (folk_amt hlt hm)
          go_wp2
          go_quiet (first | (go_at_call 43; first | exact quiet_is2 hn (sNameOk_any _ _ hsz.out) | exact quiet_is hn (sNameOk_any _ _ hsz.out)) | (go_at_call 44; first | exact quiet_is2 hm (sAmountOk_any _ _) | exact quiet_is hm (sAmountOk_any _ _)))
          go_wp2
          go_ret
          exact ⟨by rw [HN.out]; rfl, drawn_more _ _⟩
        · cases k with
          | zero =>
            have HN := Lib.hid (Up.one (ss := pnames ps) (by rw [HA.out]; exact hn))
            have HN2 := Lib.hid (HM.out.succ hlt hm)
            have hc0 : w.cell? ⟨b, off, none⟩ = some (.string ps[0].name) := by simpa using hc
            have hc01 : w.cell? ⟨b, off + 1, none⟩ = some (.int .i64 ps[0].free) := by simpa using hc1
            go_wp2
            go_quiet (first | (go_at_call 43; first | exact quiet_is2 hn (sNameOk_any _ _ hsz.out) | exact quiet_is hn (sNameOk_any _ _ hsz.out)) | (go_at_call 44; first | exact quiet_is2 hm (sAmountOk_any _ _) | exact quiet_is hm (sAmountOk_any _ _)))
            go_wp2
            go_roundw
            case rel => exact ⟨1, _, by omega, by go_num, rfl, HN.out, HN2.out⟩
            case measure => simp [intOf]; omega
          | succ m =>
            obtain ⟨b', off', e', _, hc', hc1'⟩ := H.out.at m (by omega)
            obtain ⟨rfl, rfl⟩ : b' = b ∧ off' = off := by injection e' with e'; injection e' with e1 e2; exact ⟨e1.symm, e2.symm⟩
            clear e'
            have HA' := Lib.hid (pnames_at (ps := ps) (k := m) (by omega))
            have HN2 := Lib.hid (HM.out.succ hlt hm)
            cases hq : (Op.bytesLess (ps[m + 1]).name.toList (ps[m]).name.toList || (ps[m + 1]).name.toList == (ps[m]).name.toList)
            · have HN := Lib.hid (HU.out.succ (by rw [HA.out]; exact hn) (by rw [HA.out, HA'.out]; exact hq))
              go_wp2
              go_quiet (first | (go_at_call 43; first | exact quiet_is2 hn (sNameOk_any _ _ hsz.out) | exact quiet_is hn (sNameOk_any _ _ hsz.out)) | (go_at_call 44; first | exact quiet_is2 hm (sAmountOk_any _ _) | exact quiet_is hm (sAmountOk_any _ _)))
              go_wp2
              go_roundw
              case rel => exact ⟨m + 2, _, by omega, by go_num, rfl, HN.out, HN2.out⟩
              case measure => simp [intOf]; omega
            · have HN := Lib.hid (folk_rise (rises_not hlp (by rw [HA.out, HA'.out]; exact hq)))
              go_wp2
              go_quiet (first | (go_at_call 43; first | exact quiet_is2 hn (sNameOk_any _ _ hsz.out) | exact quiet_is hn (sNameOk_any _ _ hsz.out)) | (go_at_call 44; first | exact quiet_is2 hm (sAmountOk_any _ _) | exact quiet_is hm (sAmountOk_any _ _)))
              go_wp2
              go_ret
              exact ⟨by rw [HN.out]; rfl, drawn_more _ _⟩
    · obtain rfl : k = ps.length := by omega
      by_cases h8 : ps.length ≤ 8
      · have HN := Lib.hid (folk_yes h8 HM.out (rises_yes (by rw [len_pn]; exact HU.out)))
        go_wp2
        go_ret
        exact ⟨by rw [HN.out]; simp; omega, _, rfl⟩
      · have HN := Lib.hid (folk_long h8)
        go_wp2
        go_ret
        exact ⟨by rw [HN.out]; simp; omega, _, rfl⟩
end Go.Proofs.Ytbgklakhelcgcaa
