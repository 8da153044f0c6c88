/-
  Texts joined: Base, Purs, Strs, PursLaw, Folk.
-/
import Derived.Test.YtlnnchgaloejlaaGreatP1
import Derived.StillTailTactics
import Derived.Deep.RegionHeld3
namespace Go.Proofs.YtlnnchgaloejlaaGreat
open Go.ChangeShapes Go.WideShapes Go.ChangeAt Go.RowKit

theorem within_any (lim n : Int) (w : World) :
    Calls Tryz.prog 59 #[.int .i64 lim, .int .i64 n] w fun e w' => e = .returned (.bool (inB 0 lim n)) ∧ w = w' := by
  by_cases h : 0 ≤ n
  · by_cases h2 : n ≤ lim
    · have hb : inB 0 lim n = true := by simp [inB, h, h2]
      rw [hb]; clear hb
      go_enter Tryz.func59, Tryz.ntmps59
      go_wp2
      go_ret
      exact ⟨rfl, rfl⟩
    · have hb : inB 0 lim n = false := by simp [inB, h2]
      rw [hb]; clear hb
      go_enter Tryz.func59, Tryz.ntmps59
      go_wp2
      go_ret
      exact ⟨rfl, rfl⟩
  · have hb : inB 0 lim n = false := by simp [inB, h]
    rw [hb]; clear hb
    go_enter Tryz.func59, Tryz.ntmps59
    go_wp2
    go_ret
    exact ⟨rfl, rfl⟩

theorem iAmountOk_any (n : Int) (w : World) :
    Calls Tryz.prog 22 #[.int .i64 n] w fun e w' => e = .returned (.bool (inB 0 1000000 n)) ∧ w = w' := by
  go_enter Tryz.func22, Tryz.ntmps22
  go_wp2_with (go_at_call 59; refine (within_any _ _ _).mono ?_; rintro e w' ⟨rfl, rfl⟩)
  go_ret
  exact ⟨rfl, rfl⟩

theorem sAmountOk_any (n : Int) (w : World) :
    Calls Tryz.prog 67 #[.int .i64 n] w fun e w' => e = .returned (.bool (inB 0 1000000 n)) ∧ w = w' := by
  go_enter Tryz.func67, Tryz.ntmps67
  go_wp2_with (go_at_call 66; refine (l1In_any _ _ _ _).mono ?_; rintro e w' ⟨rfl, rfl⟩)
  go_ret
  exact ⟨rfl, rfl⟩

theorem iSharesOk_any (n : Int) (w : World) :
    Calls Tryz.prog 168 #[.int .i64 n] w fun e w' => e = .returned (.bool (inB 0 1000000000 n)) ∧ w = w' := by
  go_enter Tryz.func168, Tryz.ntmps168
  go_wp2_with (go_at_call 59; refine (within_any _ _ _).mono ?_; rintro e w' ⟨rfl, rfl⟩)
  go_ret
  exact ⟨rfl, rfl⟩

theorem sSharesOk_any (n : Int) (w : World) :
    Calls Tryz.prog 115 #[.int .i64 n] w fun e w' => e = .returned (.bool (inB 0 1000000000 n)) ∧ w = w' := by
  go_enter Tryz.func115, Tryz.ntmps115
  go_wp2_with (go_at_call 66; refine (l1In_any _ _ _ _).mono ?_; rintro e w' ⟨rfl, rfl⟩)
  go_ret
  exact ⟨rfl, rfl⟩
end Go.Proofs.YtlnnchgaloejlaaGreat
namespace Go.Proofs.YtlnnchgaloejlaaGreat
open Go.ChangeShapes Go.WideShapes Go.ChangeAt Go.RowKit

/-- A purse. -/
structure Pur where
  name : ByteArray
  free : Int
def Pur.cells (p : Pur) : List Value := [.string p.name, .int .i64 p.free]
/-- All their cells, one behind the other. -/
def pcells : List Pur → List Value
  | [] => []
  | p :: r => .string p.name :: .int .i64 p.free :: pcells r
/-- These purses lie one behind the other from a on. -/
def Purs (w : World) (a : Option Addr) (ps : List Pur) : Prop := Lies w a (pcells ps)

theorem pcells_length : ∀ ps : List Pur, (pcells ps).length = ps.length * 2
  | [] => rfl
  | p :: r => by simp [pcells, pcells_length r]; omega
theorem pcells_name : ∀ (ps : List Pur) (k : Nat) (h : k < ps.length), (pcells ps)[k * 2]? = some (.string ps[k].name)
  | p :: r, 0, _ => rfl
  | p :: r, k + 1, h => by
    have := pcells_name r k (by simpa using h)
    rw [show (k + 1) * 2 = k * 2 + 2 by omega]
    simpa [pcells] using this
theorem pcells_free : ∀ (ps : List Pur) (k : Nat) (h : k < ps.length), (pcells ps)[k * 2 + 1]? = some (.int .i64 ps[k].free)
  | p :: r, 0, _ => rfl
  | p :: r, k + 1, h => by
    have := pcells_free r k (by simpa using h)
    rw [show (k + 1) * 2 + 1 = k * 2 + 1 + 2 by omega]
    simpa [pcells] using this
theorem Purs.at {w : World} {a : Option Addr} {ps : List Pur} (h : Purs w a ps) (k : Nat) (hk : k < ps.length) :
    ∃ b off, a = some ⟨b, off, none⟩ ∧ b < w.heap.size ∧ w.cell? ⟨b, off + k * 2, none⟩ = some (.string ps[k].name) ∧ w.cell? ⟨b, off + k * 2 + 1, none⟩ = some (.int .i64 ps[k].free) := by
  obtain ⟨b, off, e, hc⟩ := h _ _ (pcells_name ps k hk)
  obtain ⟨b', off', e', hc'⟩ := h _ _ (pcells_free ps k hk)
  rw [e] at e'; injection e' with e'; injection e' with e1 e2; subst e1; subst e2
  exact ⟨b, off, e, at_lt hc, hc, by rw [Nat.add_assoc]; exact hc'⟩
theorem Purs.below {w w' : World} {a : Option Addr} {ps : List Pur} (h : Purs w a ps) (hb : Below w.heap.size w w') : Purs w' a ps := Lies.below h hb

/-- Their names. -/
def pnames (ps : List Pur) : List ByteArray := ps.map Pur.name
theorem pnames_at {ps : List Pur} {k : Nat} (h : k < ps.length) : sat (pnames ps) k = ps[k].name := by
  rw [sat_eq (by simpa [pnames] using h)]; simp [pnames]

set_option maxHeartbeats 1000000 in
set_option maxRecDepth 100000 in
theorem l3Find_any {w : World} {a : Option Addr} {ps : List Pur} (cap : Nat) (s : ByteArray) (h : Purs w a ps) (hl : ps.length ≤ 9223372036854775807) :
    Calls Tryz.prog 44 #[.slice a ps.length cap, .string s] w fun e w' => e = .returned (.int .i64 (placeV (pnames ps) s)) ∧ w = w' := by
  have H := Lib.hid h
  clear h
  go_enter Tryz.func44, Tryz.ntmps44
  go_wp2
  go_loop [5] (fun i => ∃ k : Nat, k ≤ ps.length ∧ i = .int .i64 k ∧ Out (pnames ps) s k) (fun i => ps.length - (intOf i).toNat)
  case atStart => exact ⟨0, Nat.zero_le _, rfl, Out.zero _ s⟩
  case round =>
    obtain ⟨k, hk, rfl, hu⟩ := hrel
    have HU := Lib.hid hu
    clear hu
    by_cases hlt : k < ps.length
    · obtain ⟨b, off, rfl, _, hc, hc1⟩ := H.out.at k hlt
      have HA := Lib.hid (pnames_at hlt)
      cases hq : (ps[k].name.toList == s.toList)
      · have HN := Lib.hid (HU.out.succ (by rw [HA.out]; exact hq))
        go_wp2
        go_round
        case rel => exact ⟨k + 1, by omega, by go_num, HN.out⟩
        case measure => simp [intOf]; omega
      · have HN := Lib.hid (place_in (by simpa [pnames] using hlt) HU.out (by rw [HA.out]; exact hq))
        go_wp2
        go_ret
        exact ⟨by rw [HN.out]; rfl, rfl⟩
    · obtain rfl : k = ps.length := by omega
      have HN := Lib.hid (place_out (ss := pnames ps) (s := s) (by simpa [pnames] using HU.out))
      go_wp2
      go_ret
      exact ⟨by rw [HN.out]; rfl, rfl⟩
end Go.Proofs.YtlnnchgaloejlaaGreat
namespace Go.Proofs.YtlnnchgaloejlaaGreat
open Go.ChangeShapes Go.WideShapes Go.ChangeAt Go.RowKit

/-- All bytes of the first k, together. -/
def totS (ss : List ByteArray) (k : Nat) : Nat := ((ss.take k).map ByteArray.size).sum
/-- What is left of so many: -1 where they are too many. -/
def szV (ss : List ByteArray) (left : Int) : Int := if (ss.length : Int) + totS ss ss.length ≤ left then left - ss.length - totS ss ss.length else -1
end Go.Proofs.YtlnnchgaloejlaaGreat
namespace Go.Proofs.YtlnnchgaloejlaaGreat
open Go.ChangeShapes Go.WideShapes Go.ChangeAt Go.RowKit

end Go.Proofs.YtlnnchgaloejlaaGreat
namespace Go.Proofs.YtlnnchgaloejlaaGreat
open Go.ChangeShapes Go.WideShapes Go.ChangeAt Go.RowKit

/-- The first n are amounts. -/
def Amts (ps : List Pur) (n : Nat) : Prop := ∀ j (h : j < ps.length), j < n → inB 0 1000000 ps[j].free = true
instance (ps : List Pur) (n : Nat) : Decidable (Amts ps n) := inferInstanceAs (Decidable (∀ j (h : j < ps.length), j < n → inB 0 1000000 ps[j].free = true))
/-- They are folk. -/
def folkB (ps : List Pur) : Bool := decide (ps.length ≤ 8 ∧ Amts ps ps.length ∧ risesB (pnames ps) = true)
theorem folk_true {ps : List Pur} (h : folkB ps = true) : ps.length ≤ 8 ∧ Amts ps ps.length ∧ risesB (pnames ps) = true := by simpa [folkB] using h
theorem folk_yes {ps : List Pur} (h : ps.length ≤ 8) (h1 : Amts ps ps.length) (h2 : risesB (pnames ps) = true) : folkB ps = true := by simp [folkB, h, h1, h2]
theorem folk_long {ps : List Pur} (h : ¬ ps.length ≤ 8) : folkB ps = false := by simp [folkB]; omega
theorem folk_amt {ps : List Pur} {k : Nat} (hk : k < ps.length) (h : inB 0 1000000 ps[k].free = false) : folkB ps = false := by
  simp only [folkB, decide_eq_false_iff_not]; rintro ⟨_, h1, _⟩; rw [h1 k hk hk] at h; cases h
theorem folk_rise {ps : List Pur} (h : risesB (pnames ps) = false) : folkB ps = false := by
  simp only [folkB, decide_eq_false_iff_not]; rintro ⟨_, _, h1⟩; rw [h1] at h; cases h
theorem Amts.zero (ps : List Pur) : Amts ps 0 := fun _ _ h => by omega
theorem Amts.succ {ps : List Pur} {k : Nat} (h : Amts ps k) (hk : k < ps.length) (h1 : inB 0 1000000 ps[k].free = true) : Amts ps (k + 1) := by
  intro j hj hlt
  by_cases e : j = k
  · subst e; exact h1
  · exact h j hj (by omega)
theorem len_pn (ps : List Pur) : (pnames ps).length = ps.length := by simp [pnames]

set_option maxHeartbeats 2000000 in
set_option maxRecDepth 100000 in
theorem sFolkOk_any {w : World} {a : Option Addr} {ps : List Pur} (cap : Nat) (h : Purs w a ps) (hl : ps.length ≤ 9223372036854775807) (hs : Sized (pnames ps)) :
    Calls Tryz.prog 47 #[.slice a ps.length cap] w fun e w' => e = .returned (.bool (folkB ps)) ∧ ∃ n, w' = w.drewN n := by
  have H := Lib.hid h
  have HS := Lib.hid hs
  clear h hs
  go_enter Tryz.func47, Tryz.ntmps47
  go_wp2
  go_loopw [3] (fun i w' => ∃ (k n : Nat), k ≤ ps.length ∧ i = .int .i64 k ∧ w' = w.drewN n ∧ Up (pnames ps) k ∧ Amts ps k) (fun i _ => ps.length - (intOf i).toNat)
  case atStart => exact ⟨0, 0, Nat.zero_le _, rfl, rfl, Up.zero _, Amts.zero _⟩
  case round =>
    obtain ⟨k, n, hk, rfl, rfl, hu, hm⟩ := hrel
    have HU := Lib.hid hu
    have HM := Lib.hid hm
    clear hu hm
    by_cases hlt : k < ps.length
    · obtain ⟨b, off, rfl, _, hc, hc1⟩ := H.out.at k hlt
      have HA := Lib.hid (pnames_at hlt)
      have hsz : Hid (ps[k].name.size ≤ maxLen) := by have := HS.out k; rw [HA.out] at this; exact this
      have hlp : k < (pnames ps).length := by rw [len_pn]; exact hlt
      cases hn : nameB ps[k].name
      · have HN := Lib.hid (folk_rise (rises_no hlp (by rw [HA.out]; exact hn)))
        go_wp2
        go_quiet ((go_at_call 83; first | exact quiet_is2 hn (sNameOk_any _ _ hsz.out) | exact quiet_is hn (sNameOk_any _ _ hsz.out)))
        go_wp2
        go_ret
        exact ⟨by rw [HN.out]; rfl, drawn_more _ _⟩
      · cases hm : inB 0 1000000 ps[k].free
        · have HN := Lib.hid (folk_amt hlt hm)
          go_wp2
          go_quiet (first | (go_at_call 83; first | exact quiet_is2 hn (sNameOk_any _ _ hsz.out) | exact quiet_is hn (sNameOk_any _ _ hsz.out)) | (go_at_call 67; first | exact quiet_is2 hm (sAmountOk_any _ _) | exact quiet_is hm (sAmountOk_any _ _)))
          go_wp2
          go_ret
          exact ⟨by rw [HN.out]; rfl, drawn_more _ _⟩
        · cases k with
          | zero =>
            have HN := Lib.hid (Up.one (ss := pnames ps) (by rw [HA.out]; exact hn))
            have HN2 := Lib.hid (HM.out.succ hlt hm)
            have hc0 : w.cell? ⟨b, off, none⟩ = some (.string ps[0].name) := by simpa using hc
            have hc01 : w.cell? ⟨b, off + 1, none⟩ = some (.int .i64 ps[0].free) := by simpa using hc1
            go_wp2
            go_quiet (first | (go_at_call 83; first | exact quiet_is2 hn (sNameOk_any _ _ hsz.out) | exact quiet_is hn (sNameOk_any _ _ hsz.out)) | (go_at_call 67; first | exact quiet_is2 hm (sAmountOk_any _ _) | exact quiet_is hm (sAmountOk_any _ _)))
            go_wp2
            go_roundw
            case rel => exact ⟨1, _, by omega, by go_num, rfl, HN.out, HN2.out⟩
            case measure => simp [intOf]; omega
          | succ m =>
            obtain ⟨b', off', e', _, hc', hc1'⟩ := H.out.at m (by omega)
            obtain ⟨rfl, rfl⟩ : b' = b ∧ off' = off := by injection e' with e'; injection e' with e1 e2; exact ⟨e1.symm, e2.symm⟩
            clear e'
            have HA' := Lib.hid (pnames_at (ps := ps) (k := m) (by omega))
            have HN2 := Lib.hid (HM.out.succ hlt hm)
            cases hq : (Op.bytesLess (ps[m + 1]).name.toList (ps[m]).name.toList || (ps[m + 1]).name.toList == (ps[m]).name.toList)
            · have HN := Lib.hid (HU.out.succ (by rw [HA.out]; exact hn) (by rw [HA.out, HA'.out]; exact hq))
              go_wp2
              go_quiet (first | (go_at_call 83; first | exact quiet_is2 hn (sNameOk_any _ _ hsz.out) | exact quiet_is hn (sNameOk_any _ _ hsz.out)) | (go_at_call 67; first | exact quiet_is2 hm (sAmountOk_any _ _) | exact quiet_is hm (sAmountOk_any _ _)))
              go_wp2
              go_roundw
              case rel => exact ⟨m + 2, _, by omega, by go_num, rfl, HN.out, HN2.out⟩
              case measure => simp [intOf]; omega
            · have HN := Lib.hid (folk_rise (rises_not hlp (by rw [HA.out, HA'.out]; exact hq)))
              go_wp2
              go_quiet (first | (go_at_call 83; first | exact quiet_is2 hn (sNameOk_any _ _ hsz.out) | exact quiet_is hn (sNameOk_any _ _ hsz.out)) | (go_at_call 67; first | exact quiet_is2 hm (sAmountOk_any _ _) | exact quiet_is hm (sAmountOk_any _ _)))
              go_wp2
              go_ret
              exact ⟨by rw [HN.out]; rfl, drawn_more _ _⟩
    · obtain rfl : k = ps.length := by omega
      by_cases h8 : ps.length ≤ 8
      · have HN := Lib.hid (folk_yes h8 HM.out (rises_yes (by rw [len_pn]; exact HU.out)))
        go_wp2
        go_ret
        exact ⟨by rw [HN.out]; simp; omega, _, rfl⟩
      · have HN := Lib.hid (folk_long h8)
        go_wp2
        go_ret
        exact ⟨by rw [HN.out]; simp; omega, _, rfl⟩
end Go.Proofs.YtlnnchgaloejlaaGreat
