/-
  What chapter 2's Rises and PlaceIn answer, the model's and the program's, at every list of strings.
-/
import Derived.Test.YtbgklakhelcgcaaName
import Derived.Test.YtbgklakhelcgcaaStrAt
namespace Go.Proofs.Ytbgklakhelcgcaa
open Go.ChangeShapes Go.WideShapes Go.ChangeAt Go.RowKit

/-- The one of that number. -/
def sat (ss : List ByteArray) (j : Nat) : ByteArray := ss.getD j ByteArray.empty
theorem sat_eq {ss : List ByteArray} {j : Nat} (h : j < ss.length) : sat ss j = ss[j] := by simp [sat, h]
/-- Is a no greater than b, byte by byte? -/
def leqB (a b : ByteArray) : Bool := Op.bytesLess a.toList b.toList || a.toList == b.toList
/-- The first n are names, each greater than the one ahead. -/
def Up (ss : List ByteArray) (n : Nat) : Prop :=
  (∀ j, j < n → nameB (sat ss j) = true) ∧ ∀ j, j < n - 1 → leqB (sat ss (j + 1)) (sat ss j) = false
instance (ss : List ByteArray) (n : Nat) : Decidable (Up ss n) :=
  inferInstanceAs (Decidable ((∀ j, j < n → nameB (sat ss j) = true) ∧ ∀ j, j < n - 1 → leqB (sat ss (j + 1)) (sat ss j) = false))
/-- They rise. -/
def risesB (ss : List ByteArray) : Bool := decide (Up ss ss.length)

theorem Up.zero (ss : List ByteArray) : Up ss 0 := ⟨fun _ h => by omega, fun _ h => by omega⟩
theorem Up.one {ss : List ByteArray} (h : nameB (sat ss 0) = true) : Up ss 1 :=
  ⟨fun j hj => by obtain rfl : j = 0 := by omega
                  exact h, fun _ h => by omega⟩
theorem Up.succ {ss : List ByteArray} {k : Nat} (h : Up ss (k + 1)) (h1 : nameB (sat ss (k + 1)) = true) (h2 : leqB (sat ss (k + 1)) (sat ss k) = false) : Up ss (k + 2) :=
  ⟨fun j hj => by
    by_cases e : j = k + 1
    · subst e; exact h1
    · exact h.1 j (by omega), fun j hj => by
    by_cases e : j = k
    · subst e; exact h2
    · exact h.2 j (by omega)⟩
theorem rises_no {ss : List ByteArray} {k : Nat} (hk : k < ss.length) (h : nameB (sat ss k) = false) : risesB ss = false := by
  simp only [risesB, decide_eq_false_iff_not]; rintro ⟨h1, _⟩; rw [h1 k hk] at h; cases h
theorem rises_not {ss : List ByteArray} {k : Nat} (hk : k + 1 < ss.length) (h : leqB (sat ss (k + 1)) (sat ss k) = true) : risesB ss = false := by
  simp only [risesB, decide_eq_false_iff_not]; rintro ⟨_, h2⟩; rw [h2 k (by omega)] at h; cases h
theorem rises_yes {ss : List ByteArray} (h : Up ss ss.length) : risesB ss = true := by simp [risesB, h]
theorem rises_true {ss : List ByteArray} (h : risesB ss = true) : Up ss ss.length := by simpa [risesB] using h

theorem strs_sat {w : World} {a : Option Addr} {ss : List ByteArray} (h : Strs w a ss) (k : Nat) (hk : k < ss.length) :
    ∃ b off, a = some ⟨b, off, none⟩ ∧ w.cell? ⟨b, off + k, none⟩ = some (.string (sat ss k)) := by
  obtain ⟨b, off, e, _, hc⟩ := h.at k hk
  exact ⟨b, off, e, by rw [sat_eq hk]; exact hc⟩

def Sized (ss : List ByteArray) : Prop := ∀ k, (sat ss k).size ≤ maxLen
theorem Sized.of {ss : List ByteArray} {n : Nat} (h : ∀ s ∈ ss, s.size ≤ n) (hn : n ≤ maxLen) : Sized ss := by
  intro k
  by_cases hk : k < ss.length
  · rw [sat_eq hk]; exact Nat.le_trans (h _ (List.getElem_mem hk)) hn
  · have : sat ss k = ByteArray.empty := by simp [sat, hk]
    rw [this]; exact Nat.zero_le _

theorem drawn_more {w : World} (n m : Nat) : ∃ k, (w.drewN n).drewN m = w.drewN k := ⟨n + m, World.drewN_drewN _ _ _⟩
/-- In a region that draws: a callee that leaves the world alone and answers what is known. -/
theorem quiet_is {P : Program} {f : FuncId} {args : Array Value} {w : World} {n : Nat} {b c : Bool} (e : b = c)
    (h : Calls P f args (w.drewN n) fun e w' => e = .returned (.bool b) ∧ w.drewN n = w') : Calls P f args (w.drewN n) fun e w'' => e = .returned (.bool c) ∧ ∃ m, w'' = w.drewN m :=
  h.mono fun _ _ ⟨he, hm⟩ => ⟨by rw [he, e], n, hm.symm⟩
theorem quiet_is2 {P : Program} {f : FuncId} {args : Array Value} {w : World} {a n : Nat} {b c : Bool} (e : b = c)
    (h : Calls P f args (w.drewN (a + n)) fun e w' => e = .returned (.bool b) ∧ w.drewN (a + n) = w') : Calls P f args (w.drewN (a + n)) fun e w'' => e = .returned (.bool c) ∧ ∃ m, w'' = w.drewN (a + m) :=
  h.mono fun _ _ ⟨he, hm⟩ => ⟨by rw [he, e], n, hm.symm⟩

set_option maxHeartbeats 1000000 in
set_option maxRecDepth 100000 in
theorem iRises_any {w : World} {a : Option Addr} {ss : List ByteArray} (cap : Nat) (h : Strs w a ss) (hl : ss.length ≤ 9223372036854775807) (hs : Sized ss) :
    Calls Try.prog 58 #[.slice a ss.length cap] w fun e w' => e = .returned (.bool (risesB ss)) ∧ w = w' := by
  have H := Lib.hid h
  have HS := Lib.hid hs
  clear h hs
  go_enter Try.func58, Try.ntmps58
  go_wp2
  go_loop [7] (fun i => ∃ k : Nat, k ≤ ss.length ∧ i = .int .i64 k ∧ Up ss k) (fun i => ss.length - (intOf i).toNat)
  case atStart => exact ⟨0, Nat.zero_le _, rfl, Up.zero ss⟩
  case round =>
    obtain ⟨k, hk, rfl, hu⟩ := hrel
    have HU := Lib.hid hu
    clear hu
    by_cases hlt : k < ss.length
    · obtain ⟨b, off, rfl, hc⟩ := strs_sat H.out k hlt
      cases hn : nameB (sat ss k)
      · have HN := Lib.hid (rises_no hlt hn)
        go_wp2_with (go_at_call 61; refine (iNameOk_any _ _ (HS.out _)).mono ?_; rintro e w' ⟨rfl, rfl⟩; rw [hn])
        go_ret
        exact ⟨by rw [HN.out]; rfl, rfl⟩
      · cases k with
        | zero =>
          have HN := Lib.hid (Up.one hn)
          have hc0 : w.cell? ⟨b, off, none⟩ = some (.string (sat ss 0)) := hc
          go_wp2_with (go_at_call 61; refine (iNameOk_any _ _ (HS.out _)).mono ?_; rintro e w' ⟨rfl, rfl⟩; rw [hn])
          go_round
          case rel => exact ⟨1, by omega, by go_num, HN.out⟩
          case measure => simp [intOf]; omega
        | succ m =>
          obtain ⟨b', off', e', hc'⟩ := strs_sat H.out m (by omega)
          obtain ⟨rfl, rfl⟩ : b' = b ∧ off' = off := by injection e' with e'; injection e' with e1 e2; exact ⟨e1.symm, e2.symm⟩
          clear e'
          cases hq : (Op.bytesLess (sat ss (m + 1)).toList (sat ss m).toList || (sat ss (m + 1)).toList == (sat ss m).toList)
          · have HN := Lib.hid (HU.out.succ hn hq)
            go_wp2_with (go_at_call 61; refine (iNameOk_any _ _ (HS.out _)).mono ?_; rintro e w' ⟨rfl, rfl⟩; rw [hn])
            go_round
            case rel => exact ⟨m + 2, by omega, by go_num, HN.out⟩
            case measure => simp [intOf]; omega
          · have HN := Lib.hid (rises_not hlt hq)
            go_wp2_with (go_at_call 61; refine (iNameOk_any _ _ (HS.out _)).mono ?_; rintro e w' ⟨rfl, rfl⟩; rw [hn])
            go_ret
            exact ⟨by rw [HN.out]; rfl, rfl⟩
    · obtain rfl : k = ss.length := by omega
      have HN := Lib.hid (rises_yes HU.out)
      go_wp2
      go_ret
      exact ⟨by rw [HN.out]; rfl, rfl⟩

/-- It is none of the first n. -/
def Out (ss : List ByteArray) (s : ByteArray) (n : Nat) : Prop := ∀ j, j < n → ((sat ss j).toList == s.toList) = false
theorem Out.zero (ss : List ByteArray) (s : ByteArray) : Out ss s 0 := fun _ h => by omega
theorem Out.succ {ss : List ByteArray} {s : ByteArray} {k : Nat} (h : Out ss s k) (h1 : ((sat ss k).toList == s.toList) = false) : Out ss s (k + 1) := by
  intro j hj
  by_cases e : j = k
  · subst e; exact h1
  · exact h j (by omega)
/-- Where it is first, from the front on, among the first n. -/
def placeUp (ss : List ByteArray) (s : ByteArray) : Nat → Int
  | 0 => -1
  | n + 1 => if placeUp ss s n = -1 then (if (sat ss n).toList == s.toList then (n : Int) else -1) else placeUp ss s n
def placeV (ss : List ByteArray) (s : ByteArray) : Int := placeUp ss s ss.length
theorem placeUp_out {ss : List ByteArray} {s : ByteArray} : ∀ {n : Nat}, Out ss s n → placeUp ss s n = -1
  | 0, _ => rfl
  | n + 1, h => by
    rw [placeUp, if_pos (placeUp_out fun j hj => h j (by omega)), h n (by omega)]; rfl
theorem placeUp_in {ss : List ByteArray} {s : ByteArray} {k : Nat} (h : Out ss s k) (hk : ((sat ss k).toList == s.toList) = true) : ∀ m, placeUp ss s (k + 1 + m) = k
  | 0 => by rw [Nat.add_zero, placeUp, if_pos (placeUp_out h), hk]; rfl
  | m + 1 => by
    have := placeUp_in h hk m
    rw [← Nat.add_assoc, placeUp, this, if_neg (by omega)]
theorem place_out {ss : List ByteArray} {s : ByteArray} (h : Out ss s ss.length) : placeV ss s = -1 := placeUp_out h
theorem place_in {ss : List ByteArray} {s : ByteArray} {k : Nat} (hk : k < ss.length) (h : Out ss s k) (he : ((sat ss k).toList == s.toList) = true) : placeV ss s = k := by
  have := placeUp_in h he (ss.length - (k + 1))
  rwa [show k + 1 + (ss.length - (k + 1)) = ss.length by omega] at this
theorem beq_turn {x y : List UInt8} {t : Bool} (h : (x == y) = t) : (y == x) = t := by
  rw [← h, Bool.eq_iff_iff, beq_iff_eq, beq_iff_eq]
  exact ⟨fun e => e.symm, fun e => e.symm⟩

theorem placeUp_bd (ss : List ByteArray) (s : ByteArray) : ∀ n, -1 ≤ placeUp ss s n ∧ placeUp ss s n < n
  | 0 => by simp [placeUp]
  | n + 1 => by
    have := placeUp_bd ss s n
    rw [placeUp]
    split
    · split <;> omega
    · omega

end Go.Proofs.Ytbgklakhelcgcaa
