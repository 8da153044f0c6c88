/-
  Texts joined: MillV, Find.
-/
import Derived.Test.YtlnnchgaloejlaaGreatP1
import Derived.Test.YtlnnchgaloejlaaGreatP6
namespace Go.Proofs.YtlnnchgaloejlaaGreat
open Go.ChangeShapes Go.WideShapes Go.ChangeAt Go.RowKit

theorem millB_parts {m : Mil} (h : millB m = true) : (0 ≤ m.stake ∧ m.stake ≤ 1000000) ∧ (0 ≤ m.shares ∧ m.shares ≤ 1000000000) ∧ (m.stake = 0 ∨ 0 < m.shares) ∧ (0 ≤ m.cut ∧ m.cut ≤ 100) := by
  simp only [millB, Bool.and_eq_true, Bool.or_eq_true, beq_iff_eq, decide_eq_true_eq] at h
  obtain ⟨_, h1, h2, h3, h4⟩ := h
  have := inB_true h1
  have := inB_true h2
  have := inB_true h4
  exact ⟨by omega, by omega, h3, by omega⟩

set_option maxHeartbeats 1000000 in
set_option maxRecDepth 100000 in
theorem l4Find_any {w : World} {a : Option Addr} {ms : List Mil} (cap : Nat) (s : ByteArray) (h : Recs Mil.cs w a ms) (hl : ms.length ≤ 9223372036854775807) :
    Calls Tryz.prog 46 #[.slice a ms.length cap, .string s] w fun e w' => e = .returned (.int .i64 (placeV (mnames ms) s)) ∧ w = w' := by
  have H := Lib.hid h
  clear h
  go_enter Tryz.func46, Tryz.ntmps46
  go_wp2
  go_loop [5] (fun i => ∃ k : Nat, k ≤ ms.length ∧ i = .int .i64 k ∧ Out (mnames ms) s k) (fun i => ms.length - (intOf i).toNat)
  case atStart => exact ⟨0, Nat.zero_le _, rfl, Out.zero _ s⟩
  case round =>
    obtain ⟨k, hk, rfl, hu⟩ := hrel
    have HU := Lib.hid hu
    clear hu
    by_cases hlt : k < ms.length
    · obtain ⟨b, off, rfl, _, hc, -⟩ := Mil.at H.out k hlt
      have HA := Lib.hid (mnames_at hlt)
      cases hq : (ms[k].name.toList == s.toList)
      · have HN := Lib.hid (HU.out.succ (by rw [HA.out]; exact hq))
        go_wp2
        go_round
        case rel => exact ⟨k + 1, by omega, by go_num, HN.out⟩
        case measure => simp [intOf]; omega
      · have HN := Lib.hid (place_in (by rw [len_mn]; exact hlt) HU.out (by rw [HA.out]; exact hq))
        go_wp2
        go_ret
        exact ⟨by rw [HN.out]; rfl, rfl⟩
    · obtain rfl : k = ms.length := by omega
      have HN := Lib.hid (place_out (ss := mnames ms) (s := s) (by rw [len_mn]; exact HU.out))
      go_wp2
      go_ret
      exact ⟨by rw [HN.out]; rfl, rfl⟩

def mil0 : Mil := ⟨ByteArray.empty, 0, 0, 0, false⟩
/-- That mill, if it is there. -/
def millInB (ms : List Mil) (s : ByteArray) : Bool := millsB ms && decide (0 ≤ placeV (mnames ms) s)
def millInV (ms : List Mil) (s : ByteArray) : Mil := if millInB ms s then ms.getD (placeV (mnames ms) s).toNat mil0 else mil0
theorem millIn_no {ms : List Mil} {s : ByteArray} (h : millsB ms = false) : millInB ms s = false ∧ millInV ms s = mil0 := by simp [millInB, millInV, h]
theorem millIn_out {ms : List Mil} {s : ByteArray} (h : ¬ 0 ≤ placeV (mnames ms) s) : millInB ms s = false ∧ millInV ms s = mil0 := by simp [millInB, millInV, h]
theorem millIn_in {ms : List Mil} {s : ByteArray} {k : Nat} (h : millsB ms = true) (e : placeV (mnames ms) s = k) (hk : k < ms.length) : millInB ms s = true ∧ millInV ms s = ms[k] := by
  have h1 : millInB ms s = true := by simp [millInB, h, e]
  refine ⟨h1, ?_⟩
  rw [millInV, if_pos h1, e]
  simp [hk]
theorem mplace_lo (ms : List Mil) (s : ByteArray) : -1 ≤ placeV (mnames ms) s := (placeUp_bd (mnames ms) s (mnames ms).length).1

/-- A mill and a word come back. -/
def MillRes (m : Mil) (b : Bool) (w : World) (e : Ending) (w' : World) : Prop :=
  e = .returned (.tuple #[.agg #[.string m.name, .int .i64 m.stake, .int .i64 m.shares, .int .i64 m.cut, .bool m.shut], .bool b]) ∧ Below w.heap.size w w'

/-- What those shares are worth. -/
def worthV (m : Mil) (n : Int) : Int := if (millB m && inB 0 m.shares n) = true then (if m.shares = 0 then 0 else downV n m.stake m.shares) else -1

section
variable {m : Mil} {n : Int}
theorem worth_no (h : millB m = false) : worthV m n = -1 := by simp [worthV, h]
theorem worth_not (h : inB 0 m.shares n = false) : worthV m n = -1 := by simp [worthV, h]
theorem worth_zero (h : millB m = true) (h1 : inB 0 m.shares n = true) (h2 : m.shares = 0) : worthV m n = 0 := by rw [worthV, if_pos (by rw [h, h1]; rfl), if_pos h2]
theorem worth_down (h : millB m = true) (h1 : inB 0 m.shares n = true) (h2 : ¬ m.shares = 0) : worthV m n = downV n m.stake m.shares := by rw [worthV, if_pos (by rw [h, h1]; rfl), if_neg h2]
end

set_option maxHeartbeats 2000000 in
set_option maxRecDepth 100000 in
theorem sWorth_any (m : Mil) (n : Int) (w : World) (hs : m.name.size ≤ maxLen) :
    Calls Tryz.prog 45 #[.agg #[.string m.name, .int .i64 m.stake, .int .i64 m.shares, .int .i64 m.cut, .bool m.shut], .int .i64 n] w fun e w' => e = .returned (.int .i64 (worthV m n)) ∧ Below w.heap.size w w' := by
  have HS := Lib.hid hs
  clear hs
  go_enter Tryz.func45, Tryz.ntmps45
  go_wp2_with fail
  refine (sMillOk_any m _ HS.out).mono ?_
  rintro e w2 ⟨rfl, hb2⟩
  have HB2 := Lib.hid (below_trans (below_new w (.cells #[.string m.name, .int .i64 m.stake, .int .i64 m.shares, .int .i64 m.cut, .bool m.shut] 54)) hb2)
  obtain ⟨hcc, hff⟩ := kept_all hb2
  clear hb2
  cases hm : millB m
  · have HN := Lib.hid (worth_no (n := n) hm)
    go_wp2
    go_ret
    exact ⟨by rw [HN.out]; rfl, HB2.out⟩
  · cases hi : inB 0 m.shares n
    · have HN := Lib.hid (worth_not hi)
      go_wp2_with (go_at_call 66; refine (l1In_any _ _ _ _).mono ?_; rintro e w' ⟨rfl, rfl⟩; rw [hi])
      go_ret
      exact ⟨by rw [HN.out]; rfl, HB2.out⟩
    · cases hz : (m.shares == 0)
      · have HN := Lib.hid (worth_down hm hi (by simpa using hz))
        go_wp2_with (first | (go_at_call 66; refine (l1In_any _ _ _ _).mono ?_; rintro e w' ⟨rfl, rfl⟩; rw [hi]) | (go_at_call 82; refine (sDown_any _ _ _ _).mono ?_; rintro e w' ⟨rfl, rfl⟩))
        go_ret
        exact ⟨by rw [HN.out]; rfl, HB2.out⟩
      · have HN := Lib.hid (worth_zero hm hi (by simpa using hz))
        go_wp2_with (go_at_call 66; refine (l1In_any _ _ _ _).mono ?_; rintro e w' ⟨rfl, rfl⟩; rw [hi])
        go_ret
        exact ⟨by rw [HN.out]; rfl, HB2.out⟩

/-- How many shares that amount would buy. -/
def buyV (m : Mil) (n : Int) : Int := if 0 < m.shares then downV n m.shares m.stake else 1000 * n
def buyB (m : Mil) (n : Int) : Bool := millB m && (inB 1 1000000 n && !(decide (0 < m.shares) && m.stake == 0))
/-- How many shares that amount buys. -/
def sharesForV (m : Mil) (n : Int) : Int := if (buyB m n && inB 0 1000000000 (m.shares + buyV m n)) = true then buyV m n else -1
section
variable {m : Mil} {n : Int}
theorem for_no (h : buyB m n = false) : sharesForV m n = -1 := by simp [sharesForV, h]
theorem for_over (h : inB 0 1000000000 (m.shares + buyV m n) = false) : sharesForV m n = -1 := by simp [sharesForV, h]
theorem for_yes (h : buyB m n = true) (h2 : inB 0 1000000000 (m.shares + buyV m n) = true) : sharesForV m n = buyV m n := by simp [sharesForV, h, h2]
theorem buy_mill (h : millB m = false) : buyB m n = false := by simp [buyB, h]
theorem buy_n (h : inB 1 1000000 n = false) : buyB m n = false := by simp [buyB, h]
theorem buy_none (h1 : 0 < m.shares) (h : m.stake = 0) : buyB m n = false := by simp [buyB, h, h1]
theorem buy_yes (h : millB m = true) (h1 : inB 1 1000000 n = true) (h2 : ¬ (0 < m.shares ∧ m.stake = 0)) : buyB m n = true := by
  simp only [buyB, h, h1, Bool.true_and, Bool.not_eq_true', Bool.and_eq_false_iff, decide_eq_false_iff_not, beq_eq_false_iff_ne]
  by_cases h3 : 0 < m.shares
  · exact .inr (fun e => h2 ⟨h3, e⟩)
  · exact .inl h3
theorem buy_bd (h : millB m = true) (h1 : inB 1 1000000 n = true) (h2 : ¬ (0 < m.shares ∧ m.stake = 0)) : 0 ≤ buyV m n ∧ buyV m n ≤ 1000000000000000000 := by
  have hp := millB_parts h
  have hn := inB_true h1
  unfold buyV
  split
  · have hok : okD n m.shares m.stake = true := by
      simp only [okD, Bool.and_eq_true]
      exact ⟨inB_of (by omega) (by omega), inB_of (by omega) (by omega), inB_of (by omega) (by omega)⟩
    have := downV_bd hok
    rw [downV, if_pos hok]; omega
  · omega
end

set_option maxHeartbeats 2000000 in
set_option maxRecDepth 100000 in
theorem sSharesFor_any (m : Mil) (n : Int) (w : World) (hs : m.name.size ≤ maxLen) :
    Calls Tryz.prog 171 #[.agg #[.string m.name, .int .i64 m.stake, .int .i64 m.shares, .int .i64 m.cut, .bool m.shut], .int .i64 n] w fun e w' => e = .returned (.int .i64 (sharesForV m n)) ∧ Below w.heap.size w w' := by
  have HS := Lib.hid hs
  clear hs
  go_enter Tryz.func171, Tryz.ntmps171
  go_wp2_with fail
  refine (sMillOk_any m _ HS.out).mono ?_
  rintro e w2 ⟨rfl, hb2⟩
  have HB2 := Lib.hid (below_trans (below_new w (.cells #[.string m.name, .int .i64 m.stake, .int .i64 m.shares, .int .i64 m.cut, .bool m.shut] 54)) hb2)
  obtain ⟨hcc, hff⟩ := kept_all hb2
  clear hb2
  cases hm : millB m
  · have HN := Lib.hid (for_no (buy_mill (n := n) hm))
    go_wp2
    go_ret
    exact ⟨by rw [HN.out]; rfl, HB2.out⟩
  · cases hi : inB 1 1000000 n
    · have HN := Lib.hid (for_no (buy_n (m := m) hi))
      go_wp2_with (go_at_call 66; refine (l1In_any _ _ _ _).mono ?_; rintro e w' ⟨rfl, rfl⟩; rw [hi])
      go_ret
      exact ⟨by rw [HN.out]; rfl, HB2.out⟩
    · have hp := millB_parts hm
      have hn := inB_true hi
      obtain ⟨⟨p1, p2⟩, ⟨p3, p4⟩, -, -⟩ := hp
      obtain ⟨n1, n2⟩ := hn
      by_cases h0 : 0 < m.shares
      · by_cases hz : m.stake = 0
        · have HN := Lib.hid (for_no (buy_none (n := n) h0 hz))
          have hz' : (m.stake == 0) = true := by simpa using hz
          clear hz
          go_wp2_with (go_at_call 66; refine (l1In_any _ _ _ _).mono ?_; rintro e w' ⟨rfl, rfl⟩; rw [hi])
          go_ret
          exact ⟨by rw [HN.out]; rfl, HB2.out⟩
        · have hz' : (m.stake == 0) = false := by simpa using hz
          have hb := buy_bd hm hi (by omega)
          have HV := Lib.hid (show buyV m n = downV n m.shares m.stake by unfold buyV; rw [if_pos h0])
          rw [HV.out] at hb
          have HB := Lib.hid (buy_yes hm hi (by omega))
          obtain ⟨b1, b2⟩ := hb
          clear hz
          cases ho : inB 0 1000000000 (m.shares + downV n m.shares m.stake)
          · have HN := Lib.hid (for_over (m := m) (n := n) (by rw [HV.out]; exact ho))
            go_wp2_with (first | (go_at_call 66; refine (l1In_any _ _ _ _).mono ?_; rintro e w' ⟨rfl, rfl⟩; rw [hi]) | (go_at_call 82; refine (sDown_any _ _ _ _).mono ?_; rintro e w' ⟨rfl, rfl⟩) | (go_at_call 115; refine (sSharesOk_any _ _).mono ?_; rintro e w' ⟨rfl, rfl⟩; rw [ho]))
            go_ret
            exact ⟨by rw [HN.out]; rfl, HB2.out⟩
          · have HN := Lib.hid (for_yes HB.out (by rw [HV.out]; exact ho))
            go_wp2_with (first | (go_at_call 66; refine (l1In_any _ _ _ _).mono ?_; rintro e w' ⟨rfl, rfl⟩; rw [hi]) | (go_at_call 82; refine (sDown_any _ _ _ _).mono ?_; rintro e w' ⟨rfl, rfl⟩) | (go_at_call 115; refine (sSharesOk_any _ _).mono ?_; rintro e w' ⟨rfl, rfl⟩; rw [ho]))
            go_ret
            exact ⟨by rw [HN.out, HV.out]; rfl, HB2.out⟩
      · have hb := buy_bd hm hi (by omega)
        have HV := Lib.hid (show buyV m n = 1000 * n by unfold buyV; rw [if_neg h0])
        have HB := Lib.hid (buy_yes hm hi (by omega))
        clear hb
        cases ho : inB 0 1000000000 (m.shares + 1000 * n)
        · have HN := Lib.hid (for_over (m := m) (n := n) (by rw [HV.out]; exact ho))
          go_wp2_with (first | (go_at_call 66; refine (l1In_any _ _ _ _).mono ?_; rintro e w' ⟨rfl, rfl⟩; rw [hi]) | (go_at_call 115; refine (sSharesOk_any _ _).mono ?_; rintro e w' ⟨rfl, rfl⟩; rw [ho]))
          go_ret
          exact ⟨by rw [HN.out]; rfl, HB2.out⟩
        · have HN := Lib.hid (for_yes HB.out (by rw [HV.out]; exact ho))
          go_wp2_with (first | (go_at_call 66; refine (l1In_any _ _ _ _).mono ?_; rintro e w' ⟨rfl, rfl⟩; rw [hi]) | (go_at_call 115; refine (sSharesOk_any _ _).mono ?_; rintro e w' ⟨rfl, rfl⟩; rw [ho]))
          go_ret
          exact ⟨by rw [HN.out, HV.out]; rfl, HB2.out⟩

/-- All Stakes of the first k. -/
def sumM (ms : List Mil) : Nat → Int
  | 0 => 0
  | k + 1 => sumM ms k + (ms.getD k mil0).stake
def stakesV (ms : List Mil) : Int := if millsB ms = true then sumM ms ms.length else -1
theorem getD_mil {ms : List Mil} {k : Nat} (h : k < ms.length) : ms.getD k mil0 = ms[k] := by simp [h]
theorem sumM_bd {ms : List Mil} (h : MRight ms ms.length) : ∀ k, k ≤ ms.length → 0 ≤ sumM ms k ∧ sumM ms k ≤ 1000000 * k
  | 0, _ => by simp [sumM]
  | k + 1, hk => by
    have h1 := sumM_bd h k (by omega)
    have h2 := (millB_parts (h k (by omega) (by omega))).1
    simp only [sumM, getD_mil (show k < ms.length by omega)]
    omega

set_option maxHeartbeats 1000000 in
set_option maxRecDepth 100000 in
theorem l4Stakes_any {w : World} {a : Option Addr} {ms : List Mil} (cap : Nat) (h : Recs Mil.cs w a ms) (hf : millsB ms = true) :
    Calls Tryz.prog 69 #[.slice a ms.length cap] w fun e w' => e = .returned (.int .i64 (sumM ms ms.length)) ∧ w = w' := by
  obtain ⟨h4, hm, -⟩ := mills_true hf
  have H := Lib.hid h
  have HM := Lib.hid hm
  clear h hm hf
  go_enter Tryz.func69, Tryz.ntmps69
  go_wp2
  go_loop [3, 4] (fun t i => ∃ k : Nat, k ≤ ms.length ∧ i = .int .i64 k ∧ t = .int .i64 (sumM ms k)) (fun _ i => ms.length - (intOf i).toNat)
  case atStart => exact ⟨0, Nat.zero_le _, rfl, rfl⟩
  case round =>
    obtain ⟨k, hk, rfl, rfl⟩ := hrel
    have hb := sumM_bd HM.out k hk
    by_cases hlt : k < ms.length
    · obtain ⟨b, off, rfl, _, c0, c1, -⟩ := Mil.at H.out k hlt
      have HN := Lib.hid (show sumM ms (k + 1) = sumM ms k + ms[k].stake by simp only [sumM, getD_mil hlt])
      have hb3 := (millB_parts (HM.out k hlt hlt)).1
      go_wp2
      go_round
      case rel => exact ⟨k + 1, by omega, by go_num, by rw [HN.out]⟩
      case measure => simp [intOf]; omega
    · obtain rfl : k = ms.length := by omega
      go_wp2
      go_ret
      exact ⟨rfl, rfl⟩

/-- Is a share of x worth less than one of y? -/
def cheapB (x y : Mil) : Bool := millB x && (millB y && (!(x.shares == 0) && (!(y.shares == 0) && decide (x.stake * y.shares < y.stake * x.shares))))
end Go.Proofs.YtlnnchgaloejlaaGreat
namespace Go.Proofs.YtlnnchgaloejlaaGreat
open Go.ChangeShapes Go.WideShapes Go.ChangeAt Go.RowKit

/-- The first number below n of which q holds; -1 where there is none. -/
def findUp (q : Nat → Bool) : Nat → Int
  | 0 => -1
  | n + 1 => if findUp q n = -1 then (if q n then (n : Int) else -1) else findUp q n
theorem findUp_out {q : Nat → Bool} : ∀ {n : Nat}, (∀ j, j < n → q j = false) → findUp q n = -1
  | 0, _ => rfl
  | n + 1, h => by rw [findUp, if_pos (findUp_out fun j hj => h j (by omega)), h n (by omega)]; rfl
theorem findUp_in {q : Nat → Bool} {k : Nat} (h : ∀ j, j < k → q j = false) (hk : q k = true) : ∀ m, findUp q (k + 1 + m) = k
  | 0 => by rw [Nat.add_zero, findUp, if_pos (findUp_out h), hk]; rfl
  | m + 1 => by
    have := findUp_in h hk m
    rw [← Nat.add_assoc, findUp, this, if_neg (by omega)]
theorem findUp_at {q : Nat → Bool} {k n : Nat} (hn : k < n) (h : ∀ j, j < k → q j = false) (hk : q k = true) : findUp q n = k := by
  have := findUp_in h hk (n - (k + 1))
  rwa [show k + 1 + (n - (k + 1)) = n by omega] at this
theorem findUp_hit {q : Nat → Bool} : ∀ {n : Nat}, 0 ≤ findUp q n → ∃ k : Nat, findUp q n = (k : Int) ∧ k < n ∧ q k = true ∧ ∀ j, j < k → q j = false
  | 0, h => by simp [findUp] at h
  | n + 1, h => by
    by_cases hall : ∀ j, j < n → q j = false
    · cases hq : q n
      · rw [findUp_out (n := n + 1) (fun j hj => by by_cases e : j = n; subst e; exact hq; exact hall j (by omega))] at h
        omega
      · exact ⟨n, findUp_at (by omega) hall hq, by omega, hq, hall⟩
    · have h1 : findUp q n ≠ -1 := fun e => hall fun j hj => by
        cases hqj : q j
        · rfl
        · exfalso
          have : ∀ m, (∃ j, j < m ∧ q j = true) → findUp q m ≠ -1 := by
            intro m
            induction m with
            | zero => rintro ⟨j, hj, _⟩; omega
            | succ m ih =>
              rintro ⟨j, hj, hq⟩
              rw [findUp]
              by_cases hm : ∃ j, j < m ∧ q j = true
              · rw [if_neg (ih hm)]; exact ih hm
              · have : j = m := by
                  by_cases e : j = m
                  · exact e
                  · exact absurd ⟨j, by omega, hq⟩ hm
                subst this
                rw [hq]
                split
                · simp only [if_true]; omega
                · assumption
          exact this n ⟨j, hj, hqj⟩ e
      rw [findUp, if_neg h1] at h ⊢
      obtain ⟨k, e, hk, hq, hj⟩ := findUp_hit (n := n) h
      exact ⟨k, e, by omega, hq, hj⟩
theorem findUp_lo (q : Nat → Bool) : ∀ n, -1 ≤ findUp q n ∧ findUp q n < n
  | 0 => by simp [findUp]
  | n + 1 => by
    have := findUp_lo q n
    rw [findUp]
    split
    · split <;> omega
    · omega
end Go.Proofs.YtlnnchgaloejlaaGreat
