/-
  Texts joined: Down, MillS.
-/
import Derived.Test.YtlnnchgaloejlaaGreatP1
import Derived.Test.YtlnnchgaloejlaaGreatP2
import Derived.Test.YtlnnchgaloejlaaGreatP3
import Derived.Test.YtlnnchgaloejlaaGreatP5
namespace Go.Proofs.YtlnnchgaloejlaaGreat
open Go.ChangeShapes Go.WideShapes Go.ChangeAt Go.RowKit

theorem prod_bd (a b : Int) (ha : 0 ≤ a) (ha2 : a ≤ 1000000000) (hb : 0 ≤ b) (hb2 : b ≤ 1000000000) : 0 ≤ a * b ∧ a * b ≤ 1000000000000000000 :=
  ⟨Int.mul_nonneg ha hb, by have := Int.mul_le_mul ha2 hb2 hb (by omega); omega⟩

def okD (a b c : Int) : Bool := inB 0 1000000000 a && (inB 0 1000000000 b && inB 1 1000000000 c)
def downV (a b c : Int) : Int := if okD a b c = true then a * b / c else -1
def partV (n p : Int) : Int := if (inB 0 1000000 n && inB 0 100 p) = true then n * p / 100 else -1

theorem okD_true {a b c : Int} (h : okD a b c = true) : 0 ≤ a ∧ a ≤ 1000000000 ∧ 0 ≤ b ∧ b ≤ 1000000000 ∧ 1 ≤ c ∧ c ≤ 1000000000 := by
  simp only [okD, Bool.and_eq_true] at h
  obtain ⟨h1, h2, h3⟩ := h
  have := inB_true h1; have := inB_true h2; have := inB_true h3; omega

set_option maxHeartbeats 1000000 in
set_option maxRecDepth 100000 in
theorem sDown_any (a b c : Int) (w : World) :
    Calls Tryz.prog 82 #[.int .i64 a, .int .i64 b, .int .i64 c] w fun e w' => e = .returned (.int .i64 (downV a b c)) ∧ w = w' := by
  cases ba : inB 0 1000000000 a
  · have hd : downV a b c = -1 := by simp [downV, okD, ba]
    rw [hd]; clear hd
    go_enter Tryz.func82, Tryz.ntmps82
    go_wp2_with (go_at_call 115; refine (sSharesOk_any _ _).mono ?_; rintro e w' ⟨rfl, rfl⟩; rw [ba])
    go_ret
    exact ⟨rfl, rfl⟩
  · cases bb : inB 0 1000000000 b
    · have hd : downV a b c = -1 := by simp [downV, okD, bb]
      rw [hd]; clear hd
      go_enter Tryz.func82, Tryz.ntmps82
      go_wp2_with (go_at_call 115; refine (sSharesOk_any _ _).mono ?_; rintro e w' ⟨rfl, rfl⟩; first | rw [ba] | rw [bb])
      go_ret
      exact ⟨rfl, rfl⟩
    · cases bc : inB 1 1000000000 c
      · have hd : downV a b c = -1 := by simp [downV, okD, bc]
        rw [hd]; clear hd
        go_enter Tryz.func82, Tryz.ntmps82
        go_wp2_with (first | (go_at_call 115; refine (sSharesOk_any _ _).mono ?_; rintro e w' ⟨rfl, rfl⟩; first | rw [ba] | rw [bb]) | (go_at_call 66; refine (l1In_any _ _ _ _).mono ?_; rintro e w' ⟨rfl, rfl⟩; rw [bc]))
        go_ret
        exact ⟨rfl, rfl⟩
      · have hd : downV a b c = a * b / c := by simp [downV, okD, ba, bb, bc]
        rw [hd]; clear hd
        obtain ⟨ha, ha2⟩ := inB_true ba
        obtain ⟨hb, hb2⟩ := inB_true bb
        obtain ⟨hc, hc2⟩ := inB_true bc
        obtain ⟨hp, hp2⟩ := prod_bd a b ha ha2 hb hb2
        go_enter Tryz.func82, Tryz.ntmps82
        go_wp2_with (first | (go_at_call 115; refine (sSharesOk_any _ _).mono ?_; rintro e w' ⟨rfl, rfl⟩; first | rw [ba] | rw [bb]) | (go_at_call 66; refine (l1In_any _ _ _ _).mono ?_; rintro e w' ⟨rfl, rfl⟩; rw [bc]))
        go_ret
        exact ⟨rfl, rfl⟩

theorem downV_bd {a b c : Int} (h : okD a b c = true) : 0 ≤ a * b ∧ a * b ≤ 1000000000000000000 ∧ 0 ≤ a * b / c ∧ a * b / c ≤ 1000000000000000000 ∧ 0 ≤ a * b / c * c ∧ a * b / c * c ≤ 1000000000000000000 := by
  obtain ⟨ha, ha2, hb, hb2, hc, hc2⟩ := okD_true h
  obtain ⟨hp, hp2⟩ := prod_bd a b ha ha2 hb hb2
  have h1 : 0 ≤ a * b / c := Int.ediv_nonneg hp (by omega)
  have h2 : a * b / c ≤ a * b := Int.ediv_le_self _ hp
  have h3 : a * b / c * c ≤ a * b := Int.ediv_mul_le _ (by omega)
  have h4 : 0 ≤ a * b / c * c := Int.mul_nonneg h1 (by omega)
  omega

theorem overDown_any (p c : Int) (w : World) (hp : 0 ≤ p) (hp2 : p ≤ 1000000000000000000) (hc : 1 ≤ c) (hc2 : c ≤ 1000000000) :
    Calls Tryz.prog 147 #[.int .i64 p, .int .i64 c] w fun e w' => e = .returned (.int .i64 (p / c)) ∧ w = w' := by
  go_enter Tryz.func147, Tryz.ntmps147
  go_wp2
  go_ret
  exact ⟨rfl, rfl⟩

end Go.Proofs.YtlnnchgaloejlaaGreat
namespace Go.Proofs.YtlnnchgaloejlaaGreat
open Go.ChangeShapes Go.WideShapes Go.ChangeAt Go.RowKit

/-- A right mill. -/
def millB (m : Mil) : Bool := nameB m.name && (inB 0 1000000 m.stake && (inB 0 1000000000 m.shares && ((m.stake == 0 || decide (0 < m.shares)) && inB 0 100 m.cut)))

set_option maxHeartbeats 2000000 in
set_option maxRecDepth 100000 in
theorem sMillOk_any (m : Mil) (w : World) (hs : m.name.size ≤ maxLen) :
    Calls Tryz.prog 81 #[.agg #[.string m.name, .int .i64 m.stake, .int .i64 m.shares, .int .i64 m.cut, .bool m.shut]] w fun e w' => e = .returned (.bool (millB m)) ∧ Below w.heap.size w w' := by
  have HS := Lib.hid hs
  clear hs
  have HN : Hid (millB m = (nameB m.name && (inB 0 1000000 m.stake && (inB 0 1000000000 m.shares && ((m.stake == 0 || decide (0 < m.shares)) && inB 0 100 m.cut))))) := rfl
  cases h1 : nameB m.name
  · go_enter Tryz.func81, Tryz.ntmps81
    go_wp2_with (go_at_call 83; refine (sNameOk_any _ _ HS.out).mono ?_; rintro e w' ⟨rfl, rfl⟩; rw [h1])
    go_ret
    exact ⟨by rw [HN.out, h1]; rfl, below_new _ _⟩
  · cases h2 : inB 0 1000000 m.stake
    · go_enter Tryz.func81, Tryz.ntmps81
      go_wp2_with (first | (go_at_call 83; refine (sNameOk_any _ _ HS.out).mono ?_; rintro e w' ⟨rfl, rfl⟩; rw [h1]) | (go_at_call 67; refine (sAmountOk_any _ _).mono ?_; rintro e w' ⟨rfl, rfl⟩; rw [h2]))
      go_ret
      exact ⟨by rw [HN.out, h1, h2]; rfl, below_new _ _⟩
    · cases h3 : inB 0 1000000000 m.shares
      · go_enter Tryz.func81, Tryz.ntmps81
        go_wp2_with (first | (go_at_call 83; refine (sNameOk_any _ _ HS.out).mono ?_; rintro e w' ⟨rfl, rfl⟩; rw [h1]) | (go_at_call 67; refine (sAmountOk_any _ _).mono ?_; rintro e w' ⟨rfl, rfl⟩; rw [h2]) | (go_at_call 115; refine (sSharesOk_any _ _).mono ?_; rintro e w' ⟨rfl, rfl⟩; rw [h3]))
        go_ret
        exact ⟨by rw [HN.out, h1, h2, h3]; rfl, below_new _ _⟩
      · cases h4 : (m.stake == 0) <;> cases h5 : decide (0 < m.shares)
        · go_enter Tryz.func81, Tryz.ntmps81
          go_wp2_with (first | (go_at_call 83; refine (sNameOk_any _ _ HS.out).mono ?_; rintro e w' ⟨rfl, rfl⟩; rw [h1]) | (go_at_call 67; refine (sAmountOk_any _ _).mono ?_; rintro e w' ⟨rfl, rfl⟩; rw [h2]) | (go_at_call 115; refine (sSharesOk_any _ _).mono ?_; rintro e w' ⟨rfl, rfl⟩; rw [h3]))
          go_ret
          exact ⟨by rw [HN.out, h1, h2, h3, h4, h5]; rfl, below_new _ _⟩
        all_goals
          cases h6 : inB 0 100 m.cut
          all_goals
            go_enter Tryz.func81, Tryz.ntmps81
            go_wp2_with (first | (go_at_call 83; refine (sNameOk_any _ _ HS.out).mono ?_; rintro e w' ⟨rfl, rfl⟩; rw [h1]) | (go_at_call 67; refine (sAmountOk_any _ _).mono ?_; rintro e w' ⟨rfl, rfl⟩; rw [h2]) | (go_at_call 115; refine (sSharesOk_any _ _).mono ?_; rintro e w' ⟨rfl, rfl⟩; rw [h3]) | (go_at_call 66; refine (l1In_any _ _ _ _).mono ?_; rintro e w' ⟨rfl, rfl⟩; rw [h6]))
            go_ret
            exact ⟨by rw [HN.out, h1, h2, h3, h4, h5, h6]; rfl, below_new _ _⟩

/-- Their names. -/
def mnames (ms : List Mil) : List ByteArray := ms.map Mil.name
theorem len_mn (ms : List Mil) : (mnames ms).length = ms.length := by simp [mnames]
theorem mnames_at {ms : List Mil} {k : Nat} (h : k < ms.length) : sat (mnames ms) k = ms[k].name := by
  rw [sat_eq (by rw [len_mn]; exact h)]; simp [mnames]
/-- The first n are right. -/
def MRight (ms : List Mil) (n : Nat) : Prop := ∀ j (h : j < ms.length), j < n → millB ms[j] = true
instance (ms : List Mil) (n : Nat) : Decidable (MRight ms n) := inferInstanceAs (Decidable (∀ j (h : j < ms.length), j < n → millB ms[j] = true))
/-- They are mills. -/
def millsB (ms : List Mil) : Bool := decide (ms.length ≤ 4 ∧ MRight ms ms.length ∧ risesB (mnames ms) = true)
theorem mills_true {ms : List Mil} (h : millsB ms = true) : ms.length ≤ 4 ∧ MRight ms ms.length ∧ risesB (mnames ms) = true := by simpa [millsB] using h
theorem mills_yes {ms : List Mil} (h : ms.length ≤ 4) (h1 : MRight ms ms.length) (h2 : risesB (mnames ms) = true) : millsB ms = true := by simp [millsB, h, h1, h2]
theorem mills_long {ms : List Mil} (h : ¬ ms.length ≤ 4) : millsB ms = false := by simp [millsB]; omega
theorem mills_not {ms : List Mil} {k : Nat} (hk : k < ms.length) (h : millB ms[k] = false) : millsB ms = false := by
  simp only [millsB, decide_eq_false_iff_not]; rintro ⟨_, h1, _⟩; rw [h1 k hk hk] at h; cases h
theorem mills_rise {ms : List Mil} (h : risesB (mnames ms) = false) : millsB ms = false := by
  simp only [millsB, decide_eq_false_iff_not]; rintro ⟨_, _, h1⟩; rw [h1] at h; cases h
theorem MRight.zero (ms : List Mil) : MRight ms 0 := fun _ _ h => by omega
theorem MRight.succ {ms : List Mil} {k : Nat} (h : MRight ms k) (hk : k < ms.length) (h1 : millB ms[k] = true) : MRight ms (k + 1) := by
  intro j hj hlt
  by_cases e : j = k
  · subst e; exact h1
  · exact h j hj (by omega)
theorem millB_name {m : Mil} (h : millB m = true) : nameB m.name = true := by
  simp only [millB, Bool.and_eq_true] at h; exact h.1

set_option maxHeartbeats 2000000 in
set_option maxRecDepth 100000 in
theorem sMillsOk_any {w : World} {a : Option Addr} {ms : List Mil} (cap : Nat) (h : Recs Mil.cs w a ms) (hl : ms.length ≤ 9223372036854775807) (hs : Sized (mnames ms)) :
    Calls Tryz.prog 63 #[.slice a ms.length cap] w fun e w' => e = .returned (.bool (millsB ms)) ∧ Below w.heap.size w w' := by
  have H := Lib.hid h
  have HS := Lib.hid hs
  clear h hs
  go_enter Tryz.func63, Tryz.ntmps63
  go_wp2
  go_loopw [3] (fun i w' => ∃ (k : Nat), k ≤ ms.length ∧ i = .int .i64 k ∧ Below w.heap.size w w' ∧ Up (mnames ms) k ∧ MRight ms k) (fun i _ => ms.length - (intOf i).toNat)
  case atStart => exact ⟨0, Nat.zero_le _, rfl, Below.refl _ _, Up.zero _, MRight.zero _⟩
  case round =>
    obtain ⟨k, hk, rfl, hb, hu, hm⟩ := hrel
    have HB := Lib.hid hb
    have HU := Lib.hid hu
    have HM := Lib.hid hm
    clear hu hm hb
    by_cases hlt : k < ms.length
    · obtain ⟨b, off, rfl, hlb, hc0, hc1, hc2, hc3, hc4⟩ := Mil.at (H.out.below HB.out) k hlt
      have HA := Lib.hid (mnames_at hlt)
      have hsz : Hid (ms[k].name.size ≤ maxLen) := by have := HS.out k; rw [HA.out] at this; exact this
      have hlp : k < (mnames ms).length := by rw [len_mn]; exact hlt
      have e0 := Grow.cell hc0
      have e1 := Grow.cell hc1
      have e2 := Grow.cell hc2
      have e3 := Grow.cell hc3
      have e4 := Grow.cell hc4
      cases hn : millB ms[k]
      · have HN := Lib.hid (mills_not hlt hn)
        go_wp2
        refine wp_region_grow (by kernel_rfl) (by kernel_rfl) ?_
        repeat (go_big_quiet_step ((go_at_call 81; exact grow_call (bool_is hn) (sMillOk_any ms[k] _ hsz.out))))
        refine wpQuiet_nil ?_
        intro _ hw'
        obtain ⟨gq, rfl⟩ := hw'
        have HB2 := Lib.hid (below_trans HB.out gq.ok)
        go_wp2
        go_ret
        exact ⟨by rw [HN.out]; rfl, HB2.out⟩
      · have HN2 := Lib.hid (HM.out.succ hlt hn)
        have HNM := Lib.hid (millB_name hn)
        cases k with
        | zero =>
          have HN := Lib.hid (Up.one (ss := mnames ms) (by rw [HA.out]; exact HNM.out))
          simp only [Nat.zero_mul, Nat.add_zero] at e0 e1 e2 e3 e4
          go_wp2
          refine wp_region_grow (by kernel_rfl) (by kernel_rfl) ?_
          repeat (go_big_quiet_step ((go_at_call 81; exact grow_call (bool_is hn) (sMillOk_any ms[0] _ hsz.out))))
          refine wpQuiet_nil ?_
          intro _ hw'
          obtain ⟨gq, rfl⟩ := hw'
          have HB2 := Lib.hid (below_trans HB.out gq.ok)
          go_wp2
          go_roundw
          case rel => exact ⟨1, by omega, by go_num, HB2.out, HN.out, HN2.out⟩
          case measure => simp [intOf]; omega
        | succ m =>
          obtain ⟨b', off', e', _, hd0, -⟩ := Mil.at (H.out.below HB.out) m (by omega)
          obtain ⟨rfl, rfl⟩ : b' = b ∧ off' = off := by injection e' with e'; injection e' with e1 e2; exact ⟨e1.symm, e2.symm⟩
          clear e'
          have f0 := Grow.cell hd0
          have HA' := Lib.hid (mnames_at (ms := ms) (k := m) (by omega))
          cases hq : (Op.bytesLess (ms[m + 1]).name.toList (ms[m]).name.toList || (ms[m + 1]).name.toList == (ms[m]).name.toList)
          · have HN := Lib.hid (HU.out.succ (by rw [HA.out]; exact HNM.out) (by rw [HA.out, HA'.out]; exact hq))
            go_wp2
            refine wp_region_grow (by kernel_rfl) (by kernel_rfl) ?_
            repeat (go_big_quiet_step ((go_at_call 81; exact grow_call (bool_is hn) (sMillOk_any ms[m + 1] _ hsz.out))))
            refine wpQuiet_nil ?_
            intro _ hw'
            obtain ⟨gq, rfl⟩ := hw'
            have HB2 := Lib.hid (below_trans HB.out gq.ok)
            go_wp2
            go_roundw
            case rel => exact ⟨m + 2, by omega, by go_num, HB2.out, HN.out, HN2.out⟩
            case measure => simp [intOf]; omega
          · have HN := Lib.hid (mills_rise (rises_not hlp (by rw [HA.out, HA'.out]; exact hq)))
            go_wp2
            refine wp_region_grow (by kernel_rfl) (by kernel_rfl) ?_
            repeat (go_big_quiet_step ((go_at_call 81; exact grow_call (bool_is hn) (sMillOk_any ms[m + 1] _ hsz.out))))
            refine wpQuiet_nil ?_
            intro _ hw'
            obtain ⟨gq, rfl⟩ := hw'
            have HB2 := Lib.hid (below_trans HB.out gq.ok)
            go_wp2
            go_ret
            exact ⟨by rw [HN.out]; rfl, HB2.out⟩
    · obtain rfl : k = ms.length := by omega
      by_cases h4 : ms.length ≤ 4
      · have HN := Lib.hid (mills_yes h4 HM.out (rises_yes (by rw [len_mn]; exact HU.out)))
        go_wp2
        go_ret
        exact ⟨by rw [HN.out]; simp; omega, HB.out⟩
      · have HN := Lib.hid (mills_long h4)
        go_wp2
        go_ret
        exact ⟨by rw [HN.out]; simp; omega, HB.out⟩
end Go.Proofs.YtlnnchgaloejlaaGreat
