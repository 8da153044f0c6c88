/-
  What the program's WaitsOk, AmountIn, WaitsFor answer.
-/
import Derived.Test.YtkdelfadmnpkhaaCmpI
import Derived.Test.YtkdelfadmnpkhaaWaitF
namespace Go.Proofs.Ytkdelfadmnpkhaa
open Go.ChangeShapes Go.WideShapes Go.ChangeAt Go.RowKit

theorem wait_split (p : Wai) : waitB p = (nameB p.who && (nameB p.mill && (decide (1 ≤ p.amount) && (inB 0 1000000 p.amount && inB 0 1000 p.ripe)))) := by
  unfold waitB
  congr 1; congr 1
  rw [← Bool.and_assoc]; congr 1
  simp only [inB]
  rw [Bool.eq_iff_iff]; simp; omega

set_option maxHeartbeats 4000000 in
set_option maxRecDepth 100000 in
theorem iWaitRight_any (p : Wai) (w : World) (h1 : p.who.size ≤ maxLen) (h2 : p.mill.size ≤ maxLen) :
    Calls Try.prog 40 #[.agg #[.string p.who, .string p.mill, .int .i64 p.amount, .int .i64 p.ripe]] w fun e w' => e = .returned (.bool (waitB p)) ∧ Below w.heap.size w w' := by
  have HS1 := Lib.hid h1
  have HS2 := Lib.hid h2
  clear h1 h2
  have HN := Lib.hid (wait_split p)
  cases q1 : nameB p.who
  · go_enter Try.func40, Try.ntmps40
    go_wp2_with fail
    refine (iNameOk_any p.who _ HS1.out).mono ?_
    rintro e w' ⟨rfl, rfl⟩
    rw [q1]
    go_wp2
    go_ret
    exact ⟨by rw [HN.out, q1]; rfl, below_new _ _⟩
  cases q2 : nameB p.mill
  · go_enter Try.func40, Try.ntmps40
    go_wp2_with fail
    refine (iNameOk_any p.who _ HS1.out).mono ?_
    rintro e w' ⟨rfl, rfl⟩
    rw [q1]
    go_wp2_with fail
    refine (iNameOk_any p.mill _ HS2.out).mono ?_
    rintro e w' ⟨rfl, rfl⟩
    rw [q2]
    go_wp2
    go_ret
    exact ⟨by rw [HN.out, q1, q2]; rfl, below_new _ _⟩
  cases q3 : decide (1 ≤ p.amount)
  · go_enter Try.func40, Try.ntmps40
    go_wp2_with fail
    refine (iNameOk_any p.who _ HS1.out).mono ?_
    rintro e w' ⟨rfl, rfl⟩
    rw [q1]
    go_wp2_with fail
    refine (iNameOk_any p.mill _ HS2.out).mono ?_
    rintro e w' ⟨rfl, rfl⟩
    rw [q2]
    go_wp2
    go_ret
    exact ⟨by rw [HN.out, q1, q2, q3]; rfl, below_new _ _⟩
  cases q4 : inB 0 1000000 p.amount
  · go_enter Try.func40, Try.ntmps40
    go_wp2_with fail
    refine (iNameOk_any p.who _ HS1.out).mono ?_
    rintro e w' ⟨rfl, rfl⟩
    rw [q1]
    go_wp2_with fail
    refine (iNameOk_any p.mill _ HS2.out).mono ?_
    rintro e w' ⟨rfl, rfl⟩
    rw [q2]
    go_wp2_with fail
    refine (iAmountOk_any _ _).mono ?_
    rintro e w' ⟨rfl, rfl⟩
    rw [q4]
    go_wp2
    go_ret
    exact ⟨by rw [HN.out, q1, q2, q3, q4]; rfl, below_new _ _⟩
  cases q5 : inB 0 1000 p.ripe
  all_goals
    go_enter Try.func40, Try.ntmps40
    go_wp2_with fail
    refine (iNameOk_any p.who _ HS1.out).mono ?_
    rintro e w' ⟨rfl, rfl⟩
    rw [q1]
    go_wp2_with fail
    refine (iNameOk_any p.mill _ HS2.out).mono ?_
    rintro e w' ⟨rfl, rfl⟩
    rw [q2]
    go_wp2_with fail
    refine (iAmountOk_any _ _).mono ?_
    rintro e w' ⟨rfl, rfl⟩
    rw [q4]
    go_wp2_with fail
    refine (within_any _ _ _).mono ?_
    rintro e w' ⟨rfl, rfl⟩
    rw [q5]
    go_wp2
    go_ret
    exact ⟨by rw [HN.out, q1, q2, q3, q4, q5]; rfl, below_new _ _⟩

/-- From number k on none is ripe sooner than the one ahead of it. -/
def WFrom (ps : List Wai) (k : Nat) : Prop := ∀ j (h : j + 1 < ps.length), k ≤ j → ps[j].ripe ≤ ps[j + 1].ripe
noncomputable instance (ps : List Wai) : Decidable (WFrom ps 0) := Classical.propDecidable _
noncomputable def wsortB (ps : List Wai) : Bool := decide (WFrom ps 0)
theorem wsort_no {ps : List Wai} {k : Nat} (h : k + 1 < ps.length) (hq : ps[k + 1].ripe < ps[k].ripe) : wsortB ps = false := by
  simp only [wsortB, decide_eq_false_iff_not]
  intro hc; have := hc k h (Nat.zero_le _); omega
theorem wsort_yes {ps : List Wai} (h : WFrom ps 0) : wsortB ps = true := by simpa [wsortB] using h

set_option maxHeartbeats 4000000 in
set_option maxRecDepth 100000 in
theorem iSorted_any {w : World} {a : Option Addr} {ps : List Wai} (cap : Nat) (h : Recs Wai.cs w a ps) (hl : ps.length ≤ 1048576) :
    Calls Try.prog 47 #[.slice a ps.length cap, .func (Fn.func 48) #[] #[]] w fun e w' => e = .returned (.bool (wsortB ps)) ∧ Below w.heap.size w w' := by
  have H := Lib.hid h
  clear h
  go_enter Try.func47, Try.ntmps47
  go_wp2
  go_loopw [5] (fun i w' => ∃ (k : Int), -1 ≤ k ∧ k < ps.length ∧ i = .int .i64 k ∧ Below w.heap.size w w' ∧ WFrom ps k.toNat) (fun i _ => (intOf i).toNat)
  case atStart => exact ⟨(ps.length : Int) - 1, by omega, by omega, by go_num, Below.refl _ _, fun j hj hk => by omega⟩
  case round =>
    obtain ⟨k, hk0, hk, rfl, hb, hu⟩ := hrel
    have HB := Lib.hid hb
    have HU := Lib.hid hu
    clear hb hu
    by_cases h0 : 0 < k
    · obtain ⟨m, rfl⟩ : ∃ m : Nat, k = (m : Int) + 1 := ⟨k.toNat - 1, by omega⟩
      have hlt : m + 1 < ps.length := by omega
      obtain ⟨b, off, rfl, hlb, c0, c1, c2, c3⟩ := Wai.at (H.out.below HB.out) (m + 1) hlt
      obtain ⟨b', off', e', _, d0, d1, d2, d3⟩ := Wai.at (H.out.below HB.out) m (by omega)
      obtain ⟨rfl, rfl⟩ : b' = b ∧ off' = off := by injection e' with e'; injection e' with e1 e2; exact ⟨e1.symm, e2.symm⟩
      clear e'
      have e0 := Grow.cell c0
      have e1 := Grow.cell c1
      have e2 := Grow.cell c2
      have e3 := Grow.cell c3
      have f0 := Grow.cell d0
      have f1 := Grow.cell d1
      have f2 := Grow.cell d2
      have f3 := Grow.cell d3
      have ht : ((m : Int) + 1).toNat = m + 1 := by omega
      have hs1 : (m : Int) + 1 - 1 = m := by omega
      obtain ⟨x, HX⟩ : ∃ x, Hid (cmpN ps[m + 1].ripe ps[m].ripe = x) := ⟨_, Lib.hid rfl⟩
      go_wp2
      refine wp_region_grow (by kernel_rfl) (by kernel_rfl) ?_
      repeat (go_big_quiet_step ((go_at_call 48; exact grow_call (int_is HX.out) (iByRipe_any ps[m + 1] ps[m] _))))
      refine wpQuiet_nil ?_
      intro _ hw'
      obtain ⟨gq, rfl⟩ := hw'
      have HB2 := Lib.hid (below_trans HB.out gq.ok)
      by_cases hq : ps[m + 1].ripe < ps[m].ripe
      · have HN := Lib.hid (wsort_no hlt hq)
        have hx : x = -1 := by rw [← HX.out]; exact cmpN_lt hq
        subst hx
        go_wp2
        go_ret
        exact ⟨by rw [HN.out]; rfl, HB2.out⟩
      · have hx : ¬ x < 0 := by rw [← HX.out]; unfold cmpN; rw [if_neg hq]; split <;> omega
        have HN : Hid (WFrom ps m) := by
          intro j hj hmj
          by_cases e : j = m
          · subst e; omega
          · exact HU.out j hj (by omega)
        go_wp2
        go_roundw
        case rel => exact ⟨m, by omega, by omega, by go_num, HB2.out, HN.out⟩
        case measure => simp [intOf]
    · have HN := Lib.hid (wsort_yes (ps := ps) (fun j hj _ => HU.out j hj (by omega)))
      go_wp2
      go_ret
      exact ⟨by rw [HN.out]; rfl, HB.out⟩
end Go.Proofs.Ytkdelfadmnpkhaa
