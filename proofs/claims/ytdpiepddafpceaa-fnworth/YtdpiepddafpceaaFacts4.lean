/-
  Plain facts on mills: what shares are worth, what they cost, and that none becomes cheaper.
-/
import Derived.Test.YtdpiepddafpceaaMillV
namespace Go.Proofs.Ytdpiepddafpceaa
open Go.ChangeShapes Go.WideShapes Go.ChangeAt Go.RowKit

theorem okD_of_bd {a b c : Int} (h1 : 0 ≤ a) (h2 : a ≤ 1000000000) (h3 : 0 ≤ b) (h4 : b ≤ 1000000000) (h5 : 1 ≤ c) (h6 : c ≤ 1000000000) : okD a b c = true := by
  simp only [okD, Bool.and_eq_true]
  exact ⟨inB_of h1 h2, inB_of h3 h4, inB_of h5 h6⟩
theorem downV_eq {a b c : Int} (h1 : 0 ≤ a) (h2 : a ≤ 1000000000) (h3 : 0 ≤ b) (h4 : b ≤ 1000000000) (h5 : 1 ≤ c) (h6 : c ≤ 1000000000) : downV a b c = a * b / c := by
  rw [downV, if_pos (okD_of_bd h1 h2 h3 h4 h5 h6)]
/-- Down, by c again, is no more than what is exact, and c more is more. -/
theorem floor_bd {p c : Int} (h : 1 ≤ c) : p / c * c ≤ p ∧ p < (p / c + 1) * c := by
  have h1 := Int.mul_ediv_add_emod p c
  have h2 := Int.emod_nonneg p (show c ≠ 0 by omega)
  have h3 := Int.emod_lt_of_pos p (show 0 < c by omega)
  have h4 : c * (p / c) = p / c * c := Int.mul_comm _ _
  rw [Int.add_mul, Int.one_mul]
  omega
theorem floor_le {p c q : Int} (h : 1 ≤ c) (hp : p < (q + 1) * c) : p / c ≤ q := by
  have := Int.ediv_lt_of_lt_mul (show 0 < c by omega) hp
  omega

theorem worth_neg {m : Mil} {n : Int} (h : worthV m n < 0) : worthV m n = -1 := by
  unfold worthV at h ⊢
  split at h
  · rename_i hb
    rw [if_pos hb]
    simp only [Bool.and_eq_true] at hb
    obtain ⟨hm, hn⟩ := hb
    have hp := millB_parts hm
    have hn' := inB_true hn
    split at h
    · omega
    · rename_i hz
      rw [downV_eq (by omega) (by omega) (by omega) (by omega) (by omega) (by omega)] at h
      have := Int.ediv_nonneg (Int.mul_nonneg (show 0 ≤ n by omega) (show 0 ≤ m.stake by omega)) (show 0 ≤ m.shares by omega)
      omega
  · rename_i hb
    rw [if_neg hb]
theorem worth_ok {m : Mil} {n : Int} (h : ¬ worthV m n < 0) : millB m = true ∧ 0 ≤ n ∧ n ≤ m.shares := by
  unfold worthV at h
  split at h
  · rename_i hb
    simp only [Bool.and_eq_true] at hb
    have := inB_true hb.2
    exact ⟨hb.1, by omega, by omega⟩
  · omega
/-- So much it is, where there are shares. -/
theorem worth_eq {m : Mil} {n : Int} (hm : millB m = true) (h0 : 0 ≤ n) (h1 : n ≤ m.shares) : worthV m n = if m.shares = 0 then 0 else n * m.stake / m.shares := by
  have hp := millB_parts hm
  rw [worthV, if_pos (by rw [hm, inB_of h0 h1]; rfl)]
  split
  · rfl
  · exact downV_eq (by omega) (by omega) (by omega) (by omega) (by omega) (by omega)

/-- All shares are worth the stake; parts of them no more than that together; what is left is no cheaper. -/
theorem worth_facts {m : Mil} {n : Int} (h : ¬ worthV m n < 0) :
    0 ≤ worthV m n ∧ worthV m n ≤ m.stake ∧ worthV m m.shares = m.stake ∧ worthV m n + worthV m (m.shares - n) ≤ m.stake ∧ 0 ≤ worthV m (m.shares - n) ∧
    ∀ (s : ByteArray) (c : Int) (b : Bool), cheapB ⟨s, m.stake - worthV m n, m.shares - n, c, b⟩ m = false := by
  obtain ⟨hm, h0, h1⟩ := worth_ok h
  have hp := millB_parts hm
  rw [worth_eq hm h0 h1, worth_eq hm (show 0 ≤ m.shares by omega) (Int.le_refl _), worth_eq hm (show 0 ≤ m.shares - n by omega) (by omega)]
  by_cases hz : m.shares = 0
  · rw [if_pos hz, if_pos hz, if_pos hz]
    refine ⟨by omega, by omega, by omega, by omega, by omega, fun s c b => ?_⟩
    simp [cheapB, hz]
  · rw [if_neg hz, if_neg hz, if_neg hz]
    have hS : 1 ≤ m.shares := by omega
    have f1 := floor_bd (p := n * m.stake) hS
    have f2 := floor_bd (p := (m.shares - n) * m.stake) hS
    have e1 : (m.shares - n) * m.stake = m.shares * m.stake - n * m.stake := Int.sub_mul _ _ _
    have e2 : m.shares * m.stake / m.shares = m.stake := Int.mul_ediv_cancel_left _ hz
    have hn0 : 0 ≤ n * m.stake := Int.mul_nonneg h0 (by omega)
    have hn1 : 0 ≤ (m.shares - n) * m.stake := Int.mul_nonneg (by omega) (by omega)
    have hw0 : 0 ≤ n * m.stake / m.shares := Int.ediv_nonneg hn0 (by omega)
    have hw1 : 0 ≤ (m.shares - n) * m.stake / m.shares := Int.ediv_nonneg hn1 (by omega)
    have hsum : n * m.stake / m.shares + (m.shares - n) * m.stake / m.shares ≤ m.stake := by
      have hlt : (n * m.stake / m.shares + (m.shares - n) * m.stake / m.shares) * m.shares ≤ m.stake * m.shares := by
        rw [Int.add_mul]
        have : m.stake * m.shares = m.shares * m.stake := Int.mul_comm _ _
        omega
      exact Int.le_of_mul_le_mul_right hlt (by omega)
    refine ⟨hw0, by omega, e2, hsum, hw1, fun s c b => ?_⟩
    have hnot : ¬ (m.stake - n * m.stake / m.shares) * m.shares < m.stake * (m.shares - n) := by
      rw [Int.sub_mul, Int.mul_sub]
      have : m.stake * n = n * m.stake := Int.mul_comm _ _
      omega
    simp [cheapB, hnot]

theorem for_neg {m : Mil} {n : Int} (h : sharesForV m n < 0) : sharesForV m n = -1 := by
  unfold sharesForV at h ⊢
  split at h
  · rename_i hb
    rw [if_pos hb]
    simp only [Bool.and_eq_true, buyB, Bool.not_eq_true', Bool.and_eq_false_iff, decide_eq_false_iff_not, beq_eq_false_iff_ne] at hb
    obtain ⟨⟨hm, hn, hz⟩, _⟩ := hb
    have := buy_bd hm hn (by rintro ⟨h1, h2⟩; rcases hz with hz | hz; exact hz h1; exact hz h2)
    omega
  · rename_i hb
    rw [if_neg hb]
/-- What is bought is worth no more than what it cost, and makes no share cheaper. -/
theorem for_facts {m : Mil} {a : Int} (h : ¬ sharesForV m a < 0) (hx : millB ⟨m.name, m.stake + a, m.shares + sharesForV m a, m.cut, m.shut⟩ = true) (h1 : 1 ≤ sharesForV m a) :
    worthV ⟨m.name, m.stake + a, m.shares + sharesForV m a, m.cut, m.shut⟩ (sharesForV m a) ≤ a ∧ cheapB ⟨m.name, m.stake + a, m.shares + sharesForV m a, m.cut, m.shut⟩ m = false := by
  have hb : (buyB m a && inB 0 1000000000 (m.shares + buyV m a)) = true := by
    cases hq : (buyB m a && inB 0 1000000000 (m.shares + buyV m a))
    · unfold sharesForV at h; rw [hq] at h; simp at h
    · rfl
  have hv : sharesForV m a = buyV m a := by unfold sharesForV; rw [if_pos hb]
  rw [hv] at hx h1 ⊢
  simp only [Bool.and_eq_true, buyB, Bool.not_eq_true', Bool.and_eq_false_iff, decide_eq_false_iff_not, beq_eq_false_iff_ne] at hb
  obtain ⟨⟨hm, hn, hz⟩, _⟩ := hb
  have hp := millB_parts hm
  have hn' := inB_true hn
  have hpx := millB_parts hx
  simp only at hpx
  rw [worth_eq hx (by omega) (by show buyV m a ≤ m.shares + buyV m a; omega)]
  simp only
  rw [if_neg (by omega)]
  by_cases hS : 0 < m.shares
  · have hT : 1 ≤ m.stake := by rcases hz with hz | hz <;> omega
    have hbv : buyV m a = a * m.shares / m.stake := by
      unfold buyV; rw [if_pos hS]; exact downV_eq (by omega) (by omega) (by omega) (by omega) (by omega) (by omega)
    have fb := (floor_bd (p := a * m.shares) hT).1
    rw [← hbv] at fb
    constructor
    · refine floor_le (by omega) ?_
      have e1 : buyV m a * (m.stake + a) = buyV m a * m.stake + buyV m a * a := Int.mul_add _ _ _
      have e2 : (a + 1) * (m.shares + buyV m a) = a * m.shares + a * buyV m a + (m.shares + buyV m a) := by rw [Int.add_mul, Int.one_mul, Int.mul_add]
      have e3 : buyV m a * a = a * buyV m a := Int.mul_comm _ _
      omega
    · have hnot : ¬ (m.stake + a) * m.shares < m.stake * (m.shares + buyV m a) := by
        have e1 : (m.stake + a) * m.shares = m.stake * m.shares + a * m.shares := Int.add_mul _ _ _
        have e2 : m.stake * (m.shares + buyV m a) = m.stake * m.shares + m.stake * buyV m a := Int.mul_add _ _ _
        have e3 : m.stake * buyV m a = buyV m a * m.stake := Int.mul_comm _ _
        omega
      simp [cheapB, hnot]
  · have hS0 : m.shares = 0 := by omega
    have hT0 : m.stake = 0 := by omega
    have hbv : buyV m a = 1000 * a := by unfold buyV; rw [if_neg hS]
    constructor
    · rw [hbv, hS0, hT0]
      refine floor_le (by omega) ?_
      have e1 : 1000 * a * (0 + a) = 1000 * (a * a) := by rw [Int.zero_add, Int.mul_assoc]
      have e2 : (a + 1) * (0 + 1000 * a) = 1000 * (a * a) + 1000 * a := by rw [Int.zero_add, Int.add_mul, Int.one_mul, Int.mul_left_comm]
      omega
    · simp [cheapB, hS0]

theorem cheap_self (m : Mil) : cheapB m m = false := by simp [cheapB]
theorem cheap_not {x y : Mil} (h : cheapB x y = true) : cheapB y x = false := by
  simp only [cheapB, Bool.and_eq_true, decide_eq_true_eq] at h
  have : ¬ y.stake * x.shares < x.stake * y.shares := by omega
  simp [cheapB, this]
end Go.Proofs.Ytdpiepddafpceaa
