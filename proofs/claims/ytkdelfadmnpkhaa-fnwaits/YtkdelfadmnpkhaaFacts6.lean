/-
  Plain facts on what waits: nothing is lost, and what is fined is less.
-/
import Derived.Test.YtkdelfadmnpkhaaWaitF
namespace Go.Proofs.Ytkdelfadmnpkhaa
open Go.ChangeShapes Go.WideShapes Go.ChangeAt Go.RowKit

theorem wup_le {ps : List Wai} (h : WUp ps ps.length) {j : Nat} : ∀ m (hm : j + 1 + m < ps.length), (ps[j]'(by omega)).ripe ≤ ps[j + 1 + m].ripe
  | 0, hm => h.2 j hm hm
  | m + 1, hm => Int.le_trans (wup_le h m (by omega)) (h.2 (j + 1 + m) hm hm)
theorem wup_pair {ps : List Wai} : WUp ps ps.length ↔ (∀ p ∈ ps, waitB p = true) ∧ ps.Pairwise (fun p q => p.ripe ≤ q.ripe) := by
  constructor
  · intro h
    refine ⟨fun p hp => ?_, ?_⟩
    · obtain ⟨k, hk, rfl⟩ := List.getElem_of_mem hp; exact h.1 k hk hk
    · rw [List.pairwise_iff_getElem]
      intro i j hi hj hij
      have := wup_le h (j := i) (j - (i + 1)) (by omega)
      simpa [show i + 1 + (j - (i + 1)) = j by omega] using this
  · rintro ⟨h1, h2⟩
    rw [List.pairwise_iff_getElem] at h2
    exact ⟨fun j hj _ => h1 _ (List.getElem_mem hj), fun j hj _ => h2 j (j + 1) (by omega) hj (by omega)⟩
theorem waits_pair {ps : List Wai} : waitsB ps = true ↔ ps.length ≤ 20 ∧ (∀ p ∈ ps, waitB p = true) ∧ ps.Pairwise (fun p q => p.ripe ≤ q.ripe) := by
  rw [← wup_pair]
  exact ⟨waits_true, fun h => waits_yes h.1 h.2⟩
theorem sumA_take {ps : List Wai} : ∀ k, k ≤ ps.length → sumA ps k = ((ps.take k).map Wai.amount).sum
  | 0, _ => by simp [sumA]
  | k + 1, hk => by
    rw [sumA, sumA_take k (by omega), List.take_succ_eq_append_getElem (by omega), List.map_append, List.sum_append, watn_eq (by omega)]
    simp
theorem amount_eq {ps : List Wai} (h : waitsB ps = true) : amountInV ps = (ps.map Wai.amount).sum := by
  rw [amountInV, if_pos h, sumA_take _ (Nat.le_refl _), List.take_length]
theorem amount_bd {ps : List Wai} (h : waitsB ps = true) : 0 ≤ amountInV ps ∧ amountInV ps ≤ 20000000 := by
  have h1 := waits_true h
  have h2 := sumA_bd h1.2 ps.length (Nat.le_refl _)
  rw [amountInV, if_pos h]
  omega

/-- One more waits: nothing else turns. -/
theorem waiting_more {ps : List Wai} {q : Wai} (h : waitingB ps q = true) :
    waitsB (waitingL ps q) = true ∧ (waitingL ps q).length = ps.length + 1 ∧ amountInV (waitingL ps q) = amountInV ps + q.amount := by
  have h0 := h
  simp only [waitingB, Bool.and_eq_true] at h
  obtain ⟨hf, hx⟩ := h
  have hL : waitingL ps q = putW ps q := by rw [waitingL, if_pos hf, if_pos h0]
  have hle := lowW_le ps q.ripe
  rw [hL]
  refine ⟨hx, by unfold putW; simp; omega, ?_⟩
  rw [amount_eq hx, amount_eq hf, putW]
  generalize lowW ps q.ripe = k
  conv => rhs; rw [← List.take_append_drop k ps]
  simp only [List.map_append, List.sum_append, List.map_cons, List.map_nil, List.sum_cons, List.sum_nil]
  omega

theorem part_sum (season : Int) : ∀ (ps : List Wai), ((laterOf season ps).map Wai.amount).sum + ((ripeOf season ps).map Wai.amount).sum = (ps.map Wai.amount).sum ∧ (laterOf season ps).length + (ripeOf season ps).length = ps.length
  | [] => by simp [laterOf, ripeOf]
  | p :: r => by
    have ih := part_sum season r
    unfold laterOf ripeOf at ih ⊢
    by_cases h : season < p.ripe
    · simp only [List.filter_cons, h, decide_true, Bool.not_true, if_true, Bool.false_eq_true, if_false, List.map_cons, List.sum_cons, List.length_cons]
      omega
    · simp only [List.filter_cons, h, decide_false, Bool.not_false, if_true, Bool.false_eq_true, if_false, List.map_cons, List.sum_cons, List.length_cons]
      omega
theorem sub_waits {ps qs : List Wai} (h : waitsB ps = true) (hs : qs.Sublist ps) : waitsB qs = true := by
  obtain ⟨h1, h2, h3⟩ := waits_pair.1 h
  exact waits_pair.2 ⟨Nat.le_trans hs.length_le h1, fun p hp => h2 p (hs.subset hp), h3.sublist hs⟩
/-- Nothing is lost. -/
theorem ripe_all {ps : List Wai} (h : waitsB ps = true) (season : Int) : waitsB (laterV ps season) = true ∧ waitsB (ripeV ps season) = true ∧ amountInV (laterV ps season) + amountInV (ripeV ps season) = amountInV ps ∧ (laterV ps season).length + (ripeV ps season).length = ps.length := by
  have e1 : laterV ps season = laterOf season ps := by rw [laterV, if_pos h]
  have e2 : ripeV ps season = ripeOf season ps := by rw [ripeV, if_pos h]
  have s1 : waitsB (laterOf season ps) = true := sub_waits h List.filter_sublist
  have s2 : waitsB (ripeOf season ps) = true := sub_waits h List.filter_sublist
  rw [e1, e2, amount_eq s1, amount_eq s2, amount_eq h]
  exact ⟨s1, s2, part_sum season ps⟩
theorem ripe_take (season : Int) : ∀ (ps : List Wai), ps.Pairwise (fun p q => p.ripe ≤ q.ripe) → ripeOf season ps = ps.take (ripeOf season ps).length
  | [], _ => by simp [ripeOf]
  | p :: r, h => by
    rw [List.pairwise_cons] at h
    by_cases hq : season < p.ripe
    · have hn : ripeOf season (p :: r) = [] := by
        unfold ripeOf
        rw [List.filter_eq_nil_iff]
        intro q hq2
        rcases List.mem_cons.1 hq2 with rfl | hm
        · simpa using hq
        · have := h.1 q hm
          simp; omega
      rw [hn]; simp
    · have ih := ripe_take season r h.2
      have he : ripeOf season (p :: r) = p :: ripeOf season r := by unfold ripeOf; simp [hq]
      rw [he, List.length_cons, List.take_succ_cons, ← ih]
/-- Ripe are the first ones, and none later. -/
theorem ripe_first (ps : List Wai) (season : Int) : ripeV ps season = ps.take (ripeV ps season).length ∧ ∀ i (h : i < (ripeV ps season).length), (ripeV ps season)[i].ripe ≤ season := by
  cases hf : waitsB ps
  · have e : ripeV ps season = [] := by simp [ripeV, hf]
    rw [e]; simp
  · have e : ripeV ps season = ripeOf season ps := by rw [ripeV, if_pos hf]
    rw [e]
    refine ⟨ripe_take season ps (waits_pair.1 hf).2.2, fun i h => ?_⟩
    have hm := List.getElem_mem h
    generalize (ripeOf season ps)[i] = q at hm ⊢
    unfold ripeOf at hm
    rw [List.mem_filter] at hm
    have := hm.2
    simp at this; omega

/-- What waits of that mill. -/
def mineW (mill : ByteArray) (p : Wai) : Int := if (p.mill.toList == mill.toList) = true then p.amount else 0
def mineOf (mill : ByteArray) (ps : List Wai) : Int := (ps.map (mineW mill)).sum
theorem mine_next {ps : List Wai} {mill : ByteArray} {k : Nat} (h : k < ps.length) : mineOf mill (ps.take (k + 1)) = mineOf mill (ps.take k) + mineW mill ps[k] := by
  unfold mineOf
  rw [List.take_succ_eq_append_getElem h, List.map_append, List.sum_append]
  simp
theorem mine_bd {ps : List Wai} (h : WUp ps ps.length) (mill : ByteArray) : ∀ k, k ≤ ps.length → 0 ≤ mineOf mill (ps.take k) ∧ mineOf mill (ps.take k) ≤ 1000000 * k
  | 0, _ => by simp [mineOf]
  | k + 1, hk => by
    have h1 := mine_bd h mill k (by omega)
    have h2 := wait_bd (h.1 k (by omega) (by omega))
    rw [mine_next (by omega)]
    unfold mineW
    split <;> omega
theorem fine_sum {mill : ByteArray} {pc : Int} (hp : inB 0 100 pc = true) : ∀ (ps : List Wai), (∀ p ∈ ps, waitB p = true) → ((finOf mill pc ps).map Wai.amount).sum + finSum mill pc ps = (ps.map Wai.amount).sum ∧ 100 * finSum mill pc ps ≤ pc * mineOf mill ps ∧ (pc = 0 → finSum mill pc ps = 0)
  | [], _ => by simp [finOf, finSum, mineOf]
  | p :: r, h => by
    obtain ⟨i1, i2, i3⟩ := fine_sum (mill := mill) hp r (fun q hq => h q (List.mem_cons_of_mem _ hq))
    have hw := h p (by simp)
    have hb := wait_bd hw
    have hc := cut_bd (mill := mill) hw hp
    have hpb := inB_true hp
    have hs : finSum mill pc (p :: r) = cutW mill pc p + finSum mill pc r := by simp [finSum]
    have hm : mineOf mill (p :: r) = mineW mill p + mineOf mill r := by simp [mineOf]
    have hcut : 100 * cutW mill pc p ≤ pc * mineW mill p ∧ (pc = 0 → cutW mill pc p = 0) := by
      unfold cutW mineW
      split
      · rw [partV, if_pos (by rw [hp, inB_of (by omega) (by omega)]; rfl)]
        constructor
        · rw [Int.mul_comm pc]
          have := Int.mul_ediv_self_le (x := p.amount * pc) (k := 100) (by omega)
          omega
        · rintro rfl; simp
      · simp
    refine ⟨?_, ?_, ?_⟩
    · rw [hs]
      by_cases hz : 0 < (fineW mill pc p).amount
      · have e : finOf mill pc (p :: r) = fineW mill pc p :: finOf mill pc r := by unfold finOf; simp [hz]
        rw [e]
        simp only [List.map_cons, List.sum_cons]
        have : (fineW mill pc p).amount = p.amount - cutW mill pc p := rfl
        omega
      · have e : finOf mill pc (p :: r) = finOf mill pc r := by unfold finOf; simp [hz]
        rw [e]
        simp only [List.map_cons, List.sum_cons]
        have : (fineW mill pc p).amount = p.amount - cutW mill pc p := rfl
        omega
    · rw [hs, hm, Int.mul_add, Int.mul_add]
      have := hcut.1
      omega
    · intro hp0
      rw [hs, hcut.2 hp0, i3 hp0]; simp
/-- What is fined is less, by no more than the percent. -/
theorem fined_less {ps : List Wai} {mill : ByteArray} {pc : Int} (h : finedB ps pc = true) :
    waitsB (finedL ps mill pc) = true ∧ amountInV (finedL ps mill pc) + finedN ps mill pc = amountInV ps ∧ 100 * finedN ps mill pc ≤ pc * mineOf mill ps ∧ (pc = 0 → finedN ps mill pc = 0) ∧ 0 ≤ finedN ps mill pc := by
  have h0 := h
  simp only [finedB, Bool.and_eq_true] at h
  obtain ⟨hf, hp⟩ := h
  have e1 : finedL ps mill pc = finOf mill pc ps := by rw [finedL, if_pos h0]
  have e2 : finedN ps mill pc = finSum mill pc ps := by rw [finedN, if_pos h0]
  obtain ⟨w1, w2, w3⟩ := waits_pair.1 hf
  have hx : waitsB (finOf mill pc ps) = true := by
    refine waits_pair.2 ⟨Nat.le_trans (finOf_le mill pc ps) w1, fun q hq => ?_, ?_⟩
    · unfold finOf at hq
      rw [List.mem_filter, List.mem_map] at hq
      obtain ⟨⟨p, hpm, rfl⟩, hpos⟩ := hq
      have hw := w2 p hpm
      have hc := cut_bd (mill := mill) hw hp
      have hb := wait_bd hw
      have hpos' : 0 < p.amount - cutW mill pc p := by simpa [fineW] using hpos
      simp only [waitB, Bool.and_eq_true] at hw ⊢
      exact ⟨hw.1, hw.2.1, inB_of (by show 1 ≤ p.amount - cutW mill pc p; omega) (by show p.amount - cutW mill pc p ≤ 1000000; omega), hw.2.2.2⟩
    · unfold finOf
      refine List.Pairwise.filter _ ?_
      rw [List.pairwise_map]
      exact w3
  obtain ⟨s1, s2, s3⟩ := fine_sum (mill := mill) hp ps w2
  have hb := fin_bd (mill := mill) (waits_true hf).2 hp ps.length (Nat.le_refl _)
  rw [List.take_length] at hb
  rw [e1, e2, amount_eq hx, amount_eq hf]
  exact ⟨hx, s1, s2, s3, hb.1⟩
theorem fined_not {ps : List Wai} {mill : ByteArray} {pc : Int} (h : finedB ps pc = false) : finedN ps mill pc = -1 ∧ finedL ps mill pc = [] := by
  rw [finedN, finedL, if_neg (by rw [h]; decide), if_neg (by rw [h]; decide)]
  exact ⟨rfl, rfl⟩
end Go.Proofs.Ytkdelfadmnpkhaa
