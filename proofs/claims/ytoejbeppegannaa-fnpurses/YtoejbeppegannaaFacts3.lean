/-
  Plain facts on purses: who is paid or spends; what all have together.
-/
import Derived.Test.YtoejbeppegannaaPay
namespace Go.Proofs.Ytoejbeppegannaa
open Go.ChangeShapes Go.WideShapes Go.ChangeAt Go.RowKit

theorem setFree_names : ∀ (ps : List Pur) (k : Nat) (v : Int), pnames (setFree ps k v) = pnames ps
  | [], _, _ => rfl
  | p :: r, 0, v => rfl
  | p :: r, k + 1, v => by simpa [setFree, pnames] using setFree_names r k v
theorem setFree_free : ∀ (ps : List Pur) (k : Nat) (v : Int) (j : Nat), j < ps.length → pfree (setFree ps k v) j = if j = k then v else pfree ps j
  | p :: r, 0, v, 0, _ => rfl
  | p :: r, 0, v, j + 1, _ => by simp [setFree, pfree]
  | p :: r, k + 1, v, 0, _ => by simp [setFree, pfree]
  | p :: r, k + 1, v, j + 1, h => by
    have := setFree_free r k v j (by simpa using h)
    simpa [setFree, pfree] using this
theorem setFree_twice : ∀ (ps : List Pur) (k : Nat) (v u : Int), setFree (setFree ps k v) k u = setFree ps k u
  | [], _, _, _ => rfl
  | p :: r, 0, v, u => rfl
  | p :: r, k + 1, v, u => by simp [setFree, setFree_twice r k v u]
theorem setFree_self : ∀ (ps : List Pur) (k : Nat) (_ : k < ps.length), setFree ps k (pfree ps k) = ps
  | p :: r, 0, _ => rfl
  | p :: r, k + 1, h => by
    have := setFree_self r k (by simpa using h)
    simp only [setFree]
    congr 1
theorem setFree_sum {ps : List Pur} {k : Nat} {v : Int} (hk : k < ps.length) : ∀ m, m ≤ ps.length → sumP (setFree ps k v) m = sumP ps m + if k < m then v - pfree ps k else 0
  | 0, _ => by simp [sumP]
  | m + 1, hm => by
    have h1 := setFree_sum (v := v) hk m (by omega)
    have h2 := setFree_free ps k v m (by omega)
    simp only [sumP, h1, h2]
    by_cases e : m = k
    · subst e; simp; omega
    · rw [if_neg e]
      by_cases hlt : k < m
      · rw [if_pos hlt, if_pos (by omega)]; omega
      · rw [if_neg hlt, if_neg (by omega)]; omega
theorem setFree_folk {ps : List Pur} {k : Nat} {v : Int} (h : folkB ps = true) (hv : inB 0 1000000 v = true) : folkB (setFree ps k v) = true := by
  obtain ⟨h8, hm, hr⟩ := folk_true h
  refine folk_yes (by rw [setFree_length]; exact h8) ?_ (by rw [setFree_names]; exact hr)
  intro j hj _
  rw [setFree_length] at hj
  have h2 := setFree_free ps k v j hj
  rw [pfree_eq (by rw [setFree_length]; exact hj)] at h2
  rw [h2]
  split
  · exact hv
  · rw [pfree_eq hj]; exact hm j hj hj

theorem pay_parts {ps : List Pur} {s : ByteArray} {n d : Int} (h : payB ps s n d = true) : ∃ k : Nat, placeV (pnames ps) s = k ∧ k < ps.length ∧ folkB ps = true ∧ inB 0 1000000 n = true ∧ inB 0 1000000 (pfree ps k + d) = true ∧
    payL ps s n d = setFree ps k (pfree ps k + d) := by
  have h0 := h
  simp only [payB, Bool.and_eq_true, decide_eq_true_eq] at h
  obtain ⟨h1, h2, h3, h4⟩ := h
  obtain ⟨k, e, hk, -⟩ := place_hit h2
  rw [len_pn] at hk
  rw [e] at h4
  exact ⟨k, e, hk, h1, h3, h4, by rw [payL, if_pos h1, if_pos h0, e]; rfl⟩

/-- What was paid or spent: all together have so much more, that one has so much more. -/
theorem pay_in {ps : List Pur} {s : ByteArray} {n d : Int} (h : payB ps s n d = true) : freeInV (payL ps s n d) = freeInV ps + d ∧ freeOfV (payL ps s n d) s = freeOfV ps s + d ∧ folkB (payL ps s n d) = true := by
  obtain ⟨k, e, hk, hf, hn, hv, hp⟩ := pay_parts h
  have hf' := setFree_folk (k := k) hf hv
  rw [hp]
  refine ⟨?_, ?_, hf'⟩
  · simp only [freeInV, hf, hf', if_true]
    rw [setFree_length, setFree_sum hk _ (Nat.le_refl _), if_pos hk]; omega
  · have e' : placeV (pnames (setFree ps k (pfree ps k + d))) s = k := by rw [setFree_names]; exact e
    rw [freeOf_in hf e hk, freeOf_in hf' e' (by rw [setFree_length]; exact hk), ← pfree_eq hk, ← pfree_eq (ps := setFree ps k (pfree ps k + d)) (by rw [setFree_length]; exact hk), setFree_free ps k _ k hk, if_pos rfl]
/-- What was paid can be spent. -/
theorem pay_back {ps : List Pur} {s : ByteArray} {n : Int} (h : payB ps s n n = true) : payB (payL ps s n n) s n (-n) = true ∧ payL (payL ps s n n) s n (-n) = ps := by
  obtain ⟨k, e, hk, hf, hn, hv, hp⟩ := pay_parts h
  have hf' := setFree_folk (k := k) hf hv
  have e' : placeV (pnames (setFree ps k (pfree ps k + n))) s = k := by rw [setFree_names]; exact e
  have hk' : k < (setFree ps k (pfree ps k + n)).length := by rw [setFree_length]; exact hk
  have hfr : (setFree ps k (pfree ps k + n))[k].free = pfree ps k + n := by rw [← pfree_eq hk', setFree_free ps k _ k hk, if_pos rfl]
  have hb : inB 0 1000000 ((setFree ps k (pfree ps k + n))[k].free + -n) = true := by
    rw [hfr, show pfree ps k + n + -n = pfree ps k by omega, pfree_eq hk]
    exact (folk_true hf).2.1 k hk hk
  rw [hp]
  obtain ⟨h1, h2⟩ := pay_yes hf' e' hk' hn hb
  refine ⟨h1, h2.trans ?_⟩
  rw [hfr, setFree_twice, show pfree ps k + n + -n = pfree ps k by omega]
  exact setFree_self ps k hk
theorem pay_n_bd {ps : List Pur} {s : ByteArray} {n d : Int} (h : payB ps s n d = true) : 0 ≤ n ∧ n ≤ 1000000 ∧ 0 ≤ freeInV ps ∧ freeInV ps ≤ 8000000 ∧ 0 ≤ freeOfV ps s ∧ freeOfV ps s ≤ 1000000 := by
  obtain ⟨k, e, hk, hf, hn, hv, hp⟩ := pay_parts h
  have h1 := inB_bd hn
  obtain ⟨h8, hm, -⟩ := folk_true hf
  have h2 := sumP_bd hm ps.length (Nat.le_refl _)
  have h3 := inB_bd (hm k hk hk)
  rw [freeOf_in hf e hk]
  simp only [freeInV, hf, if_true]
  omega
theorem pay_short {ps : List Pur} {s : ByteArray} {n d : Int} (h : Sized (pnames ps)) : Sized (pnames (payL ps s n d)) := by
  unfold payL
  split
  · split
    · rw [setFree_names]; exact h
    · exact h
  · intro k; simp [pnames, sat]
end Go.Proofs.Ytoejbeppegannaa
