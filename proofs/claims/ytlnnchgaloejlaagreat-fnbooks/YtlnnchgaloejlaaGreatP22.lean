/-
  Texts joined: Facts5.
-/
import Derived.Test.YtlnnchgaloejlaaGreatP3
import Derived.Test.YtlnnchgaloejlaaGreatP21
namespace Go.Proofs.YtlnnchgaloejlaaGreat
open Go.ChangeShapes Go.WideShapes Go.ChangeAt Go.RowKit

theorem less_iff {p : Par} {who mill : ByteArray} : lessB p who mill = true ↔ p.who.toList < who.toList ∨ (p.who.toList = who.toList ∧ p.mill.toList < mill.toList) := by
  unfold lessB
  split
  · rename_i h
    have e : p.who.toList = who.toList := by simpa using h
    rw [bytesLess_lt, decide_eq_true_eq, e]
    constructor
    · exact fun h => .inr ⟨rfl, h⟩
    · rintro (h | ⟨_, h⟩)
      · exact absurd h (List.lt_irrefl _)
      · exact h
  · rename_i h
    have e : ¬ p.who.toList = who.toList := by simpa using h
    rw [bytesLess_lt, decide_eq_true_eq]
    constructor
    · exact fun h => .inl h
    · rintro (h | ⟨h, _⟩)
      · exact h
      · exact absurd h e
/-- p is ahead of q. -/
def KeyLt (p q : Par) : Prop := lessB p q.who q.mill = true
theorem KeyLt.trans {p q r : Par} (h : KeyLt p q) (k : KeyLt q r) : KeyLt p r := by
  unfold KeyLt at *
  rw [less_iff] at *
  rcases h with h | ⟨h, h'⟩ <;> rcases k with k | ⟨k, k'⟩
  · exact .inl (List.lt_trans h k)
  · exact .inl (k ▸ h)
  · exact .inl (h ▸ k)
  · exact .inr ⟨h.trans k, List.lt_trans h' k'⟩
theorem KeyLt.ne {p q : Par} (h : KeyLt p q) {who mill : ByteArray} (hp : isB p who mill = true) : isB q who mill = false := by
  cases hq : isB q who mill
  · rfl
  · simp only [isB, Bool.and_eq_true, beq_iff_eq] at hp hq
    unfold KeyLt at h
    rw [less_iff, hp.1, hp.2, hq.1, hq.2] at h
    rcases h with h | ⟨_, h⟩ <;> exact absurd h (List.lt_irrefl _)
theorem up_less {ps : List Par} (h : PUp ps ps.length) {j : Nat} : ∀ m (hm : j + 1 + m < ps.length), KeyLt (ps[j]'(by omega)) ps[j + 1 + m]
  | 0, hm => h.2 j hm hm
  | m + 1, hm => (up_less h m (by omega)).trans (h.2 (j + 1 + m) hm hm)
theorem up_pair {ps : List Par} : PUp ps ps.length ↔ (∀ p ∈ ps, partB p = true) ∧ ps.Pairwise KeyLt := by
  constructor
  · intro h
    refine ⟨fun p hp => ?_, ?_⟩
    · obtain ⟨k, hk, rfl⟩ := List.getElem_of_mem hp; exact h.1 k hk hk
    · rw [List.pairwise_iff_getElem]
      intro i j hi hj hij
      have := up_less h (j := i) (j - (i + 1)) (by omega)
      simpa [show i + 1 + (j - (i + 1)) = j by omega] using this
  · rintro ⟨h1, h2⟩
    rw [List.pairwise_iff_getElem] at h2
    exact ⟨fun j hj _ => h1 _ (List.getElem_mem hj), fun j hj _ => h2 j (j + 1) (by omega) hj (by omega)⟩
theorem parts_pair {ps : List Par} : partsB ps = true ↔ ps.length ≤ 20 ∧ (∀ p ∈ ps, partB p = true) ∧ ps.Pairwise KeyLt := by
  rw [← up_pair]
  exact ⟨parts_true, fun h => parts_yes h.1 h.2⟩

/-- What one adds to a mill. -/
def valM (mill : ByteArray) (p : Par) : Int := if (p.mill.toList == mill.toList) = true then p.shares else 0
theorem sumS_take {ps : List Par} {mill : ByteArray} : ∀ k, k ≤ ps.length → sumS ps mill k = ((ps.take k).map (valM mill)).sum
  | 0, _ => by simp [sumS]
  | k + 1, hk => by
    rw [sumS, sumS_take k (by omega), List.take_succ_eq_append_getElem (by omega), List.map_append, List.sum_append, patn_eq (by omega)]
    simp [valM]
theorem sumS_all (ps : List Par) (mill : ByteArray) : sumS ps mill ps.length = (ps.map (valM mill)).sum := by
  rw [sumS_take _ (Nat.le_refl _), List.take_length]

theorem sharesIn_eq {ps : List Par} (h : partsB ps = true) (mill : ByteArray) : sharesInV ps mill = (ps.map (valM mill)).sum := by
  rw [sharesInV, if_pos h, sumS_all]
theorem gaveL_sized {ps : List Par} (hs : PSized ps) {who mill : ByteArray} (hw : who.size ≤ maxLen) (hm : mill.size ≤ maxLen) (n : Int) : PSized (gaveL ps who mill n) := by
  unfold gaveL
  split
  · split
    · unfold giveAt
      split
      · exact psized_set hs _ _
      · exact psized_put hs hw hm n _
    · exact hs
  · intro k hk; simp at hk
theorem tookL_sized {ps : List Par} (hs : PSized ps) (who mill : ByteArray) (n : Int) : PSized (tookL ps who mill n) := by
  unfold tookL
  split
  · split
    · unfold takeAt
      split
      · rw [psized_mem] at hs ⊢
        intro p hp
        rcases List.mem_append.1 hp with hp | hp
        · exact hs p (List.mem_of_mem_take hp)
        · exact hs p (List.mem_of_mem_drop hp)
      · exact psized_set hs _ _
    · exact hs
  · intro k hk; simp at hk
end Go.Proofs.YtlnnchgaloejlaaGreat
