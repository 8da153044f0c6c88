/-
  Plain facts of those that wait, each with when it came: how they come out.
-/
import Derived.Test.YtkdelfadmnpkhaaHeap6
import Derived.Test.YtkdelfadmnpkhaaFacts6
namespace Go.Proofs.Ytkdelfadmnpkhaa
open Go.ChangeShapes Go.WideShapes Go.ChangeAt Go.RowKit

/-- The first k, each with its number. -/
def tagW (ps : List Wai) (k : Nat) : List Tur := (List.range k).map fun i => ⟨watn ps i, (i : Int)⟩
theorem tagW_len (ps : List Wai) (k : Nat) : (tagW ps k).length = k := by simp [tagW]
theorem tagW_at (ps : List Wai) (k i : Nat) (h : i < (tagW ps k).length) : (tagW ps k)[i] = ⟨watn ps i, (i : Int)⟩ := by simp [tagW]
theorem tagW_succ (ps : List Wai) (k : Nat) : tagW ps (k + 1) = tagW ps k ++ [⟨watn ps k, (k : Int)⟩] := by simp [tagW, List.range_succ]
theorem tagW_map (ps : List Wai) : (tagW ps ps.length).map Tur.w = ps := by
  apply List.ext_getElem
  · simp [tagW]
  · intro i h1 h2
    simp [tagW, watn_eq h2]
theorem tagW_came {ps : List Wai} {k : Nat} {t : Tur} (h : t ∈ tagW ps k) : 0 ≤ t.came ∧ t.came < k := by
  simp only [tagW, List.mem_map, List.mem_range] at h
  obtain ⟨i, hi, rfl⟩ := h
  exact ⟨by simp, by simpa using hi⟩
theorem tagW_fine (ps : List Wai) {k : Nat} (h : k ≤ 100) : Fine (tagW ps k) := fun t ht => by have := tagW_came ht; omega
theorem tagW_row {ps : List Wai} (h : waitsB ps = true) : Rowed (tagW ps ps.length) := by
  have hp := List.pairwise_iff_getElem.1 (waits_pair.1 h).2.2
  refine List.pairwise_iff_getElem.2 fun i j hi hj hij => ?_
  rw [tagW_at, tagW_at]
  rw [tagW_len] at hi hj
  have := hp i j hi hj hij
  unfold Tur.key
  simp only [watn_eq hi, watn_eq hj]
  omega
theorem low_parts : ∀ (ps : List Wai) (x : Int), ps.Pairwise (fun p q => p.ripe ≤ q.ripe) → (∀ p ∈ ps.take (lowW ps x), p.ripe ≤ x) ∧ ∀ p ∈ ps.drop (lowW ps x), x < p.ripe
  | [], _, _ => by simp
  | p :: r, x, h => by
    obtain ⟨h1, h2⟩ := List.pairwise_cons.1 h
    obtain ⟨g1, g2⟩ := low_parts r x h2
    unfold lowW
    by_cases hq : p.ripe ≤ x
    · rw [if_pos hq, List.take_succ_cons, List.drop_succ_cons]
      refine ⟨fun y hy => ?_, g2⟩
      rcases List.mem_cons.1 hy with rfl | hy
      · exact hq
      · exact g1 y hy
    · rw [if_neg hq, List.take_zero, List.drop_zero]
      refine ⟨fun y hy => by simp at hy, fun y hy => ?_⟩
      rcases List.mem_cons.1 hy with rfl | hy
      · omega
      · have := h1 y hy; omega
/-- With that one too. -/
def putT (ps : List Wai) (q : Wai) : List Tur := (tagW ps ps.length).take (lowW ps q.ripe) ++ [⟨q, (ps.length : Int)⟩] ++ (tagW ps ps.length).drop (lowW ps q.ripe)
theorem putT_map (ps : List Wai) (q : Wai) : (putT ps q).map Tur.w = putW ps q := by
  unfold putT putW
  rw [List.map_append, List.map_append, List.map_take, List.map_drop, tagW_map]; rfl
theorem putT_perm (ps : List Wai) (q : Wai) : (tagW ps ps.length ++ [(⟨q, (ps.length : Int)⟩ : Tur)]).Perm (putT ps q) := by
  unfold putT
  have e : tagW ps ps.length = (tagW ps ps.length).take (lowW ps q.ripe) ++ (tagW ps ps.length).drop (lowW ps q.ripe) := (List.take_append_drop _ _).symm
  conv => lhs; rw [e]
  rw [List.append_assoc, List.append_assoc]
  exact List.Perm.append_left _ List.perm_append_comm
theorem putT_row {ps : List Wai} (q : Wai) (h : waitsB ps = true) : Rowed (putT ps q) := by
  have hr := tagW_row h
  have h20 := (waits_pair.1 h).1
  obtain ⟨g1, g2⟩ := low_parts ps q.ripe (waits_pair.1 h).2.2
  have m1 : ∀ t ∈ (tagW ps ps.length).take (lowW ps q.ripe), t.w.ripe ≤ q.ripe ∧ t.came < ps.length := by
    intro t ht
    refine ⟨g1 _ ?_, (tagW_came (List.mem_of_mem_take ht)).2⟩
    have := List.mem_map_of_mem (f := Tur.w) ht
    rwa [List.map_take, tagW_map] at this
  have m2 : ∀ t ∈ (tagW ps ps.length).drop (lowW ps q.ripe), q.ripe < t.w.ripe ∧ 0 ≤ t.came := by
    intro t ht
    refine ⟨g2 _ ?_, (tagW_came (List.mem_of_mem_drop ht)).1⟩
    have := List.mem_map_of_mem (f := Tur.w) ht
    rwa [List.map_drop, tagW_map] at this
  have hr' := hr
  unfold Rowed at hr'
  rw [← List.take_append_drop (lowW ps q.ripe) (tagW ps ps.length), List.pairwise_append] at hr'
  obtain ⟨r1, r2, r3⟩ := hr'
  unfold Rowed putT
  rw [List.pairwise_append, List.pairwise_append]
  refine ⟨⟨r1, List.pairwise_singleton _ _, fun a ha b hb => ?_⟩, r2, fun a ha b hb => ?_⟩
  · rw [List.mem_singleton] at hb
    subst hb
    have := m1 a ha
    unfold Tur.key; simp only; omega
  · rcases List.mem_append.1 ha with ha | ha
    · exact r3 a ha b hb
    · rw [List.mem_singleton] at ha
      subst ha
      have := m2 b hb
      unfold Tur.key; simp only; omega
theorem put_waits {ps : List Wai} {q : Wai} (h : waitsB ps = true) (hq : waitB q = true) (hl : ps.length < 20) : waitsB (putW ps q) = true := by
  obtain ⟨h1, h2, h3⟩ := waits_pair.1 h
  obtain ⟨g1, g2⟩ := low_parts ps q.ripe h3
  refine waits_pair.2 ⟨by have := putW_le ps q; omega, fun p hp => ?_, ?_⟩
  · unfold putW at hp
    rcases List.mem_append.1 hp with hp | hp
    · rcases List.mem_append.1 hp with hp | hp
      · exact h2 p (List.mem_of_mem_take hp)
      · rw [List.mem_singleton] at hp; subst hp; exact hq
    · exact h2 p (List.mem_of_mem_drop hp)
  · rw [← List.take_append_drop (lowW ps q.ripe) ps, List.pairwise_append] at h3
    obtain ⟨r1, r2, r3⟩ := h3
    unfold putW
    rw [List.pairwise_append, List.pairwise_append]
    refine ⟨⟨r1, List.pairwise_singleton _ _, fun a ha b hb => ?_⟩, r2, fun a ha b hb => ?_⟩
    · rw [List.mem_singleton] at hb; subst hb; exact g1 a ha
    · rcases List.mem_append.1 ha with ha | ha
      · exact r3 a ha b hb
      · rw [List.mem_singleton] at ha; subst ha
        have := g2 b hb; omega
theorem put_not {ps : List Wai} {q : Wai} (h : waitB q = false ∨ ¬ ps.length < 20) : waitsB (putW ps q) = false := by
  cases hw : waitsB (putW ps q)
  · rfl
  · obtain ⟨h1, h2, -⟩ := waits_pair.1 hw
    rcases h with h | h
    · have := h2 q (by simp [putW])
      rw [h] at this; cases this
    · have e : (putW ps q).length = ps.length + 1 := by
        have := lowW_le ps q.ripe
        unfold putW; simp; omega
      omega
/-- Where they stop: all ahead are ripe by then, the next one is not. -/
def Stops (ss : List Tur) (season : Int) (k : Nat) : Prop := k ≤ ss.length ∧ (∀ j (h : j < ss.length), j < k → ss[j].w.ripe ≤ season) ∧ ∀ h : k < ss.length, season < ss[k].w.ripe
theorem stops_all {ss : List Tur} {season : Int} {k : Nat} (h : Stops ss season k) (ha : ∀ t ∈ ss, t.w.ripe ≤ season) : k = ss.length := by
  rcases Nat.lt_or_ge k ss.length with hk | hk
  · have h1 := h.2.2 hk
    have h2 := ha _ (List.getElem_mem hk)
    omega
  · have := h.1; omega
theorem stops_parts {ps : List Wai} {season : Int} {k : Nat} (hw : waitsB ps = true) (h : Stops (tagW ps ps.length) season k) : ripeV ps season = ps.take k ∧ laterV ps season = ps.drop k := by
  have hk := h.1
  rw [tagW_len] at hk
  have hp := List.pairwise_iff_getElem.1 (waits_pair.1 hw).2.2
  have m1 : ∀ p ∈ ps.take k, p.ripe ≤ season := by
    intro p hp'
    obtain ⟨j, hj, rfl⟩ := List.getElem_of_mem hp'
    rw [List.length_take] at hj
    have := h.2.1 j (by rw [tagW_len]; omega) (by omega)
    rw [tagW_at] at this
    simp only [watn_eq (show j < ps.length by omega)] at this
    rw [List.getElem_take]; exact this
  have m2 : ∀ p ∈ ps.drop k, season < p.ripe := by
    intro p hp'
    obtain ⟨j, hj, rfl⟩ := List.getElem_of_mem hp'
    rw [List.length_drop] at hj
    have h1 := h.2.2 (by rw [tagW_len]; omega)
    rw [tagW_at] at h1
    simp only [watn_eq (show k < ps.length by omega)] at h1
    rw [List.getElem_drop]
    by_cases e : j = 0
    · subst e; simpa using h1
    · have := hp k (k + j) (by omega) (by omega) (by omega)
      omega
  rw [ripeV, laterV, if_pos hw, if_pos hw]
  unfold ripeOf laterOf
  constructor
  · conv => lhs; rw [← List.take_append_drop k ps]
    rw [List.filter_append, List.filter_eq_self.2 (fun p hp => by have := m1 p hp; simp; omega), List.filter_eq_nil_iff.2 (fun p hp => by have := m2 p hp; simp; omega), List.append_nil]
  · conv => lhs; rw [← List.take_append_drop k ps]
    rw [List.filter_append, List.filter_eq_nil_iff.2 (fun p hp => by have := m1 p hp; simp; omega), List.filter_eq_self.2 (fun p hp => by have := m2 p hp; simp; omega), List.nil_append]
theorem wait_ripe {ps : List Wai} (h : waitsB ps = true) : ∀ p ∈ ps, p.ripe ≤ 1000 := fun p hp => (wait_bd ((waits_pair.1 h).2.1 p hp)).2.2
end Go.Proofs.Ytkdelfadmnpkhaa
