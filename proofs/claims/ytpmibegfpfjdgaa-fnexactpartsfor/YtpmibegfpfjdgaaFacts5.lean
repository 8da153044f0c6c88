/-
  Plain facts on parts: what one gave can be took again; what a mill has together.
-/
import Derived.Test.YtpmibegfpfjdgaaPartG
import Derived.Test.YtpmibegfpfjdgaaOrder
namespace Go.Proofs.Ytpmibegfpfjdgaa
open Go.ChangeShapes Go.WideShapes Go.ChangeAt Go.RowKit

theorem less_iff {p : Par} {who mill : ByteArray} : lessB p who mill = true ↔ p.who.toList < who.toList ∨ (p.who.toList = who.toList ∧ p.mill.toList < mill.toList) := by
  unfold lessB
  split
  · rename_i h
    have e : p.who.toList = who.toList := by simpa using h
    rw [bytesLess_lt, decide_eq_true_eq, e]
    constructor
    · exact fun h => .inr ⟨rfl, h⟩
    · rintro (h | ⟨_, h⟩)
      · exact absurd h (List.lt_irrefl _)
      · exact h
  · rename_i h
    have e : ¬ p.who.toList = who.toList := by simpa using h
    rw [bytesLess_lt, decide_eq_true_eq]
    constructor
    · exact fun h => .inl h
    · rintro (h | ⟨h, _⟩)
      · exact h
      · exact absurd h e
/-- p is ahead of q. -/
def KeyLt (p q : Par) : Prop := lessB p q.who q.mill = true
theorem KeyLt.trans {p q r : Par} (h : KeyLt p q) (k : KeyLt q r) : KeyLt p r := by
  unfold KeyLt at *
  rw [less_iff] at *
  rcases h with h | ⟨h, h'⟩ <;> rcases k with k | ⟨k, k'⟩
  · exact .inl (List.lt_trans h k)
  · exact .inl (k ▸ h)
  · exact .inl (h ▸ k)
  · exact .inr ⟨h.trans k, List.lt_trans h' k'⟩
theorem KeyLt.ne {p q : Par} (h : KeyLt p q) {who mill : ByteArray} (hp : isB p who mill = true) : isB q who mill = false := by
  cases hq : isB q who mill
  · rfl
  · simp only [isB, Bool.and_eq_true, beq_iff_eq] at hp hq
    unfold KeyLt at h
    rw [less_iff, hp.1, hp.2, hq.1, hq.2] at h
    rcases h with h | ⟨_, h⟩ <;> exact absurd h (List.lt_irrefl _)
theorem up_less {ps : List Par} (h : PUp ps ps.length) {j : Nat} : ∀ m (hm : j + 1 + m < ps.length), KeyLt (ps[j]'(by omega)) ps[j + 1 + m]
  | 0, hm => h.2 j hm hm
  | m + 1, hm => (up_less h m (by omega)).trans (h.2 (j + 1 + m) hm hm)
theorem up_pair {ps : List Par} : PUp ps ps.length ↔ (∀ p ∈ ps, partB p = true) ∧ ps.Pairwise KeyLt := by
  constructor
  · intro h
    refine ⟨fun p hp => ?_, ?_⟩
    · obtain ⟨k, hk, rfl⟩ := List.getElem_of_mem hp; exact h.1 k hk hk
    · rw [List.pairwise_iff_getElem]
      intro i j hi hj hij
      have := up_less h (j := i) (j - (i + 1)) (by omega)
      simpa [show i + 1 + (j - (i + 1)) = j by omega] using this
  · rintro ⟨h1, h2⟩
    rw [List.pairwise_iff_getElem] at h2
    exact ⟨fun j hj _ => h1 _ (List.getElem_mem hj), fun j hj _ => h2 j (j + 1) (by omega) hj (by omega)⟩
theorem parts_pair {ps : List Par} : partsB ps = true ↔ ps.length ≤ 20 ∧ (∀ p ∈ ps, partB p = true) ∧ ps.Pairwise KeyLt := by
  rw [← up_pair]
  exact ⟨parts_true, fun h => parts_yes h.1 h.2⟩

theorem pfind_at {ps : List Par} (h : ps.Pairwise KeyLt) {k : Nat} (hk : k < ps.length) {who mill : ByteArray} (hq : isB ps[k] who mill = true) : pfindV ps who mill = k := by
  refine findUp_at hk (fun j hj => ?_) (by rw [patn_eq hk]; exact hq)
  rw [List.pairwise_iff_getElem] at h
  have := h j k (by omega) hk hj
  rw [patn_eq (by omega)]
  cases e : isB ps[j] who mill
  · rfl
  · rw [this.ne e] at hq; cases hq
theorem pfind_none {ps : List Par} {who mill : ByteArray} (h : ∀ p ∈ ps, isB p who mill = false) : pfindV ps who mill = -1 :=
  findUp_out fun j hj => by rw [patn_eq hj]; exact h _ (List.getElem_mem hj)
theorem pfind_neg {ps : List Par} {who mill : ByteArray} (h : ¬ 0 ≤ pfindV ps who mill) : ∀ p ∈ ps, isB p who mill = false := by
  intro p hp
  obtain ⟨k, hk, rfl⟩ := List.getElem_of_mem hp
  cases hq : isB ps[k] who mill
  · rfl
  · exfalso
    -- the first of which it holds
    have : ∀ m, (∀ j, j < m → ∀ hj : j < ps.length, isB ps[j] who mill = false) ∨ 0 ≤ pfindV ps who mill := by
      intro m
      induction m with
      | zero => exact .inl fun _ h => by omega
      | succ m ih =>
        rcases ih with ih | ih
        · by_cases hm : m < ps.length
          · cases e : isB ps[m] who mill
            · refine .inl fun j hj hl => ?_
              by_cases ej : j = m
              · subst ej; exact e
              · exact ih j (by omega) hl
            · right
              have : pfindV ps who mill = m := findUp_at hm (fun j hj => by rw [patn_eq (by omega)]; exact ih j hj (by omega)) (by rw [patn_eq hm]; exact e)
              omega
          · exact .inl fun j hj hl => ih j (by omega) hl
        · exact .inr ih
    rcases this (k + 1) with h1 | h1
    · rw [h1 k (by omega) hk] at hq; cases hq
    · exact h h1

theorem setSh_set : ∀ (ps : List Par) (k : Nat) (v : Int), setSh ps k v = ps.set k ⟨(patn ps k).who, (patn ps k).mill, v⟩
  | [], _, _ => rfl
  | p :: r, 0, v => by simp [setSh, patn]
  | p :: r, k + 1, v => by
    have := setSh_set r k v
    simp only [setSh, this, List.set_cons_succ, patn, List.getD_cons_succ]
theorem setSh_twice : ∀ (ps : List Par) (k : Nat) (v u : Int), setSh (setSh ps k v) k u = setSh ps k u
  | [], _, _, _ => rfl
  | p :: r, 0, v, u => rfl
  | p :: r, k + 1, v, u => by simp [setSh, setSh_twice r k v u]
theorem setSh_self : ∀ (ps : List Par) (k : Nat) (hk : k < ps.length), setSh ps k ps[k].shares = ps
  | p :: r, 0, _ => rfl
  | p :: r, k + 1, h => by
    have := setSh_self r k (by simpa using h)
    simp only [setSh, List.getElem_cons_succ]
    rw [this]
theorem patn_set {ps : List Par} {k : Nat} {v : Int} (j : Nat) (hj : j < ps.length) : patn (setSh ps k v) j = ⟨ps[j].who, ps[j].mill, if j = k then v else ps[j].shares⟩ := by
  have hl : j < (setSh ps k v).length := by rw [setSh_length]; exact hj
  obtain ⟨e1, e2, e3⟩ := setSh_at ps k v j hl
  rw [patn_eq hj] at e1 e2 e3
  rw [patn_eq hl]
  cases h : (setSh ps k v)[j]
  rw [h] at e1 e2 e3
  simp only at e1 e2 e3
  rw [e1, e2, e3]
theorem pfind_set {ps : List Par} {k : Nat} {v : Int} (who mill : ByteArray) : pfindV (setSh ps k v) who mill = pfindV ps who mill := by
  unfold pfindV
  rw [setSh_length]
  refine findUp_congr fun j hj => ?_
  rw [patn_set j hj, patn_eq hj]; rfl
theorem parts_set {ps : List Par} (h : partsB ps = true) {k : Nat} {v : Int} (hv : inB 1 1000000000 v = true) : partsB (setSh ps k v) = true := by
  obtain ⟨h1, h2⟩ := parts_true h
  have at' : ∀ j (hj : j < (setSh ps k v).length), (setSh ps k v)[j] = ⟨(ps[j]'(by rw [setSh_length] at hj; exact hj)).who, (ps[j]'(by rw [setSh_length] at hj; exact hj)).mill, if j = k then v else (ps[j]'(by rw [setSh_length] at hj; exact hj)).shares⟩ := by
    intro j hj
    rw [← patn_eq hj, patn_set j (by rw [setSh_length] at hj; exact hj)]
  refine parts_yes (by rw [setSh_length]; exact h1) ⟨fun j hj _ => ?_, fun j hj _ => ?_⟩
  · have hj' : j < ps.length := by rw [setSh_length] at hj; exact hj
    have := h2.1 j hj' hj'
    rw [at' j hj]
    simp only [partB, Bool.and_eq_true] at this ⊢
    refine ⟨this.1, this.2.1, ?_⟩
    split
    · exact hv
    · exact this.2.2
  · have hj' : j + 1 < ps.length := by rw [setSh_length] at hj; exact hj
    rw [at' j (by omega), at' (j + 1) hj]
    exact h2.2 j hj' hj'

/-- What one adds to a mill. -/
def valM (mill : ByteArray) (p : Par) : Int := if (p.mill.toList == mill.toList) = true then p.shares else 0
theorem sumS_take {ps : List Par} {mill : ByteArray} : ∀ k, k ≤ ps.length → sumS ps mill k = ((ps.take k).map (valM mill)).sum
  | 0, _ => by simp [sumS]
  | k + 1, hk => by
    rw [sumS, sumS_take k (by omega), List.take_succ_eq_append_getElem (by omega), List.map_append, List.sum_append, patn_eq (by omega)]
    simp [valM]
theorem sumS_all (ps : List Par) (mill : ByteArray) : sumS ps mill ps.length = (ps.map (valM mill)).sum := by
  rw [sumS_take _ (Nat.le_refl _), List.take_length]

theorem sum_set {mill : ByteArray} : ∀ (ps : List Par) (k : Nat) (v : Int) (hk : k < ps.length), ps[k].mill.toList = mill.toList → ((setSh ps k v).map (valM mill)).sum = (ps.map (valM mill)).sum + (v - ps[k].shares)
  | p :: r, 0, v, _, e => by
    simp only [List.getElem_cons_zero] at e
    simp [setSh, valM, e]; omega
  | p :: r, k + 1, v, h, e => by
    have := sum_set r k v (by simpa using h) (by simpa using e)
    simp only [setSh, List.map_cons, List.sum_cons, this, List.getElem_cons_succ]; omega
theorem is_parts {p : Par} {who mill : ByteArray} (h : isB p who mill = true) : p.who.toList = who.toList ∧ p.mill.toList = mill.toList := by
  simpa [isB] using h
theorem sharesIn_eq {ps : List Par} (h : partsB ps = true) (mill : ByteArray) : sharesInV ps mill = (ps.map (valM mill)).sum := by
  rw [sharesInV, if_pos h, sumS_all]
theorem sharesOf_hit {ps : List Par} (h : partsB ps = true) {who mill : ByteArray} {k : Nat} (e : pfindV ps who mill = k) (hk : k < ps.length) : sharesOfV ps who mill = ps[k].shares := by
  rw [sharesOfV, if_pos h, if_pos (by omega), e]
  simp [patn_eq hk]
theorem sharesOf_none {ps : List Par} (h : partsB ps = true) {who mill : ByteArray} (e : pfindV ps who mill = -1) : sharesOfV ps who mill = 0 := by
  rw [sharesOfV, if_pos h, if_neg (by omega)]
theorem put_cut {ps : List Par} {k : Nat} (hk : k ≤ ps.length) (x : Par) : (ps.take k ++ [x] ++ ps.drop k).take k ++ (ps.take k ++ [x] ++ ps.drop k).drop (k + 1) = ps := by
  have h1 : (ps.take k).length = k := by simp; omega
  rw [List.append_assoc, List.take_left' h1, List.drop_append, h1, List.drop_eq_nil_of_le (by omega)]
  simp

/-- What one gave can be took again. -/
theorem gave_took {ps : List Par} {who mill : ByteArray} {n : Int} (h : gaveB ps who mill n = true) :
    partsB (gaveL ps who mill n) = true ∧ tookB (gaveL ps who mill n) who mill n = true ∧ tookL (gaveL ps who mill n) who mill n = ps ∧ sharesInV (gaveL ps who mill n) mill = sharesInV ps mill + n := by
  have h0 := h
  simp only [gaveB, Bool.and_eq_true] at h
  obtain ⟨hf, hn, hx⟩ := h
  have hL : gaveL ps who mill n = giveAt ps who mill n := by rw [gaveL, if_pos hf, if_pos h0]
  rw [hL]
  have hnb := inB_true hn
  refine ⟨hx, ?_⟩
  by_cases hp : 0 ≤ pfindV ps who mill
  · obtain ⟨k, e, hk, hq⟩ := pfind_hit hp
    have hg : giveAt ps who mill n = setSh ps k (ps[k].shares + n) := by rw [giveAt, if_pos hp, e]; simp [patn_eq hk]
    rw [hg] at hx ⊢
    have hs := part_bd1 ((parts_true hf).2.1 k hk hk)
    have hk' : k < (setSh ps k (ps[k].shares + n)).length := by rw [setSh_length]; exact hk
    have e' : pfindV (setSh ps k (ps[k].shares + n)) who mill = k := by rw [pfind_set]; exact e
    have hat : (setSh ps k (ps[k].shares + n))[k].shares = ps[k].shares + n := by
      rw [← patn_eq hk', patn_set k hk]; simp
    obtain ⟨t1, t2⟩ := took_yes hx e' hk' (n := n) (by rw [hat]; exact inB_of (by omega) (by omega))
    refine ⟨t1, ?_, ?_⟩
    · rw [t2, takeAt, patn_eq hk', hat, if_neg (by omega), setSh_twice, show ps[k].shares + n - n = ps[k].shares by omega, setSh_self ps k hk]
    · rw [sharesIn_eq hx, sharesIn_eq hf, sum_set ps k _ hk (is_parts hq).2]; omega
  · have hg : giveAt ps who mill n = ps.take (lowAt ps who mill) ++ [⟨who, mill, n⟩] ++ ps.drop (lowAt ps who mill) := by rw [giveAt, if_neg hp]
    rw [hg] at hx ⊢
    have hle := lowAt_le ps who mill
    generalize lowAt ps who mill = k at hx hle ⊢
    have hlen : (ps.take k ++ [(⟨who, mill, n⟩ : Par)] ++ ps.drop k).length = ps.length + 1 := by simp; omega
    have hk' : k < (ps.take k ++ [(⟨who, mill, n⟩ : Par)] ++ ps.drop k).length := by rw [hlen]; omega
    have hat : (ps.take k ++ [(⟨who, mill, n⟩ : Par)] ++ ps.drop k)[k] = ⟨who, mill, n⟩ := by
      rw [List.getElem_append_left (by simp; omega), List.getElem_append_right (by simp; omega)]
      simp
    have e' : pfindV (ps.take k ++ [(⟨who, mill, n⟩ : Par)] ++ ps.drop k) who mill = k := pfind_at (parts_pair.1 hx).2.2 hk' (by rw [hat]; simp [isB])
    obtain ⟨t1, t2⟩ := took_yes hx e' hk' (n := n) (by rw [hat]; exact inB_of (by omega) (by simp))
    refine ⟨t1, ?_, ?_⟩
    · rw [t2, takeAt, patn_eq hk', hat, if_pos (by simp), put_cut hle]
    · rw [sharesIn_eq hx, sharesIn_eq hf]
      conv => rhs; rw [← List.take_append_drop k ps]
      simp only [List.map_append, List.sum_append, List.map_cons, List.map_nil, List.sum_cons, List.sum_nil]
      simp [valM]; omega

/-- What is took is less, of that mill and of that one. -/
theorem took_less {ps : List Par} {who mill : ByteArray} {n : Int} (h : tookB ps who mill n = true) :
    partsB (tookL ps who mill n) = true ∧ sharesInV (tookL ps who mill n) mill = sharesInV ps mill - n ∧ sharesOfV (tookL ps who mill n) who mill = sharesOfV ps who mill - n := by
  simp only [tookB, Bool.and_eq_true, decide_eq_true_eq] at h
  obtain ⟨hf, hp, hn⟩ := h
  obtain ⟨k, e, hk, hq⟩ := pfind_hit hp
  rw [e, Int.toNat_natCast, patn_eq hk] at hn
  rw [(took_yes hf e hk hn).2]
  have hnb := inB_true hn
  have hs := part_bd1 ((parts_true hf).2.1 k hk hk)
  have hso := sharesOf_hit hf e hk
  obtain ⟨h20, hall, hpw⟩ := parts_pair.1 hf
  rw [takeAt, patn_eq hk]
  split
  · rename_i hz
    have hsub : (ps.take k ++ ps.drop (k + 1)).Sublist ps := by
      conv => rhs; rw [← List.take_append_drop k ps]
      exact (List.Sublist.refl _).append (List.drop_sublist_drop_left _ (by omega))
    have hy : partsB (ps.take k ++ ps.drop (k + 1)) = true := parts_pair.2 ⟨Nat.le_trans hsub.length_le h20, fun p hp => hall p (hsub.subset hp), hpw.sublist hsub⟩
    refine ⟨hy, ?_, ?_⟩
    · rw [sharesIn_eq hy, sharesIn_eq hf]
      have e2 : (ps.map (valM mill)).sum = ((ps.take k ++ ps.drop (k + 1)).map (valM mill)).sum + ps[k].shares := by
        conv => lhs; rw [← List.take_append_drop k ps, List.drop_eq_getElem_cons hk]
        simp only [List.map_append, List.sum_append, List.map_cons, List.sum_cons]
        have : valM mill ps[k] = ps[k].shares := by simp [valM, (is_parts hq).2]
        rw [this]; omega
      rw [e2]; omega
    · rw [hso, sharesOf_none hy (pfind_none fun p hp => ?_)]
      · omega
      · rw [List.pairwise_iff_getElem] at hpw
        rcases List.mem_append.1 hp with hp | hp
        · obtain ⟨j, hj, rfl⟩ := List.getElem_of_mem hp
          have hjk : j < k := by have := hj; simp at this; omega
          rw [List.getElem_take]
          cases e3 : isB ps[j] who mill
          · rfl
          · have := (hpw j k (by omega) hk hjk).ne e3
            rw [hq] at this; cases this
        · obtain ⟨j, hj, rfl⟩ := List.getElem_of_mem hp
          rw [List.getElem_drop]
          exact (hpw k (k + 1 + j) hk (by simp at hj; omega) (by omega)).ne hq
  · rename_i hz
    have hy : partsB (setSh ps k (ps[k].shares - n)) = true := parts_set hf (inB_of (by omega) (by omega))
    have hk' : k < (setSh ps k (ps[k].shares - n)).length := by rw [setSh_length]; exact hk
    refine ⟨hy, ?_, ?_⟩
    · rw [sharesIn_eq hy, sharesIn_eq hf, sum_set ps k _ hk (is_parts hq).2]; omega
    · rw [hso, sharesOf_hit hy (by rw [pfind_set]; exact e) hk', ← patn_eq hk', patn_set k hk]; simp

/-- Those of one are just that one's. -/
theorem for_one {ps : List Par} {who : ByteArray} {i : Nat} (hi : i < (partsForV ps who).length) : ((partsForV ps who)[i].who.toList == who.toList) = true ∧ sharesOfV ps who (partsForV ps who)[i].mill = (partsForV ps who)[i].shares := by
  cases hf : partsB ps
  · exfalso
    rw [show partsForV ps who = [] by simp [partsForV, hf]] at hi
    simp at hi
  · have hL : partsForV ps who = ofWho who ps := by simp [partsForV, hf]
    have hm := List.getElem_mem hi
    generalize (partsForV ps who)[i] = q at hm ⊢
    rw [hL, ofWho, List.mem_filter] at hm
    obtain ⟨hm, hw⟩ := hm
    refine ⟨hw, ?_⟩
    obtain ⟨k, hk, rfl⟩ := List.getElem_of_mem hm
    exact sharesOf_hit hf (pfind_at (parts_pair.1 hf).2.2 hk (by simp only [isB, hw, Bool.true_and]; simp)) hk

theorem gaveL_sized {ps : List Par} (hs : PSized ps) {who mill : ByteArray} (hw : who.size ≤ maxLen) (hm : mill.size ≤ maxLen) (n : Int) : PSized (gaveL ps who mill n) := by
  unfold gaveL
  split
  · split
    · unfold giveAt
      split
      · exact psized_set hs _ _
      · exact psized_put hs hw hm n _
    · exact hs
  · intro k hk; simp at hk
theorem tookL_sized {ps : List Par} (hs : PSized ps) (who mill : ByteArray) (n : Int) : PSized (tookL ps who mill n) := by
  unfold tookL
  split
  · split
    · unfold takeAt
      split
      · rw [psized_mem] at hs ⊢
        intro p hp
        rcases List.mem_append.1 hp with hp | hp
        · exact hs p (List.mem_of_mem_take hp)
        · exact hs p (List.mem_of_mem_drop hp)
      · exact psized_set hs _ _
    · exact hs
  · intro k hk; simp at hk
end Go.Proofs.Ytpmibegfpfjdgaa
