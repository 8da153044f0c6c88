/-
  Texts joined: Facts5, CmpPart, CmpBy, SortK, MapG, MapP, SortP, PartK, PartE, PartA, PartH.
-/
import Derived.Test.YtncandoohlndnaaGreatJ6
import Derived.StillTailTactics
import Derived.Shelf.SlSortCmp.NoneTotal
import Derived.Maps.RangeWalk
import Derived.Maps.OwnOps
import Derived.DeepKeys4
import Derived.Deep.AppendLies
import Derived.Laws.MakeOwn
import Derived.Carry
namespace Go.Proofs.YtncandoohlndnaaGreat
open Go.ChangeShapes Go.WideShapes Go.ChangeAt Go.RowKit

theorem less_iff {p : Par} {who mill : ByteArray} : lessB p who mill = true ↔ p.who.toList < who.toList ∨ (p.who.toList = who.toList ∧ p.mill.toList < mill.toList) := by
  unfold lessB
  split
  · rename_i h
    have e : p.who.toList = who.toList := by simpa using h
    rw [bytesLess_lt, decide_eq_true_eq, e]
    constructor
    · exact fun h => .inr ⟨rfl, h⟩
    · rintro (h | ⟨_, h⟩)
      · exact absurd h (List.lt_irrefl _)
      · exact h
  · rename_i h
    have e : ¬ p.who.toList = who.toList := by simpa using h
    rw [bytesLess_lt, decide_eq_true_eq]
    constructor
    · exact fun h => .inl h
    · rintro (h | ⟨h, _⟩)
      · exact h
      · exact absurd h e
/-- p is ahead of q. -/
def KeyLt (p q : Par) : Prop := lessB p q.who q.mill = true
theorem KeyLt.trans {p q r : Par} (h : KeyLt p q) (k : KeyLt q r) : KeyLt p r := by
  unfold KeyLt at *
  rw [less_iff] at *
  rcases h with h | ⟨h, h'⟩ <;> rcases k with k | ⟨k, k'⟩
  · exact .inl (List.lt_trans h k)
  · exact .inl (k ▸ h)
  · exact .inl (h ▸ k)
  · exact .inr ⟨h.trans k, List.lt_trans h' k'⟩
theorem KeyLt.ne {p q : Par} (h : KeyLt p q) {who mill : ByteArray} (hp : isB p who mill = true) : isB q who mill = false := by
  cases hq : isB q who mill
  · rfl
  · simp only [isB, Bool.and_eq_true, beq_iff_eq] at hp hq
    unfold KeyLt at h
    rw [less_iff, hp.1, hp.2, hq.1, hq.2] at h
    rcases h with h | ⟨_, h⟩ <;> exact absurd h (List.lt_irrefl _)
theorem up_less {ps : List Par} (h : PUp ps ps.length) {j : Nat} : ∀ m (hm : j + 1 + m < ps.length), KeyLt (ps[j]'(by omega)) ps[j + 1 + m]
  | 0, hm => h.2 j hm hm
  | m + 1, hm => (up_less h m (by omega)).trans (h.2 (j + 1 + m) hm hm)
theorem up_pair {ps : List Par} : PUp ps ps.length ↔ (∀ p ∈ ps, partB p = true) ∧ ps.Pairwise KeyLt := by
  constructor
  · intro h
    refine ⟨fun p hp => ?_, ?_⟩
    · obtain ⟨k, hk, rfl⟩ := List.getElem_of_mem hp; exact h.1 k hk hk
    · rw [List.pairwise_iff_getElem]
      intro i j hi hj hij
      have := up_less h (j := i) (j - (i + 1)) (by omega)
      simpa [show i + 1 + (j - (i + 1)) = j by omega] using this
  · rintro ⟨h1, h2⟩
    rw [List.pairwise_iff_getElem] at h2
    exact ⟨fun j hj _ => h1 _ (List.getElem_mem hj), fun j hj _ => h2 j (j + 1) (by omega) hj (by omega)⟩
theorem parts_pair {ps : List Par} : partsB ps = true ↔ ps.length ≤ 20 ∧ (∀ p ∈ ps, partB p = true) ∧ ps.Pairwise KeyLt := by
  rw [← up_pair]
  exact ⟨parts_true, fun h => parts_yes h.1 h.2⟩

theorem pfind_at {ps : List Par} (h : ps.Pairwise KeyLt) {k : Nat} (hk : k < ps.length) {who mill : ByteArray} (hq : isB ps[k] who mill = true) : pfindV ps who mill = k := by
  refine findUp_at hk (fun j hj => ?_) (by rw [patn_eq hk]; exact hq)
  rw [List.pairwise_iff_getElem] at h
  have := h j k (by omega) hk hj
  rw [patn_eq (by omega)]
  cases e : isB ps[j] who mill
  · rfl
  · rw [this.ne e] at hq; cases hq
theorem pfind_none {ps : List Par} {who mill : ByteArray} (h : ∀ p ∈ ps, isB p who mill = false) : pfindV ps who mill = -1 :=
  findUp_out fun j hj => by rw [patn_eq hj]; exact h _ (List.getElem_mem hj)
theorem pfind_neg {ps : List Par} {who mill : ByteArray} (h : ¬ 0 ≤ pfindV ps who mill) : ∀ p ∈ ps, isB p who mill = false := by
  intro p hp
  obtain ⟨k, hk, rfl⟩ := List.getElem_of_mem hp
  cases hq : isB ps[k] who mill
  · rfl
  · exfalso
    -- the first of which it holds
    have : ∀ m, (∀ j, j < m → ∀ hj : j < ps.length, isB ps[j] who mill = false) ∨ 0 ≤ pfindV ps who mill := by
      intro m
      induction m with
      | zero => exact .inl fun _ h => by omega
      | succ m ih =>
        rcases ih with ih | ih
        · by_cases hm : m < ps.length
          · cases e : isB ps[m] who mill
            · refine .inl fun j hj hl => ?_
              by_cases ej : j = m
              · subst ej; exact e
              · exact ih j (by omega) hl
            · right
              have : pfindV ps who mill = m := findUp_at hm (fun j hj => by rw [patn_eq (by omega)]; exact ih j hj (by omega)) (by rw [patn_eq hm]; exact e)
              omega
          · exact .inl fun j hj hl => ih j (by omega) hl
        · exact .inr ih
    rcases this (k + 1) with h1 | h1
    · rw [h1 k (by omega) hk] at hq; cases hq
    · exact h h1

theorem setSh_set : ∀ (ps : List Par) (k : Nat) (v : Int), setSh ps k v = ps.set k ⟨(patn ps k).who, (patn ps k).mill, v⟩
  | [], _, _ => rfl
  | p :: r, 0, v => by simp [setSh, patn]
  | p :: r, k + 1, v => by
    have := setSh_set r k v
    simp only [setSh, this, List.set_cons_succ, patn, List.getD_cons_succ]
theorem setSh_twice : ∀ (ps : List Par) (k : Nat) (v u : Int), setSh (setSh ps k v) k u = setSh ps k u
  | [], _, _, _ => rfl
  | p :: r, 0, v, u => rfl
  | p :: r, k + 1, v, u => by simp [setSh, setSh_twice r k v u]
theorem setSh_self : ∀ (ps : List Par) (k : Nat) (hk : k < ps.length), setSh ps k ps[k].shares = ps
  | p :: r, 0, _ => rfl
  | p :: r, k + 1, h => by
    have := setSh_self r k (by simpa using h)
    simp only [setSh, List.getElem_cons_succ]
    rw [this]
theorem patn_set {ps : List Par} {k : Nat} {v : Int} (j : Nat) (hj : j < ps.length) : patn (setSh ps k v) j = ⟨ps[j].who, ps[j].mill, if j = k then v else ps[j].shares⟩ := by
  have hl : j < (setSh ps k v).length := by rw [setSh_length]; exact hj
  obtain ⟨e1, e2, e3⟩ := setSh_at ps k v j hl
  rw [patn_eq hj] at e1 e2 e3
  rw [patn_eq hl]
  cases h : (setSh ps k v)[j]
  rw [h] at e1 e2 e3
  simp only at e1 e2 e3
  rw [e1, e2, e3]
theorem pfind_set {ps : List Par} {k : Nat} {v : Int} (who mill : ByteArray) : pfindV (setSh ps k v) who mill = pfindV ps who mill := by
  unfold pfindV
  rw [setSh_length]
  refine findUp_congr fun j hj => ?_
  rw [patn_set j hj, patn_eq hj]; rfl
theorem parts_set {ps : List Par} (h : partsB ps = true) {k : Nat} {v : Int} (hv : inB 1 1000000000 v = true) : partsB (setSh ps k v) = true := by
  obtain ⟨h1, h2⟩ := parts_true h
  have at' : ∀ j (hj : j < (setSh ps k v).length), (setSh ps k v)[j] = ⟨(ps[j]'(by rw [setSh_length] at hj; exact hj)).who, (ps[j]'(by rw [setSh_length] at hj; exact hj)).mill, if j = k then v else (ps[j]'(by rw [setSh_length] at hj; exact hj)).shares⟩ := by
    intro j hj
    rw [← patn_eq hj, patn_set j (by rw [setSh_length] at hj; exact hj)]
  refine parts_yes (by rw [setSh_length]; exact h1) ⟨fun j hj _ => ?_, fun j hj _ => ?_⟩
  · have hj' : j < ps.length := by rw [setSh_length] at hj; exact hj
    have := h2.1 j hj' hj'
    rw [at' j hj]
    simp only [partB, Bool.and_eq_true] at this ⊢
    refine ⟨this.1, this.2.1, ?_⟩
    split
    · exact hv
    · exact this.2.2
  · have hj' : j + 1 < ps.length := by rw [setSh_length] at hj; exact hj
    rw [at' j (by omega), at' (j + 1) hj]
    exact h2.2 j hj' hj'

/-- What one adds to a mill. -/
def valM (mill : ByteArray) (p : Par) : Int := if (p.mill.toList == mill.toList) = true then p.shares else 0
theorem sumS_take {ps : List Par} {mill : ByteArray} : ∀ k, k ≤ ps.length → sumS ps mill k = ((ps.take k).map (valM mill)).sum
  | 0, _ => by simp [sumS]
  | k + 1, hk => by
    rw [sumS, sumS_take k (by omega), List.take_succ_eq_append_getElem (by omega), List.map_append, List.sum_append, patn_eq (by omega)]
    simp [valM]
theorem sumS_all (ps : List Par) (mill : ByteArray) : sumS ps mill ps.length = (ps.map (valM mill)).sum := by
  rw [sumS_take _ (Nat.le_refl _), List.take_length]

theorem sum_set {mill : ByteArray} : ∀ (ps : List Par) (k : Nat) (v : Int) (hk : k < ps.length), ps[k].mill.toList = mill.toList → ((setSh ps k v).map (valM mill)).sum = (ps.map (valM mill)).sum + (v - ps[k].shares)
  | p :: r, 0, v, _, e => by
    simp only [List.getElem_cons_zero] at e
    simp [setSh, valM, e]; omega
  | p :: r, k + 1, v, h, e => by
    have := sum_set r k v (by simpa using h) (by simpa using e)
    simp only [setSh, List.map_cons, List.sum_cons, this, List.getElem_cons_succ]; omega
theorem is_parts {p : Par} {who mill : ByteArray} (h : isB p who mill = true) : p.who.toList = who.toList ∧ p.mill.toList = mill.toList := by
  simpa [isB] using h
theorem sharesIn_eq {ps : List Par} (h : partsB ps = true) (mill : ByteArray) : sharesInV ps mill = (ps.map (valM mill)).sum := by
  rw [sharesInV, if_pos h, sumS_all]
theorem sharesOf_hit {ps : List Par} (h : partsB ps = true) {who mill : ByteArray} {k : Nat} (e : pfindV ps who mill = k) (hk : k < ps.length) : sharesOfV ps who mill = ps[k].shares := by
  rw [sharesOfV, if_pos h, if_pos (by omega), e]
  simp [patn_eq hk]
theorem sharesOf_none {ps : List Par} (h : partsB ps = true) {who mill : ByteArray} (e : pfindV ps who mill = -1) : sharesOfV ps who mill = 0 := by
  rw [sharesOfV, if_pos h, if_neg (by omega)]
theorem put_cut {ps : List Par} {k : Nat} (hk : k ≤ ps.length) (x : Par) : (ps.take k ++ [x] ++ ps.drop k).take k ++ (ps.take k ++ [x] ++ ps.drop k).drop (k + 1) = ps := by
  have h1 : (ps.take k).length = k := by simp; omega
  rw [List.append_assoc, List.take_left' h1, List.drop_append, h1, List.drop_eq_nil_of_le (by omega)]
  simp

/-- What one gave can be took again. -/
theorem gave_took {ps : List Par} {who mill : ByteArray} {n : Int} (h : gaveB ps who mill n = true) :
    partsB (gaveL ps who mill n) = true ∧ tookB (gaveL ps who mill n) who mill n = true ∧ tookL (gaveL ps who mill n) who mill n = ps ∧ sharesInV (gaveL ps who mill n) mill = sharesInV ps mill + n := by
  have h0 := h
  simp only [gaveB, Bool.and_eq_true] at h
  obtain ⟨hf, hn, hx⟩ := h
  have hL : gaveL ps who mill n = giveAt ps who mill n := by rw [gaveL, if_pos hf, if_pos h0]
  rw [hL]
  have hnb := inB_true hn
  refine ⟨hx, ?_⟩
  by_cases hp : 0 ≤ pfindV ps who mill
  · obtain ⟨k, e, hk, hq⟩ := pfind_hit hp
    have hg : giveAt ps who mill n = setSh ps k (ps[k].shares + n) := by rw [giveAt, if_pos hp, e]; simp [patn_eq hk]
    rw [hg] at hx ⊢
    have hs := part_bd1 ((parts_true hf).2.1 k hk hk)
    have hk' : k < (setSh ps k (ps[k].shares + n)).length := by rw [setSh_length]; exact hk
    have e' : pfindV (setSh ps k (ps[k].shares + n)) who mill = k := by rw [pfind_set]; exact e
    have hat : (setSh ps k (ps[k].shares + n))[k].shares = ps[k].shares + n := by
      rw [← patn_eq hk', patn_set k hk]; simp
    obtain ⟨t1, t2⟩ := took_yes hx e' hk' (n := n) (by rw [hat]; exact inB_of (by omega) (by omega))
    refine ⟨t1, ?_, ?_⟩
    · rw [t2, takeAt, patn_eq hk', hat, if_neg (by omega), setSh_twice, show ps[k].shares + n - n = ps[k].shares by omega, setSh_self ps k hk]
    · rw [sharesIn_eq hx, sharesIn_eq hf, sum_set ps k _ hk (is_parts hq).2]; omega
  · have hg : giveAt ps who mill n = ps.take (lowAt ps who mill) ++ [⟨who, mill, n⟩] ++ ps.drop (lowAt ps who mill) := by rw [giveAt, if_neg hp]
    rw [hg] at hx ⊢
    have hle := lowAt_le ps who mill
    generalize lowAt ps who mill = k at hx hle ⊢
    have hlen : (ps.take k ++ [(⟨who, mill, n⟩ : Par)] ++ ps.drop k).length = ps.length + 1 := by simp; omega
    have hk' : k < (ps.take k ++ [(⟨who, mill, n⟩ : Par)] ++ ps.drop k).length := by rw [hlen]; omega
    have hat : (ps.take k ++ [(⟨who, mill, n⟩ : Par)] ++ ps.drop k)[k] = ⟨who, mill, n⟩ := by
      rw [List.getElem_append_left (by simp; omega), List.getElem_append_right (by simp; omega)]
      simp
    have e' : pfindV (ps.take k ++ [(⟨who, mill, n⟩ : Par)] ++ ps.drop k) who mill = k := pfind_at (parts_pair.1 hx).2.2 hk' (by rw [hat]; simp [isB])
    obtain ⟨t1, t2⟩ := took_yes hx e' hk' (n := n) (by rw [hat]; exact inB_of (by omega) (by simp))
    refine ⟨t1, ?_, ?_⟩
    · rw [t2, takeAt, patn_eq hk', hat, if_pos (by simp), put_cut hle]
    · rw [sharesIn_eq hx, sharesIn_eq hf]
      conv => rhs; rw [← List.take_append_drop k ps]
      simp only [List.map_append, List.sum_append, List.map_cons, List.map_nil, List.sum_cons, List.sum_nil]
      simp [valM]; omega

/-- What is took is less, of that mill and of that one. -/
theorem took_less {ps : List Par} {who mill : ByteArray} {n : Int} (h : tookB ps who mill n = true) :
    partsB (tookL ps who mill n) = true ∧ sharesInV (tookL ps who mill n) mill = sharesInV ps mill - n ∧ sharesOfV (tookL ps who mill n) who mill = sharesOfV ps who mill - n := by
  simp only [tookB, Bool.and_eq_true, decide_eq_true_eq] at h
  obtain ⟨hf, hp, hn⟩ := h
  obtain ⟨k, e, hk, hq⟩ := pfind_hit hp
  rw [e, Int.toNat_natCast, patn_eq hk] at hn
  rw [(took_yes hf e hk hn).2]
  have hnb := inB_true hn
  have hs := part_bd1 ((parts_true hf).2.1 k hk hk)
  have hso := sharesOf_hit hf e hk
  obtain ⟨h20, hall, hpw⟩ := parts_pair.1 hf
  rw [takeAt, patn_eq hk]
  split
  · rename_i hz
    have hsub : (ps.take k ++ ps.drop (k + 1)).Sublist ps := by
      conv => rhs; rw [← List.take_append_drop k ps]
      exact (List.Sublist.refl _).append (List.drop_sublist_drop_left _ (by omega))
    have hy : partsB (ps.take k ++ ps.drop (k + 1)) = true := parts_pair.2 ⟨Nat.le_trans hsub.length_le h20, fun p hp => hall p (hsub.subset hp), hpw.sublist hsub⟩
    refine ⟨hy, ?_, ?_⟩
    · rw [sharesIn_eq hy, sharesIn_eq hf]
      have e2 : (ps.map (valM mill)).sum = ((ps.take k ++ ps.drop (k + 1)).map (valM mill)).sum + ps[k].shares := by
        conv => lhs; rw [← List.take_append_drop k ps, List.drop_eq_getElem_cons hk]
        simp only [List.map_append, List.sum_append, List.map_cons, List.sum_cons]
        have : valM mill ps[k] = ps[k].shares := by simp [valM, (is_parts hq).2]
        rw [this]; omega
      rw [e2]; omega
    · rw [hso, sharesOf_none hy (pfind_none fun p hp => ?_)]
      · omega
      · rw [List.pairwise_iff_getElem] at hpw
        rcases List.mem_append.1 hp with hp | hp
        · obtain ⟨j, hj, rfl⟩ := List.getElem_of_mem hp
          have hjk : j < k := by have := hj; simp at this; omega
          rw [List.getElem_take]
          cases e3 : isB ps[j] who mill
          · rfl
          · have := (hpw j k (by omega) hk hjk).ne e3
            rw [hq] at this; cases this
        · obtain ⟨j, hj, rfl⟩ := List.getElem_of_mem hp
          rw [List.getElem_drop]
          exact (hpw k (k + 1 + j) hk (by simp at hj; omega) (by omega)).ne hq
  · rename_i hz
    have hy : partsB (setSh ps k (ps[k].shares - n)) = true := parts_set hf (inB_of (by omega) (by omega))
    have hk' : k < (setSh ps k (ps[k].shares - n)).length := by rw [setSh_length]; exact hk
    refine ⟨hy, ?_, ?_⟩
    · rw [sharesIn_eq hy, sharesIn_eq hf, sum_set ps k _ hk (is_parts hq).2]; omega
    · rw [hso, sharesOf_hit hy (by rw [pfind_set]; exact e) hk', ← patn_eq hk', patn_set k hk]; simp

/-- Those of one are just that one's. -/
theorem for_one {ps : List Par} {who : ByteArray} {i : Nat} (hi : i < (partsForV ps who).length) : ((partsForV ps who)[i].who.toList == who.toList) = true ∧ sharesOfV ps who (partsForV ps who)[i].mill = (partsForV ps who)[i].shares := by
  cases hf : partsB ps
  · exfalso
    rw [show partsForV ps who = [] by simp [partsForV, hf]] at hi
    simp at hi
  · have hL : partsForV ps who = ofWho who ps := by simp [partsForV, hf]
    have hm := List.getElem_mem hi
    generalize (partsForV ps who)[i] = q at hm ⊢
    rw [hL, ofWho, List.mem_filter] at hm
    obtain ⟨hm, hw⟩ := hm
    refine ⟨hw, ?_⟩
    obtain ⟨k, hk, rfl⟩ := List.getElem_of_mem hm
    exact sharesOf_hit hf (pfind_at (parts_pair.1 hf).2.2 hk (by simp only [isB, hw, Bool.true_and]; simp)) hk

theorem gaveL_sized {ps : List Par} (hs : PSized ps) {who mill : ByteArray} (hw : who.size ≤ maxLen) (hm : mill.size ≤ maxLen) (n : Int) : PSized (gaveL ps who mill n) := by
  unfold gaveL
  split
  · split
    · unfold giveAt
      split
      · exact psized_set hs _ _
      · exact psized_put hs hw hm n _
    · exact hs
  · intro k hk; simp at hk
theorem tookL_sized {ps : List Par} (hs : PSized ps) (who mill : ByteArray) (n : Int) : PSized (tookL ps who mill n) := by
  unfold tookL
  split
  · split
    · unfold takeAt
      split
      · rw [psized_mem] at hs ⊢
        intro p hp
        rcases List.mem_append.1 hp with hp | hp
        · exact hs p (List.mem_of_mem_take hp)
        · exact hs p (List.mem_of_mem_drop hp)
      · exact psized_set hs _ _
    · exact hs
  · intro k hk; simp at hk
end Go.Proofs.YtncandoohlndnaaGreat
namespace Go.Proofs.YtncandoohlndnaaGreat
open Go.ChangeShapes Go.WideShapes Go.ChangeAt Go.RowKit
open Go.Shelf Go.Lib Go.Sort

theorem bytes_gt {a b : List UInt8} (h : ¬ a < b) (e : ¬ a = b) : b < a := by
  have : b ≤ a := List.not_lt.1 h
  rcases List.le_iff_lt_or_eq.1 this with h | h
  · exact h
  · exact absurd h.symm e
/-- Three ways. -/
def cmpS (a b : ByteArray) : Int := if Op.bytesLess a.toList b.toList = true then -1 else if Op.bytesLess b.toList a.toList = true then 1 else 0
theorem cmpS_lt {a b : ByteArray} (h : Op.bytesLess a.toList b.toList = true) : cmpS a b = -1 := by simp [cmpS, h]
theorem cmpS_gt {a b : ByteArray} (h : Op.bytesLess a.toList b.toList = false) (h' : Op.bytesLess b.toList a.toList = true) : cmpS a b = 1 := by simp [cmpS, h, h']
theorem cmpS_eq {a b : ByteArray} (h : Op.bytesLess a.toList b.toList = false) (h' : Op.bytesLess b.toList a.toList = false) : cmpS a b = 0 := by simp [cmpS, h, h']

theorem cmpS_same {a b : ByteArray} (h : (a.toList == b.toList) = true) : cmpS a b = 0 := by
  have e : a.toList = b.toList := by simpa using h
  apply cmpS_eq <;> rw [bytesLess_lt, decide_eq_false_iff_not, e] <;> exact List.lt_irrefl _
theorem cmpS_more {a b : ByteArray} (h : Op.bytesLess a.toList b.toList = false) (hn : (a.toList == b.toList) = false) : cmpS a b = 1 := by
  refine cmpS_gt h ?_
  have e : ¬ a.toList = b.toList := by simpa using hn
  rw [bytesLess_lt, decide_eq_false_iff_not] at h
  rw [bytesLess_lt, decide_eq_true_eq]
  exact bytes_gt h e

set_option maxHeartbeats 1000000 in
set_option maxRecDepth 100000 in
theorem iNaN_any (a : ByteArray) (w : World) : Calls Tryz.prog 130 #[.string a] w fun e w' => e = .returned (.bool false) ∧ w = w' := by
  go_enter Tryz.func130, Tryz.ntmps130
  go_wp2
  go_ret
  exact ⟨rfl, rfl⟩

set_option maxHeartbeats 1000000 in
set_option maxRecDepth 100000 in
theorem iCompare_any (a b : ByteArray) (w : World) :
    Calls Tryz.prog 119 #[.string a, .string b] w fun e w' => e = .returned (.int .i64 (cmpS a b)) ∧ w = w' := by
  cases h1 : Op.bytesLess a.toList b.toList
  · cases h2 : (a.toList == b.toList)
    · have HN := Lib.hid (cmpS_more h1 h2)
      go_enter Tryz.func119, Tryz.ntmps119
      go_wp2_with (go_at_call 130; refine (iNaN_any _ _).mono ?_; rintro e w' ⟨rfl, rfl⟩)
      go_ret
      exact ⟨by rw [HN.out]; rfl, rfl⟩
    · have HN := Lib.hid (cmpS_same h2)
      go_enter Tryz.func119, Tryz.ntmps119
      go_wp2_with (go_at_call 130; refine (iNaN_any _ _).mono ?_; rintro e w' ⟨rfl, rfl⟩)
      go_ret
      exact ⟨by rw [HN.out]; rfl, rfl⟩
  · have HN := Lib.hid (cmpS_lt h1)
    go_enter Tryz.func119, Tryz.ntmps119
    go_wp2_with (go_at_call 130; refine (iNaN_any _ _).mono ?_; rintro e w' ⟨rfl, rfl⟩)
    go_ret
    exact ⟨by rw [HN.out]; rfl, rfl⟩

/-- The first that is not 0. -/
def orI (x y : Int) : Int := if x = 0 then y else x
set_option maxHeartbeats 1000000 in
set_option maxRecDepth 100000 in
theorem iOr_any {w : World} {b : Nat} (x y : Int) (h0 : w.cell? ⟨b, 0, none⟩ = some (.int .i64 x)) (h1 : w.cell? ⟨b, 1, none⟩ = some (.int .i64 y)) :
    Calls Tryz.prog 118 #[.slice (some ⟨b, 0, none⟩) 2 2] w fun e w' => e = .returned (.int .i64 (orI x y)) ∧ w = w' := by
  go_enter Tryz.func118, Tryz.ntmps118
  go_wp2
  go_loop [8] (fun i => ∃ k : Nat, k ≤ 2 ∧ i = .int .i64 k ∧ (1 ≤ k → x = 0) ∧ (2 ≤ k → y = 0)) (fun i => 2 - (intOf i).toNat)
  case atStart => exact ⟨0, Nat.zero_le _, rfl, fun h => by omega, fun h => by omega⟩
  case round =>
    obtain ⟨k, hk, rfl, hx, hy⟩ := hrel
    match k, hk, hx, hy with
    | 0, _, _, _ =>
      by_cases hx : x = 0
      · subst hx
        go_wp2
        go_round
        case rel => exact ⟨1, by omega, by go_num, by simp, by simp⟩
        case measure => simp [intOf]
      · have HN := Lib.hid (show orI x y = x by simp [orI, hx])
        go_wp2
        go_ret
        exact ⟨by rw [HN.out]; rfl, rfl⟩
    | 1, _, hx, _ =>
      obtain rfl : x = 0 := hx (by omega)
      by_cases hy : y = 0
      · subst hy
        go_wp2
        go_round
        case rel => exact ⟨2, by omega, by go_num, by simp, by simp⟩
        case measure => simp [intOf]
      · have HN := Lib.hid (show orI 0 y = y by simp [orI])
        go_wp2
        go_ret
        exact ⟨by rw [HN.out]; rfl, rfl⟩
    | 2, _, hx, hy =>
      obtain rfl : x = 0 := hx (by omega)
      obtain rfl : y = 0 := hy (by omega)
      go_wp2
      go_ret
      exact ⟨rfl, rfl⟩

/-- By whose they are, then by the mill. -/
def cmpP (p q : Par) : Int := orI (cmpS p.who q.who) (cmpS p.mill q.mill)
end Go.Proofs.YtncandoohlndnaaGreat
namespace Go.Proofs.YtncandoohlndnaaGreat
open Go.ChangeShapes Go.WideShapes Go.ChangeAt Go.RowKit
open Go.Shelf Go.Lib Go.Sort

set_option maxHeartbeats 4000000 in
set_option maxRecDepth 100000 in
theorem iBy_any (p q : Par) (W : World) :
    Calls Tryz.prog 115 #[.agg #[.string p.who, .string p.mill, .int .i64 p.shares], .agg #[.string q.who, .string q.mill, .int .i64 q.shares]] W fun e w' => e = .returned (.int .i64 (cmpP p q)) ∧ ∃ n os, w' = grow (W.drewN n) os := by
  have HN : Hid (cmpP p q = orI (cmpS p.who q.who) (cmpS p.mill q.mill)) := rfl
  obtain ⟨x, HX⟩ : ∃ x, Hid (cmpS p.who q.who = x) := ⟨_, Lib.hid rfl⟩
  obtain ⟨y, HY⟩ : ∃ y, Hid (cmpS p.mill q.mill = y) := ⟨_, Lib.hid rfl⟩
  have hc1 : ∀ W', Calls Tryz.prog 119 #[.string p.who, .string q.who] W' fun e w' => e = .returned (.int .i64 x) ∧ w' = W' := fun W' => by rw [← HX.out]; exact (iCompare_any _ _ _).mono fun _ _ h => ⟨h.1, h.2.symm⟩
  have hc2 : ∀ W', Calls Tryz.prog 119 #[.string p.mill, .string q.mill] W' fun e w' => e = .returned (.int .i64 y) ∧ w' = W' := fun W' => by rw [← HY.out]; exact (iCompare_any _ _ _).mono fun _ _ h => ⟨h.1, h.2.symm⟩
  rw [HX.out, HY.out] at HN
  have HC1 := Lib.hid hc1
  have HC2 := Lib.hid hc2
  clear hc1 hc2 HX HY
  go_enter Tryz.func115, Tryz.ntmps115
  go_wp2_with fail
  obtain ⟨W2, hW2⟩ : ∃ W2, (W.alloc (.cells #[.string p.who, .string p.mill, .int .i64 p.shares] 83)).alloc (.cells #[.string q.who, .string q.mill, .int .i64 q.shares] 83) = W2 := ⟨_, rfl⟩
  have hp := (RecAt.new Par.cs W p 83).below (below_new _ (.cells #[.string q.who, .string q.mill, .int .i64 q.shares] 83))
  have hq := RecAt.new Par.cs (W.alloc (.cells #[.string p.who, .string p.mill, .int .i64 p.shares] 83)) q 83
  have hsz : (W.alloc (.cells #[.string p.who, .string p.mill, .int .i64 p.shares] 83)).heap.size = W.heap.size + 1 := by simp
  have c0 : W2.cell? ⟨W.heap.size, 0, none⟩ = some (.string p.who) := by rw [← hW2]; exact hp 0 _ rfl
  have c1 : W2.cell? ⟨W.heap.size, 1, none⟩ = some (.string p.mill) := by rw [← hW2]; exact hp 1 _ rfl
  have c2 : W2.cell? ⟨W.heap.size + 1, 0, none⟩ = some (.string q.who) := by rw [← hW2, ← hsz]; exact hq 0 _ rfl
  have c3 : W2.cell? ⟨W.heap.size + 1, 1, none⟩ = some (.string q.mill) := by rw [← hW2, ← hsz]; exact hq 1 _ rfl
  clear hp hq hsz
  have HE : Hid (∃ os, W2 = grow W os) := ⟨_, by rw [← hW2, alloc_eq_grow, alloc_eq_grow, grow_grow]⟩
  rw [hW2]
  clear hW2
  refine wp_region_still_tail 10 (by kernel_rfl) (by kernel_rfl) ?_
  simp only [List.take_succ_cons, List.take_zero, List.drop_succ_cons, List.drop_zero]
  change wpStill _ _ W2.drew _ _ _
  still_step
  still_step
  still_step
  still_step
  still_call (HC1.out _)
  still_step
  still_step
  still_step
  still_step
  still_call (HC2.out _)
  refine wpStill_nil ?_
  go_wp2_with (go_at_call 118; refine (iOr_any x y (by go_simp) (by go_simp)).mono ?_; rintro e w' ⟨rfl, rfl⟩)
  go_ret
  obtain ⟨os, hos⟩ := HE.out
  exact ⟨by rw [HN.out]; rfl, 1, _, by rw [hos, alloc_eq_grow]; exact grow_grow (W.drewN 1) os _⟩
end Go.Proofs.YtncandoohlndnaaGreat
namespace Go.Proofs.YtncandoohlndnaaGreat
open Go.ChangeShapes Go.WideShapes Go.ChangeAt Go.RowKit
open Go.Sort

section
variable {α : Type} [Inhabited α] {f : α → List Value} {c : Nat}
theorem flatK_at (hc : ∀ x, (f x).length = c) (xs : List α) (t : Nat) (ht : t < xs.length * c) : (xs.flatMap f)[t]? = some (flatK f c xs.toArray)[t]! := by
  have hc0 : 0 < c := by
    rcases Nat.eq_zero_or_pos c with e | e
    · subst e; simp at ht
    · exact e
  have hk : t / c < xs.length := Nat.div_lt_of_lt_mul (by rw [Nat.mul_comm]; exact ht)
  have hj : t % c < c := Nat.mod_lt _ hc0
  have e := flat_at hc xs (t / c) (t % c) hk hj
  rw [Nat.div_add_mod'] at e
  rw [e, get_flatK _ _ _ _ (by simpa using ht)]
  have h1 : xs.toArray[t / c]! = xs[t / c] := by simp [hk]
  rw [h1]
  have hl : t % c < (f xs[t / c]).length := by rw [hc]; exact hj
  rw [List.getElem?_eq_getElem hl]
  simp [hl]
theorem row_holds (hc : ∀ x, (f x).length = c) {W : World} {base g cap : Nat} {T : TypeId} {xs : List α} (ho : W.ownsRow base T c (.slice (some ⟨g, 0, none⟩) xs.length cap) xs.length (xs.flatMap f)) : HoldsK f c W g 0 xs.toArray := by
  rcases ho.2 with ⟨h0, -⟩ | ⟨g', cap', cur, hv, hg, hh, hle, hm, hs, ht⟩
  · simp at h0
  · injection hv with e1 e2 e3
    injection e1 with e1
    injection e1 with e1
    subst e1
    intro j hj
    have hj' : j < xs.length * c := by simpa using hj
    refine ⟨?_, by simp [World.frozen?, hh]⟩
    have h1 := flatK_at hc xs j hj'
    rw [← ht, List.getElem?_take_of_lt hj'] at h1
    simp only [World.cell?, hh, Nat.zero_add]
    simpa using h1
theorem sorted_block {W : World} {g n : Nat} {os : Array Obj} {cur : Array Value} {T : TypeId} {fr : Nat × Nat} (d : Array α) (hh : W.heap[g]? = some (.cells cur T fr)) :
    (sortWorldK f c W g 0 n d os).heap[g]? = some (.cells (putCells id 0 (flatK f c d) cur) T fr) := by
  have hg : g < W.heap.size := (Array.getElem?_eq_some_iff.1 hh).1
  unfold sortWorldK
  rw [heap_grow_old _ _ (by simpa [putRowK, putRow, mapBlock, Go.Sort.ahead] using hg)]
  simp [putRowK, putRow, mapBlock, Go.Sort.ahead, Array.getElem?_modify, hh, onCells]
theorem sorted_grown {W : World} {g n : Nat} {os : Array Obj} (d : Array α) : W.grownBy (sortWorldK f c W g 0 n d os) (some g) := by
  refine ⟨rfl, rfl, rfl, by simp [sortWorldK, putRowK, putRow, mapBlock, Go.Sort.ahead, Go.Sort.grow], fun k hk hne => ?_⟩
  have hgk : g ≠ k := fun e => hne (by rw [e])
  unfold sortWorldK
  rw [heap_grow_old _ _ (by simpa [putRowK, putRow, mapBlock, Go.Sort.ahead] using hk)]
  simp [putRowK, putRow, mapBlock, Go.Sort.ahead, Array.getElem?_modify, hgk]
theorem sorted_row (hc : ∀ x, (f x).length = c) {W : World} {base g cap n : Nat} {T : TypeId} {os : Array Obj} {xs ys : List α} (ho : W.ownsRow base T c (.slice (some ⟨g, 0, none⟩) xs.length cap) xs.length (xs.flatMap f)) (hl : ys.length = xs.length) :
    (sortWorldK f c W g 0 n ys.toArray os).ownsRow base T c (.slice (some ⟨g, 0, none⟩) ys.length cap) ys.length (ys.flatMap f) := by
  rcases ho.2 with ⟨h0, -⟩ | ⟨g', cap', cur, hv, hg, hh, hle, hm, hs, ht⟩
  · simp at h0
  · injection hv with e1 e2 e3
    injection e1 with e1
    injection e1 with e1
    subst e1; subst e3
    have hcs : xs.length * c ≤ cur.size := by
      have := congrArg List.length ht
      rw [List.length_take, flat_length hc] at this
      simp at this; omega
    refine ⟨by rw [flat_length hc], .inr ⟨g, cap, _, rfl, hg, sorted_block _ hh, by omega, hm, by simpa [putCells] using hs, ?_⟩⟩
    apply List.ext_getElem?
    intro j
    by_cases hj : j < ys.length * c
    · rw [List.getElem?_take_of_lt hj, Array.getElem?_toList, flatK_at hc ys j hj]
      have h2 : j < cur.size := by rw [hl] at hj; omega
      simp only [putCells, Array.getElem?_mapIdx, Array.getElem?_eq_getElem h2, Option.map_some]
      rw [if_pos ⟨Nat.zero_le _, by rw [size_flatK]; simpa using hj⟩]
      rfl
    · rw [List.getElem?_take_eq_none (by omega), List.getElem?_eq_none (by rw [flat_length hc]; omega)]
end
end Go.Proofs.YtncandoohlndnaaGreat
namespace Go.Proofs.YtncandoohlndnaaGreat
open Go.ChangeShapes Go.WideShapes Go.ChangeAt Go.RowKit
open Go.Maps (Keyed KeysOf)
open Go.WideElems (Fit rd rg rd_key rd_val rg_of)
open Go.ChangeMaps (setBlock heap_setBlock_same heap_setBlock_other putKey delKey notKey eq_of_perm_sorted)

section
variable {α : Type} {P : Program} {k : TypeId} {R : Value → Option (DataW Unit × List MemPlace)} {kl : α → Lit} {vd : α → DataW Unit}

/-- The entries of these. -/
def entsOf (kl : α → Lit) (vd : α → DataW Unit) (xs : List α) : List (Lit × DataW Unit) := xs.map fun x => (kl x, vd x)
/-- What a map of these reads as. -/
def datOf (kl : α → Lit) (vd : α → DataW Unit) (xs : List α) : DataW Unit := .map ((entsOf kl vd xs).foldr DataW.insert [])
/-- No key twice. -/
def Apart (kl : α → Lit) (xs : List α) : Prop := xs.Pairwise fun x y => kl x ≠ kl y
/-- Block b is a map that holds these. -/
structure MapIs (P : Program) (k : TypeId) (R : Value → Option (DataW Unit × List MemPlace)) (kl : α → Lit) (vd : α → DataW Unit) (w : World) (b : Nat) (xs : List α) : Prop where
  apart : Apart kl xs
  keys : ∀ x ∈ xs, KeysOf P k (kl x)
  own : w.ownsMap P k R b xs.length (datOf kl vd xs)
/-- All but those under that key. -/
def without (kl : α → Lit) (l : Lit) (xs : List α) : List α := xs.filter fun y => !(kl y).sameKey l
/-- The one under that key. -/
def under (kl : α → Lit) (l : Lit) (xs : List α) : Option α := xs.find? fun y => (kl y).sameKey l

theorem same_iff (K : Keyed P k) {a b : Lit} (ha : KeysOf P k a) : a.sameKey b = true ↔ a = b :=
  ⟨WideAt.sameKey_eq, fun e => by obtain ⟨v, hv⟩ := ha; rw [← e]; exact WideAt.sameKey_self (K.key hv)⟩
theorem without_sub (l : Lit) (xs : List α) : (without kl l xs).Sublist xs := List.filter_sublist
theorem mem_without (K : Keyed P k) {l : Lit} {xs : List α} (hk : ∀ x ∈ xs, KeysOf P k (kl x)) {x : α} : x ∈ without kl l xs ↔ x ∈ xs ∧ kl x ≠ l := by
  unfold without
  rw [List.mem_filter]
  constructor
  · rintro ⟨h1, h2⟩
    refine ⟨h1, fun e => ?_⟩
    rw [(same_iff K (hk x h1)).2 e] at h2; cases h2
  · rintro ⟨h1, h2⟩
    refine ⟨h1, ?_⟩
    cases h : (kl x).sameKey l
    · rfl
    · exact absurd (WideAt.sameKey_eq h) h2
theorem without_none (K : Keyed P k) {l : Lit} {xs : List α} (hk : ∀ x ∈ xs, KeysOf P k (kl x)) (h : ∀ x ∈ xs, kl x ≠ l) : without kl l xs = xs := by
  unfold without
  rw [List.filter_eq_self]
  intro x hx
  exact (List.mem_filter.1 ((mem_without K hk).2 ⟨hx, h x hx⟩)).2
/-- One of them stands for all that it parts from. -/
theorem without_perm (K : Keyed P k) : ∀ {xs : List α}, Apart kl xs → (∀ x ∈ xs, KeysOf P k (kl x)) → ∀ {x : α}, x ∈ xs → xs.Perm (x :: without kl (kl x) xs)
  | [], _, _, x, hx => by cases hx
  | y :: r, ha, hk, x, hx => by
    obtain ⟨h1, h2⟩ := List.pairwise_cons.1 ha
    have hkr : ∀ z ∈ r, KeysOf P k (kl z) := fun z hz => hk z (by simp [hz])
    rcases List.mem_cons.1 hx with rfl | hx
    · have e : without kl (kl x) (x :: r) = r := by
        rw [show without kl (kl x) (x :: r) = without kl (kl x) r by unfold without; rw [List.filter_cons, if_neg (by rw [(same_iff K (hk x (by simp))).2 rfl]; decide)]]
        exact without_none K hkr (fun z hz e => h1 z hz e.symm)
      rw [e]
    · have hne : kl y ≠ kl x := h1 x hx
      have e : without kl (kl x) (y :: r) = y :: without kl (kl x) r := by
        unfold without
        rw [List.filter_cons, if_pos]
        cases h : (kl y).sameKey (kl x)
        · rfl
        · exact absurd (WideAt.sameKey_eq h) hne
      rw [e]
      exact ((without_perm K h2 hkr hx).cons y).trans (List.Perm.swap _ _ _)
theorem Apart.sub {xs ys : List α} (h : Apart kl xs) (hs : ys.Sublist xs) : Apart kl ys := List.Pairwise.sublist hs h
theorem Apart.perm {xs ys : List α} (h : Apart kl xs) (hp : xs.Perm ys) : Apart kl ys := (hp.pairwise_iff (fun {a b} (h : kl a ≠ kl b) => h.symm)).1 h

theorem apart_one : ∀ {xs : List α}, Apart kl xs → ∀ {x y : α}, x ∈ xs → y ∈ xs → kl x = kl y → x = y
  | [], _, x, _, hx, _, _ => by cases hx
  | z :: r, h, x, y, hx, hy, e => by
    obtain ⟨h1, h2⟩ := List.pairwise_cons.1 h
    rcases List.mem_cons.1 hx with rfl | hx'
    · rcases List.mem_cons.1 hy with rfl | hy'
      · rfl
      · exact absurd e (h1 y hy')
    · rcases List.mem_cons.1 hy with rfl | hy'
      · exact absurd e.symm (h1 x hx')
      · exact apart_one h2 hx' hy' e

theorem ents_apart {xs : List α} (h : Apart kl xs) : (entsOf kl vd xs).Pairwise (fun p q => p.1 ≠ q.1) := by
  unfold entsOf
  rw [List.pairwise_map]
  exact h
theorem ents_keys {xs : List α} (h : ∀ x ∈ xs, KeysOf P k (kl x)) : Maps.Keys (KeysOf P k) (entsOf kl vd xs) := by
  intro p hp
  obtain ⟨x, hx, rfl⟩ := List.mem_map.1 hp
  exact h x hx
theorem datOf_perm (K : Keyed P k) {xs ys : List α} (ha : Apart kl xs) (hk : ∀ x ∈ xs, KeysOf P k (kl x)) (hp : xs.Perm ys) : datOf kl vd xs = datOf kl vd ys := by
  have hpe : (entsOf kl vd xs).Perm (entsOf kl vd ys) := hp.map _
  unfold datOf
  rw [eq_of_perm_sorted ((sorted_perm _).trans (hpe.trans (sorted_perm _).symm)) (Maps.sorted_sorted K.one _ (ents_keys hk) (ents_apart ha)) (Maps.sorted_sorted K.one _ (ents_keys fun x hx => hk x (hp.mem_iff.2 hx)) (ents_apart (ha.perm hp)))]
theorem datOf_put (K : Keyed P k) {xs : List α} (ha : Apart kl xs) (hk : ∀ x ∈ xs, KeysOf P k (kl x)) {x : α} (hx : KeysOf P k (kl x)) : (datOf kl vd xs).put (kl x) (vd x) = datOf kl vd (x :: without kl (kl x) xs) := by
  unfold datOf
  rw [DataW.put_eq, Maps.sorted_put K.one (E' := entsOf kl vd (x :: without kl (kl x) xs)) hx (ents_keys hk) (ents_apart ha)]
  unfold entsOf without
  rw [List.filter_map]
  exact List.Perm.refl _
theorem datOf_del (K : Keyed P k) {xs : List α} (ha : Apart kl xs) (hk : ∀ x ∈ xs, KeysOf P k (kl x)) (l : Lit) : (datOf kl vd xs).del l = datOf kl vd (without kl l xs) := by
  unfold datOf
  rw [DataW.del_eq, Maps.sorted_del K.one (E' := entsOf kl vd (without kl l xs)) (ents_keys hk) (ents_apart ha)]
  unfold entsOf without
  rw [List.filter_map]
  exact List.Perm.refl _
theorem datOf_at {xs : List α} (ha : Apart kl xs) (l : Lit) (zd : DataW Unit) : (datOf kl vd xs).atKey l zd = ((under kl l xs).map vd).getD zd := by
  have hmem : ∀ {q : Lit × DataW Unit}, q ∈ (entsOf kl vd xs).foldr DataW.insert [] ↔ ∃ x ∈ xs, (kl x, vd x) = q := fun {q} => by rw [mem_sorted]; unfold entsOf; rw [List.mem_map]
  unfold datOf DataW.atKey under
  cases h1 : xs.find? fun y => (kl y).sameKey l with
  | none =>
    have h2 : ((entsOf kl vd xs).foldr DataW.insert []).find? (fun p => p.1.sameKey l) = none := by
      rw [List.find?_eq_none] at h1 ⊢
      intro q hq
      obtain ⟨x, hx, rfl⟩ := hmem.1 hq
      exact h1 x hx
    simp only [h2]; rfl
  | some y =>
    have hy : y ∈ xs := List.mem_of_find?_eq_some h1
    have hs : (kl y).sameKey l = true := List.find?_some (p := fun y => (kl y).sameKey l) h1
    cases h2 : ((entsOf kl vd xs).foldr DataW.insert []).find? (fun p => p.1.sameKey l) with
    | none =>
      rw [List.find?_eq_none] at h2
      exact absurd hs (h2 (kl y, vd y) (hmem.2 ⟨y, hy, rfl⟩))
    | some q =>
      obtain ⟨x, hx, rfl⟩ := hmem.1 (List.mem_of_find?_eq_some h2)
      have hq := List.find?_some h2
      have e : kl x = kl y := (WideAt.sameKey_eq (by simpa using hq)).trans (WideAt.sameKey_eq hs).symm
      have : x = y := apart_one ha hx hy e
      subst this
      simp only [h2]; rfl
theorem size_datOf (xs : List α) : Maps.size (datOf kl vd xs) = xs.length := by simp [Maps.size, datOf, length_sorted, entsOf]
theorem has_datOf (K : Keyed P k) {xs : List α} (hk : ∀ x ∈ xs, KeysOf P k (kl x)) {x : α} (hx : x ∈ xs) : Maps.has (datOf kl vd xs) (kl x) = true :=
  List.any_eq_true.2 ⟨(kl x, vd x), mem_sorted.2 (List.mem_map.2 ⟨x, hx, rfl⟩), (same_iff K (hk x hx)).2 rfl⟩

variable {w : World} {b : Nat} {xs : List α}
theorem MapIs.lt (h : MapIs P k R kl vd w b xs) : b < w.heap.size := h.own.lt
theorem MapIs.made (w : World) : MapIs P k R kl vd (w.alloc (.map #[] 0)) w.heap.size [] :=
  ⟨List.Pairwise.nil, by simp, World.ownsMap_made w P k R⟩
theorem MapIs.perm (K : Keyed P k) {ys : List α} (h : MapIs P k R kl vd w b xs) (hp : xs.Perm ys) : MapIs P k R kl vd w b ys :=
  ⟨h.apart.perm hp, fun x hx => h.keys x (hp.mem_iff.2 hx), by rw [← datOf_perm K h.apart h.keys hp, ← hp.length_eq]; exact h.own⟩
theorem MapIs.block {w' : World} (h : MapIs P k R kl vd w b xs) (hb : w'.heap[b]? = w.heap[b]?) : MapIs P k R kl vd w' b xs := by
  refine ⟨h.apart, h.keys, ?_⟩
  obtain ⟨es, clock, h1, h2⟩ := h.own
  exact ⟨es, clock, hb.trans h1, h2⟩
theorem MapIs.below {w' : World} {B : Nat} (h : MapIs P k R kl vd w b xs) (hb : Below B w w') (hlt : b < B) : MapIs P k R kl vd w' b xs := h.block (hb.block b hlt)
theorem MapIs.grown {w' : World} {row : Option Nat} (h : MapIs P k R kl vd w b xs) (hg : w.grownBy w' row) (hne : some b ≠ row) : MapIs P k R kl vd w' b xs := h.block (hg.block b h.lt hne)
/-- So many as they are. -/
theorem owns_exact {n : Nat} (h : w.ownsMap P k R b n (datOf kl vd xs)) : w.ownsMap P k R b xs.length (datOf kl vd xs) := by
  obtain ⟨es, clock, h1, h2, h3, h4⟩ := h
  refine ⟨es, clock, h1, h2, ?_, h4⟩
  have := congrArg Maps.size h4
  rw [size_datOf] at this
  simp [Maps.size, length_sorted] at this
  omega

variable {t e : TypeId}
/-- m[k] = v -/
theorem MapIs.store (K : Keyed P k) (ht : P.underlying t = some (.map k e)) (h : MapIs P k R kl vd w b xs) (hn : xs.length < maxLen) {x : α} {key val : Value} {ps : List MemPlace} (hkey : keyOf P k key = some (kl x)) (hv : R val = some (vd x, ps)) :
    ∃ w', (Instr.mapUpdate t (.map (some b)) key val).run P w = .ok () w' ∧ MapIs P k R kl vd w' b (x :: without kl (kl x) xs) ∧ w.mapTurned w' b := by
  obtain ⟨w', hr, ho, ht'⟩ := h.own.store K ht hn hkey hv
  refine ⟨w', hr, ⟨?_, ?_, ?_⟩, ht'⟩
  · exact List.pairwise_cons.2 ⟨fun y hy => (((mem_without K h.keys).1 hy).2).symm, h.apart.sub (without_sub _ _)⟩
  · intro y hy
    rcases List.mem_cons.1 hy with rfl | hy
    · exact ⟨_, hkey⟩
    · exact h.keys y ((without_sub _ _).subset hy)
  · rw [datOf_put K h.apart h.keys ⟨_, hkey⟩] at ho
    exact owns_exact ho
/-- delete(m, k) -/
theorem MapIs.drop (K : Keyed P k) (ht : P.underlying t = some (.map k e)) (h : MapIs P k R kl vd w b xs) {l : Lit} {key : Value} (hkey : keyOf P k key = some l) (ty : TypeId) :
    ∃ w', (Builtin.delete_ #[t, k] ty #[.map (some b), key]).run P w = .ok (.tuple #[]) w' ∧ MapIs P k R kl vd w' b (without kl l xs) ∧ w.mapTurned w' b := by
  obtain ⟨w', hr, ho, ht'⟩ := h.own.drop K ht hkey ty
  refine ⟨w', hr, ⟨h.apart.sub (without_sub _ _), fun y hy => h.keys y ((without_sub _ _).subset hy), ?_⟩, ht'⟩
  rw [datOf_del K h.apart h.keys] at ho
  exact owns_exact ho
/-- m[k] -/
theorem MapIs.look (K : Keyed P k) (ht : P.underlying t = some (.map k e)) (h : MapIs P k R kl vd w b xs) {z : Value} (hz : (zeroValue e).run P w = .ok z w) {zd : DataW Unit} {zp : List MemPlace} (hzd : R z = some (zd, zp)) {l : Lit} {key : Value} (hkey : keyOf P k key = some l) :
    ∃ v ps, (Instr.lookup t (.map (some b)) key false).run P w = .ok v w ∧ R v = some (((under kl l xs).map vd).getD zd, ps) := by
  obtain ⟨v, ps, hr, hv⟩ := h.own.lookup K ht hz hzd hkey
  rw [datOf_at h.apart] at hv
  exact ⟨v, ps, hr, hv⟩
/-- len(m) -/
theorem MapIs.len (ht : P.underlying t = some (.map k e)) (h : MapIs P k R kl vd w b xs) (ty : TypeId) : (Builtin.len_ #[t] ty #[.map (some b)]).run P w = .ok (.int .i64 xs.length) w := by
  rw [h.own.len ht ty, size_datOf]
/-- clear(m) -/
theorem MapIs.clear (ht : P.underlying t = some (.map k e)) (h : MapIs P k R kl vd w b xs) (ty : TypeId) :
    ∃ w', (Builtin.clear_ #[t] ty #[.map (some b)]).run P w = .ok (.tuple #[]) w' ∧ MapIs P k R kl vd w' b [] ∧ w.mapTurned w' b := by
  obtain ⟨es, clock, hb, F, -⟩ := h.own
  refine ⟨setBlock w b (.map #[] clock), ?_, ⟨List.Pairwise.nil, by simp, ⟨#[], clock, heap_setBlock_same hb _, ⟨by simp, ?_, by simp⟩, Nat.le_refl _, rfl⟩⟩, ⟨es, clock, #[], clock, hb, rfl⟩⟩
  · simp [Builtin.clear_, run_underlying ht, MapKept.run_getObj_map hb, MapKept.run_setObj_map _ hb, Result.andThen, setBlock]
  · exact MapKept.stamped_empty _

/-- A range over it is under way: these are still to come. -/
structure RangeIs (P : Program) (k : TypeId) (R : Value → Option (DataW Unit × List MemPlace)) (kl : α → Lit) (vd : α → DataW Unit) (w : World) (b r : Nat) (xs todo : List α) : Prop where
  apart : Apart kl xs
  keys : ∀ x ∈ xs, KeysOf P k (kl x)
  under : ∃ left cnt, w.ranges P k R b r xs.length (datOf kl vd xs) left cnt ∧ todo = xs.filter fun x => left (kl x)
variable {r : Nat} {todo : List α}
theorem RangeIs.map (h : RangeIs P k R kl vd w b r xs todo) : MapIs P k R kl vd w b xs := by
  obtain ⟨left, cnt, hr, -⟩ := h.under
  exact ⟨h.apart, h.keys, hr.owns⟩
theorem RangeIs.ne (h : RangeIs P k R kl vd w b r xs todo) : r ≠ b := by
  obtain ⟨left, cnt, hr, -⟩ := h.under
  exact hr.ne
theorem RangeIs.lt (h : RangeIs P k R kl vd w b r xs todo) : r < w.heap.size := by
  obtain ⟨left, cnt, hr, -⟩ := h.under
  exact hr.lt
theorem RangeIs.sub (h : RangeIs P k R kl vd w b r xs todo) : todo.Sublist xs := by
  obtain ⟨left, cnt, -, e⟩ := h.under
  rw [e]; exact List.filter_sublist
/-- One that has come, and those that are still to come. -/
theorem RangeIs.part (K : Keyed P k) (h : RangeIs P k R kl vd w b r xs todo) {x : α} (hx : x ∈ todo) : todo.Perm (x :: without kl (kl x) todo) :=
  without_perm K (h.apart.sub h.sub) (fun y hy => h.keys y (h.sub.subset hy)) hx
theorem RangeIs.kept {w' : World} {row : Option Nat} (h : RangeIs P k R kl vd w b r xs todo) (hg : w.grownBy w' row) (hb' : some b ≠ row) (hr' : some r ≠ row) : RangeIs P k R kl vd w' b r xs todo := by
  obtain ⟨left, cnt, hr, e⟩ := h.under
  exact ⟨h.apart, h.keys, left, cnt, hr.kept hg hb' hr', e⟩
theorem RangeIs.left_kept {w' : World} {row : Option Nat} (h : RangeIs P k R kl vd w b r xs todo) (hg : w.grownBy w' row) (hb' : some b ≠ row) (hr' : some r ≠ row) : w'.rangeLeft b r = w.rangeLeft b r := by
  obtain ⟨left, cnt, hr, -⟩ := h.under
  rw [hr.left_eq, (hr.kept hg hb' hr').left_eq]
/-- range m -/
theorem MapIs.range (K : Keyed P k) (ht : P.underlying t = some (.map k e)) (h : MapIs P k R kl vd w b xs) :
    ∃ w', (Instr.range t (.map (some b))).run P w = .ok (.pointer (some ⟨w.heap.size, 0, none⟩)) w' ∧ RangeIs P k R kl vd w' b w.heap.size xs xs ∧ w.grownBy w' none ∧ w'.heap.size = w.heap.size + 1 := by
  obtain ⟨w', hr, hg, h1, h2⟩ := h.own.range K ht
  refine ⟨w', hr, ⟨h.apart, h.keys, _, _, hg, ?_⟩, h1, h2⟩
  exact (List.filter_eq_self.2 fun x hx => has_datOf K h.keys hx).symm
theorem filter_without (left : Lit → Bool) (l : Lit) (xs : List α) : xs.filter (fun x => left (kl x) && !(kl x).sameKey l) = without kl l (xs.filter fun x => left (kl x)) := by
  unfold without
  rw [List.filter_filter]
  congr 1
  funext x
  exact Bool.and_comm _ _
/-- The next one. -/
theorem RangeIs.next (K : Keyed P k) (h : RangeIs P k R kl vd w b r xs todo) (ty : TypeId) :
    (todo = [] ∧ (Instr.next (.pointer (some ⟨r, 0, none⟩)) false ty).run P w = .ok (.tuple #[.bool false]) w) ∨
    ∃ x key v ps w', x ∈ todo ∧ x ∈ xs ∧ keyOf P k key = some (kl x) ∧ R v = some (vd x, ps) ∧ (Instr.next (.pointer (some ⟨r, 0, none⟩)) false ty).run P w = .ok (.tuple #[.bool true, key, v]) w' ∧
      RangeIs P k R kl vd w' b r xs (without kl (kl x) todo) ∧ w'.rangeLeft b r < w.rangeLeft b r ∧ w.grownBy w' (some r) ∧ w'.heap.size = w.heap.size ∧ (Instr.entry (.pointer (some ⟨r, 0, none⟩))).run P w' = .ok (.tuple #[key, v]) w' := by
  obtain ⟨left, cnt, hr, et⟩ := h.under
  rcases hr.next K ty with ⟨-, hl, hrun⟩ | ⟨key, v, l, y, w', cnt', hkey, hlk, hv, hat, hrun, hr', hlt, hg, hs, hen⟩
  · refine .inl ⟨?_, hrun⟩
    rw [et, List.filter_eq_nil_iff]
    intro x _
    rw [hl]; decide
  · obtain ⟨x, hx, rfl⟩ : ∃ x ∈ xs, kl x = l := by
      obtain ⟨es, clock, since, seen, c0, -, F, -, hD, -, -, -, -, hl2, -⟩ := hr
      obtain ⟨z, hz, ez⟩ := hl2 l hlk
      have hm : rg P k R z ∈ (es.toList.map (rg P k R)).foldr DataW.insert [] := mem_sorted.2 (List.mem_map.2 ⟨z, hz, rfl⟩)
      have hD' : (es.toList.map (rg P k R)).foldr DataW.insert [] = (entsOf kl vd xs).foldr DataW.insert [] := by unfold datOf at hD; injection hD with hD; exact hD.symm
      rw [hD', mem_sorted] at hm
      obtain ⟨x, hx, ex⟩ := List.mem_map.1 hm
      exact ⟨x, hx, by rw [← ez, ← ex]⟩
    have hy : y.1 = vd x := by
      have := hat .nil
      rw [datOf_at h.apart] at this
      have hu : Go.Proofs.YtncandoohlndnaaGreat.under kl (kl x) xs = some x := by
        unfold Go.Proofs.YtncandoohlndnaaGreat.under
        cases hf : xs.find? fun y => (kl y).sameKey (kl x) with
        | none => rw [List.find?_eq_none] at hf; exact absurd ((same_iff K (h.keys x hx)).2 rfl) (hf x hx)
        | some z => rw [apart_one h.apart (List.mem_of_find?_eq_some hf) hx (WideAt.sameKey_eq (List.find?_some (p := fun y => (kl y).sameKey (kl x)) hf))]
      rw [hu] at this
      exact this.symm
    obtain ⟨yd, yp⟩ := y
    simp only at hy
    subst hy
    refine .inr ⟨x, key, v, yp, w', ?_, hx, hkey, hv, hrun, ⟨h.apart, h.keys, _, cnt', hr', ?_⟩, ?_, hg, hs, hen⟩
    · rw [et]; exact List.mem_filter.2 ⟨hx, hlk⟩
    · rw [et]; exact (filter_without left (kl x) xs).symm
    · rw [hr'.left_eq, hr.left_eq]; exact hlt
/-- delete(m, k), in the round. -/
theorem RangeIs.drop (K : Keyed P k) (ht : P.underlying t = some (.map k e)) (h : RangeIs P k R kl vd w b r xs todo) {l : Lit} {key : Value} (hkey : keyOf P k key = some l) (ty : TypeId) :
    ∃ w', (Builtin.delete_ #[t, k] ty #[.map (some b), key]).run P w = .ok (.tuple #[]) w' ∧ RangeIs P k R kl vd w' b r (without kl l xs) (without kl l todo) ∧ w'.rangeLeft b r ≤ w.rangeLeft b r ∧ w.mapTurned w' b := by
  obtain ⟨left, cnt, hr, et⟩ := h.under
  obtain ⟨w', cnt', hrun, hr', hle, htn⟩ := hr.drop K ht hkey ty
  refine ⟨w', hrun, ⟨h.apart.sub (without_sub _ _), fun y hy => h.keys y ((without_sub _ _).subset hy), (fun z => left z && !z.sameKey l), cnt', ?_, ?_⟩, ?_, htn⟩
  · rw [datOf_del K h.apart h.keys] at hr'
    obtain ⟨es, clock, since, seen, c0, h1, h2, h3, h4, h5⟩ := hr'
    refine ⟨es, clock, since, seen, c0, h1, h2, ?_, h4, h5⟩
    have := congrArg Maps.size h4
    rw [size_datOf] at this
    simp [Maps.size, length_sorted] at this
    omega
  · rw [filter_without, et]
    unfold without
    rw [List.filter_filter, List.filter_filter, List.filter_filter]
    congr 1
    funext x
    cases left (kl x) <;> cases (kl x).sameKey l <;> rfl
  · rw [hr'.left_eq, hr.left_eq]; exact hle
end
end Go.Proofs.YtncandoohlndnaaGreat
namespace Go.Proofs.YtncandoohlndnaaGreat
open Go.ChangeShapes Go.WideShapes Go.ChangeAt Go.RowKit
open Go.Maps (Keyed KeysOf)

theorem laidMap : laidOutB Tryz.prog = true := by kernel_rfl

theorem keyK : Keyed Tryz.prog 144 := Keyed.of_law (deep_law_laid laidMap (m := 2) (by omega) (of_decide_eq_true (by kernel_rfl)) (by kernel_rfl) (by kernel_rfl))

theorem keyCells : Tryz.prog.cellsOf 144 = 2 := by kernel_rfl

theorem keyType5 : Tryz.prog.keyType 144 = true := by kernel_rfl

theorem keyCells9 : Tryz.prog.cellsOf 9 = 1 := by kernel_rfl

/-- The key as a value. -/
abbrev keyV (who mill : ByteArray) : Value := .agg #[.string who, .string mill]

noncomputable def keyAt (who mill : ByteArray) : Lit := (keyOf Tryz.prog 144 (keyV who mill)).getD (.bool false)
noncomputable def keyL (p : Par) : Lit := keyAt p.who p.mill

theorem keyLits_pair (n : Nat) {who mill : ByteArray} (h1 : who.size ≤ maxLen) (h2 : mill.size ≤ maxLen) : Tryz.prog.keyLits (n + 2) 144 [.string who, .string mill] = some [.string who.data.toList, .string mill.data.toList] := by
  simp [Program.keyLits, Tryz.underlying144, Tryz.underlying9, keyCells, keyCells9, h1, h2]

theorem keyOf_pair {who mill : ByteArray} (h1 : who.size ≤ maxLen) (h2 : mill.size ≤ maxLen) : keyOf Tryz.prog 144 (keyV who mill) = some (keyAt who mill) := by
  have : keyOf Tryz.prog 144 (keyV who mill) = some (.string (keyBytes [.string who.data.toList, .string mill.data.toList])) := by
    have hk : Tryz.prog.keyLits (Tryz.prog.types.size + 1) 144 [.string who, .string mill] = some [.string who.data.toList, .string mill.data.toList] := by
      obtain ⟨n, hn⟩ : ∃ n, Tryz.prog.types.size + 1 = n + 2 := ⟨Tryz.prog.types.size - 1, by have : 0 < Tryz.prog.types.size := of_decide_eq_true (by kernel_rfl); omega⟩
      rw [hn]; exact keyLits_pair n h1 h2
    unfold keyOf
    rw [Tryz.underlying144]
    simp only [keyType5, Value.formed, Tryz.underlying144, Value.cells, keyCells]
    rw [hk]
    rfl
  unfold keyAt
  rw [this]; rfl
theorem keyOf_par {p : Par} (h : p.who.size ≤ maxLen ∧ p.mill.size ≤ maxLen) : keyOf Tryz.prog 144 (keyV p.who p.mill) = some (keyL p) := keyOf_pair h.1 h.2
theorem keyAt_inj {a b c d : ByteArray} (h1 : a.size ≤ maxLen) (h2 : b.size ≤ maxLen) (h3 : c.size ≤ maxLen) (h4 : d.size ≤ maxLen) (h : keyAt a b = keyAt c d) : a = c ∧ b = d := by
  have := keyK.inj (keyOf_pair h1 h2) ((keyOf_pair h3 h4).trans (congrArg some h.symm))
  injection this with this
  injection this with this
  injection this with e1 this
  injection this with e2 _
  injection e1 with e1
  injection e2 with e2
  exact ⟨e1, e2⟩

/-- The shares as an element, whatever they are. -/
def sharesR (v : Value) : Option (DataW Unit × List MemPlace) :=
  match v with
  | .int .i64 n => some (.lit (.int .i64 n), [])
  | _ => none
def sharesD (p : Par) : DataW Unit := .lit (.int .i64 p.shares)
theorem sharesR_inv {v : Value} {n : Int} {ps : List MemPlace} (h : sharesR v = some (.lit (.int .i64 n), ps)) : v = .int .i64 n := by
  unfold sharesR at h
  split at h
  · injection h with h; injection h with h; injection h with h; injection h with _ h; rw [h]
  · cases h

/-- Block b is a map of these parts. -/
abbrev Holds5 (w : World) (b : Nat) (ps : List Par) : Prop := MapIs Tryz.prog 144 sharesR keyL sharesD w b ps
abbrev Ranges5 (w : World) (b r : Nat) (ps todo : List Par) : Prop := RangeIs Tryz.prog 144 sharesR keyL sharesD w b r ps todo
end Go.Proofs.YtncandoohlndnaaGreat
namespace Go.Proofs.YtncandoohlndnaaGreat
open Go.ChangeShapes Go.WideShapes Go.ChangeAt Go.RowKit
open Go.Shelf Go.Lib
open Go.Sort (SWO PermIn SortedIn)

theorem bytes_same {a b : ByteArray} (h : a.toList = b.toList) : a = b := WideShapes.bytes_inj (by rw [ByteArray.toList_eq, ByteArray.toList_eq] at h; exact h)
theorem bytes_cases (a b : List UInt8) : a < b ∨ a = b ∨ b < a := by
  by_cases h : a < b
  · exact .inl h
  · by_cases e : a = b
    · exact .inr (.inl e)
    · exact .inr (.inr (bytes_gt h e))
theorem cmpS_cases (a b : ByteArray) : (a.toList < b.toList ∧ cmpS a b = -1) ∨ (a.toList = b.toList ∧ cmpS a b = 0) ∨ (b.toList < a.toList ∧ cmpS a b = 1) := by
  rcases bytes_cases a.toList b.toList with h | h | h
  · exact .inl ⟨h, cmpS_lt (by rw [bytesLess_lt, decide_eq_true_eq]; exact h)⟩
  · exact .inr (.inl ⟨h, cmpS_same (by simpa using h)⟩)
  · refine .inr (.inr ⟨h, cmpS_gt ?_ (by rw [bytesLess_lt, decide_eq_true_eq]; exact h)⟩)
    rw [bytesLess_lt, decide_eq_false_iff_not]
    exact fun h' => List.lt_irrefl _ (List.lt_trans h h')
theorem lt_cmp (p q : Par) : ltOf cmpP p q = lessB p q.who q.mill := by
  have h1 : (ltOf cmpP p q = true) ↔ cmpP p q < 0 := by simp [ltOf]
  have h2 : (lessB p q.who q.mill = true) ↔ cmpP p q < 0 := by
    rw [less_iff]
    unfold cmpP orI
    have nn : ∀ {x y : List UInt8}, x < y → ¬ x = y := fun h e => List.lt_irrefl _ (e ▸ h)
    have na : ∀ {x y : List UInt8}, x < y → ¬ y < x := fun h h' => List.lt_irrefl _ (List.lt_trans h h')
    rcases cmpS_cases p.who q.who with ⟨h, e⟩ | ⟨h, e⟩ | ⟨h, e⟩ <;> rcases cmpS_cases p.mill q.mill with ⟨k, e'⟩ | ⟨k, e'⟩ | ⟨k, e'⟩ <;> rw [e, e']
    all_goals simp [h, k, nn, na, List.lt_irrefl]
    all_goals first | exact fun e => absurd e.symm (nn h) | skip
  exact Bool.eq_iff_iff.2 (h1.trans h2.symm)
theorem key_cases (p q : Par) : KeyLt p q ∨ (p.who = q.who ∧ p.mill = q.mill) ∨ KeyLt q p := by
  unfold KeyLt
  rw [less_iff, less_iff]
  rcases bytes_cases p.who.toList q.who.toList with h | h | h
  · exact .inl (.inl h)
  · rcases bytes_cases p.mill.toList q.mill.toList with k | k | k
    · exact .inl (.inr ⟨h, k⟩)
    · exact .inr (.inl ⟨bytes_same h, bytes_same k⟩)
    · exact .inr (.inr (.inr ⟨h.symm, k⟩))
  · exact .inr (.inr (.inl h))
theorem KeyLt.irrefl (p : Par) : ¬ KeyLt p p := by
  unfold KeyLt
  rw [less_iff]
  rintro (h | ⟨_, h⟩) <;> exact List.lt_irrefl _ h
theorem KeyLt.of_key {p q p' q' : Par} (h : KeyLt p q) (h1 : p'.who = p.who ∧ p'.mill = p.mill) (h2 : q'.who = q.who ∧ q'.mill = q.mill) : KeyLt p' q' := by
  unfold KeyLt at *
  rw [less_iff] at *
  rw [h1.1, h1.2, h2.1, h2.2]; exact h
theorem swoP : SWO (ltOf cmpP) where
  irrefl x := by
    rw [lt_cmp]
    cases h : lessB x x.who x.mill
    · rfl
    · exact absurd h (KeyLt.irrefl x)
  trans x y z h1 h2 := by
    rw [lt_cmp] at *
    exact KeyLt.trans h1 h2
  ntrans x y z h1 h2 := by
    rw [lt_cmp] at *
    cases h : lessB x z.who z.mill
    · rfl
    · exfalso
      rcases key_cases x y with k | k | k
      · rw [show lessB x y.who y.mill = true from k] at h1; cases h1
      · rw [show lessB y z.who z.mill = true from KeyLt.of_key (show KeyLt x z from h) ⟨k.1.symm, k.2.symm⟩ ⟨rfl, rfl⟩] at h2; cases h2
      · rw [show lessB y z.who z.mill = true from KeyLt.trans k h] at h2; cases h2

/-- Two lists that rise and hold the same are one. -/
theorem up_one {xs ys : List Par} (hp : xs.Perm ys) (hx : xs.Pairwise KeyLt) (hy : ys.Pairwise KeyLt) : xs = ys := by
  refine hp.eq_of_pairwise ?_ hx hy
  intro a b _ _ h1 h2
  exact absurd (h1.trans h2) (KeyLt.irrefl a)
/-- What rises has no key twice. -/
theorem up_apart {xs : List Par} (hs : PSized xs) (hx : xs.Pairwise KeyLt) : Apart keyL xs := by
  rw [psized_mem] at hs
  refine List.Pairwise.imp_of_mem ?_ hx
  intro a b ha hb h e
  obtain ⟨e1, e2⟩ := keyAt_inj (hs a ha).1 (hs a ha).2 (hs b hb).1 (hs b hb).2 e
  exact KeyLt.irrefl b (KeyLt.of_key h ⟨e1.symm, e2.symm⟩ ⟨rfl, rfl⟩)
theorem key_same {p q : Par} (h : p.who = q.who ∧ p.mill = q.mill) : keyL p = keyL q := by unfold keyL; rw [h.1, h.2]

instance : Inhabited Par := ⟨par0⟩

theorem sorts_up {ps out : List Par} (ha : Apart keyL ps) (hp : PermIn 0 ps.toArray.size ps.toArray out.toArray) (hs : SortedIn (ltOf cmpP) 0 ps.toArray.size out.toArray) : out.Perm ps ∧ out.Pairwise KeyLt := by
  have hl : out.length = ps.length := by simpa using hp.1
  have hperm : out.Perm ps := by
    have := hp.2.2
    rw [List.extract_toArray, List.extract_toArray] at this
    simp only [List.size_toArray, List.extract_eq_take_drop, List.drop_zero, Nat.sub_zero] at this
    rw [List.take_of_length_le (by omega), List.take_of_length_le (by omega)] at this
    exact this
  refine ⟨hperm, ?_⟩
  have ha' := ha.perm hperm.symm
  rw [List.pairwise_iff_getElem]
  intro i j hi hj hij
  have h1 := hs i j (Nat.zero_le _) hij (by simpa [← hl] using hj)
  have h2 : lessB out[j] out[i].who out[i].mill = false := by
    rw [lt_cmp] at h1
    simpa [hi, hj] using h1
  rcases key_cases out[i] out[j] with k | k | k
  · exact k
  · exact absurd (key_same k) ((List.pairwise_iff_getElem.1 ha') i j hi hj hij)
  · rw [show lessB out[j] out[i].who out[i].mill = true from k] at h2; cases h2

theorem entersBy : ∀ args w, (callFunc 115 args).run Tryz.prog w = .ok (.enter 115 args) w := enters_of Tryz.func115 (by kernel_rfl) rfl

set_option maxHeartbeats 2000000 in
set_option maxRecDepth 100000 in
theorem iSort_any {W : World} {base g cap : Nat} {ps : List Par} (ho : W.ownsRow base 83 3 (.slice (some ⟨g, 0, none⟩) ps.length cap) ps.length (ps.flatMap Par.cs)) (ha : Apart keyL ps) (hl : ps.length ≤ 1048577) :
    Calls Tryz.prog 114 #[.slice (some ⟨g, 0, none⟩) ps.length cap, .func (.func 115) #[] #[]] W fun e w' => e = .returned (.tuple #[]) ∧ ∃ out : List Par, out.Perm ps ∧ out.Pairwise KeyLt ∧ w'.ownsRow base 83 3 (.slice (some ⟨g, 0, none⟩) out.length cap) out.length (out.flatMap Par.cs) ∧ W.grownBy w' (some g) := by
  have hcon := AnyQ.slices_SortFunc sortPart 3 Tryz.isAgg83 Tryz.sizeOf83 Par.cs Par.len Par.one cmpP swoP 115 #[] g 0 cap ps.toArray W entersBy (fun _ _ _ _ x y => iBy_any x y _) (row_holds Par.len ho) (own_some ho).2.2.2.2 (by simp; omega)
  change Calls Tryz.prog 114 _ _ _ at hcon
  simp only [List.size_toArray] at hcon
  refine hcon.mono ?_
  rintro e w' ⟨rfl, d', n, os, hp, hs, rfl⟩
  obtain ⟨out⟩ := d'
  obtain ⟨h1, h2⟩ := sorts_up ha (by simpa using hp) (by simpa using hs)
  exact ⟨rfl, out, h1, h2, sorted_row Par.len ho h1.length_eq, sorted_grown _⟩
end Go.Proofs.YtncandoohlndnaaGreat
namespace Go.Proofs.YtncandoohlndnaaGreat
open Go.ChangeShapes Go.WideShapes Go.ChangeAt Go.RowKit

theorem iKey_any (p : Par) (w : World) :
    Calls Tryz.prog 107 #[.agg #[.string p.who, .string p.mill, .int .i64 p.shares]] w fun e w' => e = .returned (.agg #[.string p.who, .string p.mill]) ∧ Below w.heap.size w w' := by
  go_enter Tryz.func107, Tryz.ntmps107
  go_wp2
  refine bodyPost_ret (v := .agg #[.string p.who, .string p.mill]) (by simp [results, Tryz.results107, go_sem]) rfl ⟨rfl, ?_⟩
  exact below_trans (below_new _ _) (below_new _ _)

theorem in_one (n : Int) : inB 1 1000000000 n = (decide (1 ≤ n) && inB 0 1000000000 n) := by
  unfold inB
  rw [← Bool.decide_and]
  congr 1
  apply propext
  omega

set_option maxHeartbeats 1000000 in
set_option maxRecDepth 100000 in
theorem pright_any (p : Par) (w : World) (hs : p.who.size ≤ maxLen ∧ p.mill.size ≤ maxLen) :
    Calls Tryz.prog 110 #[.agg #[.string p.who, .string p.mill, .int .i64 p.shares]] w fun e w' => e = .returned (.bool (partB p)) ∧ Below w.heap.size w w' := by
  have HN : Hid (partB p = (nameB p.who && (nameB p.mill && (decide (1 ≤ p.shares) && inB 0 1000000000 p.shares)))) := by unfold partB; rw [in_one]; rfl
  have HS := Lib.hid hs
  clear hs
  cases h1 : nameB p.who
  · go_enter Tryz.func110, Tryz.ntmps110
    go_wp2_with (go_at_call 95; with_reducible refine (iNameOk_any p.who _ HS.out.1).mono ?_; rintro e w' ⟨rfl, rfl⟩; rw [h1])
    go_ret
    exact ⟨by rw [HN.out, h1]; rfl, below_new _ _⟩
  cases h2 : nameB p.mill
  · go_enter Tryz.func110, Tryz.ntmps110
    go_wp2_with (go_at_call 95; first | (with_reducible refine (iNameOk_any p.who _ HS.out.1).mono ?_; rintro e w' ⟨rfl, rfl⟩; rw [h1]) | (with_reducible refine (iNameOk_any p.mill _ HS.out.2).mono ?_; rintro e w' ⟨rfl, rfl⟩; rw [h2]))
    go_ret
    exact ⟨by rw [HN.out, h1, h2]; rfl, below_new _ _⟩
  by_cases h3 : 1 ≤ p.shares
  · go_enter Tryz.func110, Tryz.ntmps110
    go_wp2_with (first | (go_at_call 95; first | (with_reducible refine (iNameOk_any p.who _ HS.out.1).mono ?_; rintro e w' ⟨rfl, rfl⟩; rw [h1]) | (with_reducible refine (iNameOk_any p.mill _ HS.out.2).mono ?_; rintro e w' ⟨rfl, rfl⟩; rw [h2])) | (go_at_call 113; refine (iSharesOk_any _ _).mono ?_; rintro e w' ⟨rfl, rfl⟩))
    go_ret
    exact ⟨by rw [HN.out, h1, h2, decide_eq_true h3]; simp, below_new _ _⟩
  · go_enter Tryz.func110, Tryz.ntmps110
    go_wp2_with (first | (go_at_call 95; first | (with_reducible refine (iNameOk_any p.who _ HS.out.1).mono ?_; rintro e w' ⟨rfl, rfl⟩; rw [h1]) | (with_reducible refine (iNameOk_any p.mill _ HS.out.2).mono ?_; rintro e w' ⟨rfl, rfl⟩; rw [h2])))
    go_ret
    exact ⟨by rw [HN.out, h1, h2, decide_eq_false (by omega)]; simp, below_new _ _⟩

/-- A list of the call's own: its row is known whole. -/
def ResRow (out : List Par) (w : World) (e : Ending) (w' : World) : Prop :=
  ∃ g cap, e = .returned (.slice (some ⟨g, 0, none⟩) out.length cap) ∧ w'.ownsRow w.heap.size 83 3 (.slice (some ⟨g, 0, none⟩) out.length cap) out.length (out.flatMap Par.cs) ∧ Below w.heap.size w w'

theorem key_at {p : Par} {key : Value} (hs : p.who.size ≤ maxLen ∧ p.mill.size ≤ maxLen) (h : keyOf Tryz.prog 144 key = some (keyL p)) : key = .agg #[.string p.who, .string p.mill] :=
  keyK.inj h (keyOf_par hs)
theorem range_row {w : World} {b r base : Nat} {ps todo : List Par} {T : TypeId} {c : Nat} {v : Value} {n : Nat} {xs : List Value} (h : Ranges5 w b r ps todo) (ho : w.ownsRow base T c v n xs) : ∀ g, v.ownBlock = some g → some g ≠ some r := by
  obtain ⟨left, cnt, hr, -⟩ := h.under
  obtain ⟨_, _, _, _, _, _, _, _, _, hit, _⟩ := hr
  rcases ho.2 with ⟨rfl, _⟩ | ⟨g, cap, cur, rfl, _, hb, _⟩
  · intro g hg; simp [Value.ownBlock] at hg
  · intro g' hg e
    have e1 : g = g' := by simpa [Value.ownBlock] using hg
    injection e with e
    subst e1; subst e
    rw [hit] at hb
    cases hb

/-- The loop's word. -/
def PartsRel (w : World) (b r : Nat) (ps : List Par) (v : Value) (wr : World) : Prop :=
  ∃ (acc todo : List Par) (g cap : Nat), v = .slice (some ⟨g, 0, none⟩) acc.length cap ∧ wr.ownsRow w.heap.size 83 3 (.slice (some ⟨g, 0, none⟩) acc.length cap) acc.length (acc.flatMap Par.cs) ∧ Ranges5 wr b r ps todo ∧ (acc ++ todo).Perm ps ∧ Below w.heap.size w wr

set_option maxHeartbeats 4000000 in
set_option maxRecDepth 100000 in
theorem iParts_any {w : World} {b : Nat} {ps : List Par} (h : Holds5 w b ps) (hs : PSized ps) (hl : ps.length ≤ 1048576) :
    Calls Tryz.prog 112 #[.map (some b)] w fun e w' => ∃ out : List Par, out.Perm ps ∧ out.Pairwise KeyLt ∧ ResRow out w e w' := by
  obtain ⟨i0, hi, hz0, hz1, hz2⟩ := info_parts info_Part
  have hlen := h.len Tryz.underlying138
  have hlt := h.lt
  obtain ⟨w1, hmk, ho1, hg1⟩ := run_make_own (P := Tryz.prog) w w.heap.size 32 83 i0 (.agg #[.string ByteArray.empty, .string ByteArray.empty, .int .i64 0]) 3 Tryz.underlying32 hi hz0 hz1 .i64 .i64 ps.length (by rw [hz2]; omega) (by unfold maxLen; omega) (Nat.le_refl _)
  have h1 : Holds5 w1 b ps := h.grown hg1 (by simp)
  obtain ⟨w2, hrg, hr2, hg2, hs2⟩ := h1.range keyK Tryz.underlying138
  have HB2 : Hid (Below w.heap.size w w2) := bgrown (bgrown (Below.refl _ _) (Nat.le_refl _) hg1 (by simp)) hg1.size hg2 (by simp)
  have HR0 : Hid (PartsRel w b w1.heap.size ps (.slice (some ⟨w.heap.size, 0, none⟩) 0 ps.length) w2) :=
    ⟨[], ps, w.heap.size, ps.length, rfl, ho1.kept hg2 (by simp [Value.ownBlock]), hr2, by simp, HB2.out⟩
  have HI := Lib.hid hi
  have HZ0 := Lib.hid hz0
  have HZ1 := Lib.hid hz1
  have HZ2 := Lib.hid hz2
  have HS := Lib.hid hs
  have HA := Lib.hid h.apart
  have hwlt : b < w1.heap.size := Nat.lt_of_lt_of_le hlt hg1.size
  have hw1 : w.heap.size ≤ w1.heap.size := hg1.size
  clear hi hz0 hz1 hz2 h1 ho1 hg1 hr2 hg2 hs2 hs h
  go_enter Tryz.func112, Tryz.ntmps112
  go_wp2
  clear hmk hlen hrg
  go_loopw [3] (fun v wr => PartsRel w b w1.heap.size ps v wr) (fun _ wr => wr.rangeLeft b w1.heap.size)
  case atStart => exact HR0.out
  case round =>
    clear HR0 HB2
    obtain ⟨acc, todo, g, cap, rfl, ho, hrg, hperm, hb⟩ := hrel
    have hlen : acc.length + todo.length = ps.length := by rw [← List.length_append]; exact hperm.length_eq
    rcases hrg.next keyK 0 with ⟨rfl, hrun⟩ | ⟨x, key, v, pl, w3, hx, hxp, hkey, hval, hrun, hrg3, hlt3, hg3, hs3, hen⟩
    · have hp : acc.Perm ps := by simpa using hperm
      have HP := Lib.hid hp
      have HAC := Lib.hid (HA.out.perm hp.symm)
      have HO := Lib.hid ho
      have HB := Lib.hid hb
      clear ho hb hperm hrg hp
      go_wp2_with fail
      refine (iSort_any HO.out HAC.out (by simp at hlen; omega)).mono ?_
      rintro e w4 ⟨rfl, out, hp4, hu4, ho4, hg4⟩
      have HN : Hid (∃ out : List Par, out.Perm ps ∧ out.Pairwise KeyLt ∧ ResRow out w (.returned (.slice (some ⟨g, 0, none⟩) acc.length cap)) w4) :=
        ⟨out, hp4.trans HP.out, hu4, g, cap, by rw [hp4.length_eq], ho4, bgrown HB.out HB.out.size hg4 (fun g' e => by injection e with e; subst e; exact (own_some ho4).2.2.2.1)⟩
      clear hp4 hu4 ho4 hg4
      go_wp2
      go_ret
      exact HN.out
    · obtain rfl := key_at (psized_mem.1 HS.out x hxp) hkey
      obtain rfl := sharesR_inv hval
      have hgb := (own_some ho).2.2.2.1
      have hgr : some g ≠ some w1.heap.size := range_row hrg ho g rfl
      have ho3 := ho.kept hg3 (.inr hgr)
      have HOW := Lib.hid ((ho3.alloc (.cells #[.string x.who, .string x.mill] 144)).alloc (.cells #[.string x.who, .string x.mill, .int .i64 x.shares] 83))
      have hr5 := (hrg3.kept (World.grownBy_alloc w3 (.cells #[.string x.who, .string x.mill] 144) none) (by simp) (by simp)).kept (World.grownBy_alloc _ (.cells #[.string x.who, .string x.mill, .int .i64 x.shares] 83) none) (by simp) (by simp)
      have hm5 : World.rangeLeft ((w3.alloc (.cells #[.string x.who, .string x.mill] 144)).alloc (.cells #[.string x.who, .string x.mill, .int .i64 x.shares] 83)) b w1.heap.size = w3.rangeLeft b w1.heap.size := by
        rw [(hrg3.kept (World.grownBy_alloc w3 (.cells #[.string x.who, .string x.mill] 144) none) (by simp) (by simp)).left_kept (World.grownBy_alloc _ _ none) (by simp) (by simp), hrg3.left_kept (World.grownBy_alloc _ _ none) (by simp) (by simp)]
      have hb5 := below_trans (below_trans (bgrown hb hb.size hg3 (fun g' e => by injection e with e; omega)) (below_new w3 (.cells #[.string x.who, .string x.mill] 144))) (below_new _ (.cells #[.string x.who, .string x.mill, .int .i64 x.shares] 83))
      have HR5 := Lib.hid hr5
      have HM5 := Lib.hid hm5
      have HB5 := Lib.hid hb5
      have HM3 := Lib.hid hlt3
      have HPM : Hid ((acc ++ [x] ++ without keyL (keyL x) todo).Perm ps) := by
        refine List.Perm.trans ?_ hperm
        rw [List.append_assoc]
        exact (List.Perm.append_left acc (hrg.part keyK hx)).symm
      have hle3 : w.heap.size ≤ w3.heap.size := by rw [hs3]; exact hb.size
      have hal : acc.length + 1 ≤ ps.length := by have := List.length_pos_of_mem hx; omega
      clear ho3 hr5 hm5 hb5 ho hrg hperm hb hrg3 hlt3 hg3 hs3 hkey hval hx hxp
      go_wp2_with (at_builtin; refine wpList_append_lies _ rfl _ _ 32 rfl w.heap.size 83 i0 (.agg #[.string ByteArray.empty, .string ByteArray.empty, .int .i64 0]) 3 40 Tryz.underlying32 HI.out HZ0.out HZ1.out HZ2.out rfl (by decide) _ _ _ rfl HOW.out ⟨w3.heap.size + 1, 0, none⟩ 1 1 ([x].flatMap Par.cs) rfl ?c0 ?c1 (flat_one Par.one _) (by decide) ?c3 ?c4 ?c5 _ rfl ?_)
      case c0 => rfl
      case c1 =>
        intro j u hj
        obtain ⟨b', off', e, hc⟩ := lies_new (w3.alloc (.cells #[.string x.who, .string x.mill] 144)) x.cs 83 j u (by simpa using hj)
        injection e with e; injection e with e1 e2; subst e1; subst e2
        rw [add_plain]
        have hsz : (w3.alloc (.cells #[.string x.who, .string x.mill] 144)).heap.size = w3.heap.size + 1 := by simp
        rw [hsz] at hc
        exact hc
      case c3 => unfold maxLen; omega
      case c4 => omega
      case c5 => simp; omega
      intro g6 c6 w6 hown6 hgrow hat hlt6
      have hw1b : b < g := by omega
      have HR : Hid (PartsRel w b w1.heap.size ps (.slice (some ⟨g6, 0, none⟩) (acc.length + 1) c6) w6 ∧ w6.rangeLeft b w1.heap.size < wr.rangeLeft b w1.heap.size) := by
        have hne1 : some b ≠ (Value.slice (some ⟨g, 0, none⟩) acc.length cap).ownBlock := by simp [Value.ownBlock]; omega
        have hne2 : some w1.heap.size ≠ (Value.slice (some ⟨g, 0, none⟩) acc.length cap).ownBlock := fun e => hgr (by simpa [Value.ownBlock] using e.symm)
        refine ⟨⟨acc ++ [x], without keyL (keyL x) todo, g6, c6, by simp, by rw [List.length_append, List.flatMap_append]; exact hown6, HR5.out.kept hgrow hne1 hne2, HPM.out, bgrown HB5.out (by simp; omega) hgrow (fun g' e => by simp [Value.ownBlock] at e; omega)⟩, ?_⟩
        rw [HR5.out.left_kept hgrow hne1 hne2, HM5.out]
        exact HM3.out
      clear hown6 hgrow hat hlt6
      go_wp2
      go_roundw
      case rel => exact HR.out.1
      case measure => exact HR.out.2
end Go.Proofs.YtncandoohlndnaaGreat
namespace Go.Proofs.YtncandoohlndnaaGreat
open Go.ChangeShapes Go.WideShapes Go.ChangeAt Go.RowKit
open Go.Shelf Go.Lib

/-- One and the same part. -/
def eqP (p q : Par) : Bool := (p.who.toList == q.who.toList) && ((p.mill.toList == q.mill.toList) && (p.shares == q.shares))
theorem eqP_iff {p q : Par} : eqP p q = true ↔ p = q := by
  unfold eqP
  simp only [Bool.and_eq_true, beq_iff_eq]
  constructor
  · rintro ⟨h1, h2, h3⟩
    obtain ⟨a, b, c⟩ := p
    obtain ⟨a', b', c'⟩ := q
    simp only at h1 h2 h3
    rw [bytes_same h1, bytes_same h2, h3]
  · rintro rfl; exact ⟨rfl, rfl, rfl⟩

theorem neqPart : NeqAt Tryz.prog 83 (fun x : Par => .agg x.cs.toArray) eqP := by
  refine ⟨fun x y w => ?_, GuardAt.agg _ (by kernel_rfl)⟩
  have u2 := Tryz.underlying2
  have u9 := Tryz.underlying9
  have a2 := Tryz.isAgg2
  have a9 := Tryz.isAgg9
  have z2 := Tryz.sizeOf2
  have z9 := Tryz.sizeOf9
  have hS : Tryz.prog.underlying 83 = some (.struct (Tryz.prog.fieldsOf 83)) := by kernel_rfl
  have hp : Tryz.prog.stoodInHeld 83 = false := by kernel_rfl
  simp only [Par.cs]
  rw [run_neq_struct, show (10000 : Nat) = 9999 + 1 from rfl, run_equalIn_agg w 9999 83 _ _ hS hp]
  simp only [Program.fieldsOf, Tryz.underlying83]
  go_simp
  unfold eqP
  cases h1 : (x.who.toList == y.who.toList) <;> cases h2 : (x.mill.toList == y.mill.toList) <;> cases h3 : (x.shares == y.shares) <;> simp_all

/-- Are they the same? -/
def sameP (xs ys : List Par) : Bool := Lib.allEq eqP xs ys
theorem sameP_iff : ∀ {xs ys : List Par}, sameP xs ys = true ↔ xs = ys
  | [], [] => by simp [sameP, Lib.allEq]
  | [], _ :: _ => by simp [sameP, Lib.allEq]
  | _ :: _, [] => by simp [sameP, Lib.allEq]
  | x :: xs, y :: ys => by
    have := sameP_iff (xs := xs) (ys := ys)
    unfold sameP at this ⊢
    simp only [Lib.allEq, Bool.and_eq_true, this, eqP_iff, List.cons.injEq]
theorem sameP_len {xs ys : List Par} (h : xs.length ≠ ys.length) : sameP xs ys = false := by
  cases hs : sameP xs ys
  · rfl
  · exact absurd (congrArg List.length (sameP_iff.1 hs)) h

set_option maxHeartbeats 1000000 in
set_option maxRecDepth 100000 in
theorem iEqual_any {w : World} {a : Option Addr} {g off : Nat} {ps qs : List Par} (cap cap' : Nat) (h : Recs Par.cs w a ps) (h' : Recs Par.cs w (some ⟨g, off, none⟩) qs) (hl : ps.length ≤ 9223372036854775807) (hl' : qs.length ≤ 9223372036854775807) :
    Calls Tryz.prog 111 #[.slice a ps.length cap, .slice (some ⟨g, off, none⟩) qs.length cap'] w fun e w' => e = .returned (.bool (sameP ps qs)) ∧ Below w.heap.size w w' := by
  have hcell : ∀ {b o : Nat} {xs : List Par}, Recs Par.cs w (some ⟨b, o, none⟩) xs → ∀ j, j < xs.length → ∀ i v, (xs[j]!).cs[i]? = some v → w.cell? ⟨b, o + j * 3 + i, none⟩ = some v := by
    intro b o xs hx j hj i v hv
    obtain ⟨b', o', e, -, hc⟩ := hx.cell Par.len (by omega) j hj
    injection e with e; injection e with e1 e2; subst e1; subst e2
    exact hc i v (by simpa [hj] using hv)
  cases a with
  | none =>
    have h0 : ps = [] := by
      cases ps with
      | nil => rfl
      | cons x r =>
        obtain ⟨b, o, e, -⟩ := h.cell Par.len (by omega) 0 (by simp)
        cases e
    subst h0
    cases qs with
    | nil =>
      clear h h' hcell
      go_enter Tryz.func111, Tryz.ntmps111
      go_wp2
      go_loop [13] (fun i => i = .int .i64 0) (fun _ => 0)
      case atStart => rfl
      case round =>
        subst hrel
        go_wp2
        go_ret
        exact ⟨rfl, Below.refl _ _⟩
    | cons x r =>
      have HN := Lib.hid (sameP_len (xs := []) (ys := x :: r) (by simp))
      have hne : ¬ ((0 : Int) = ((r.length : Int) + 1)) := by omega
      clear h h' hcell
      go_enter Tryz.func111, Tryz.ntmps111
      go_wp2
      go_ret
      exact ⟨by rw [HN.out]; rfl, Below.refl _ _⟩
  | some a =>
    by_cases h0 : 0 < ps.length
    · obtain ⟨b, o, e, -, -⟩ := h.cell Par.len (by omega) 0 h0
      injection e with e
      subst e
      have hc := AnyQ.slices_Equal equalPart 3 Tryz.isAgg83 Tryz.sizeOf83 Par.cs Par.len eqP neqPart b o ps.length cap g off qs.length cap' ps qs w (Nat.le_refl _) (Nat.le_refl _) hl hl' (hcell h) (hcell h')
      change Calls Tryz.prog 111 _ _ _ at hc
      refine hc.mono ?_
      rintro e w' ⟨rfl, q, rfl⟩
      exact ⟨by rw [List.take_length, List.take_length]; rfl, below_draws (Below.refl _ _) q⟩
    · have e0 : ps = [] := List.eq_nil_of_length_eq_zero (by omega)
      subst e0
      cases qs with
      | nil =>
        clear h h' hcell
        go_enter Tryz.func111, Tryz.ntmps111
        go_wp2
        go_loop [13] (fun i => i = .int .i64 0) (fun _ => 0)
        case atStart => rfl
        case round =>
          subst hrel
          go_wp2
          go_ret
          exact ⟨rfl, Below.refl _ _⟩
      | cons x r =>
        have HN := Lib.hid (sameP_len (xs := []) (ys := x :: r) (by simp))
        have hne : ¬ ((0 : Int) = ((r.length : Int) + 1)) := by omega
        clear h h' hcell
        go_enter Tryz.func111, Tryz.ntmps111
        go_wp2
        go_ret
        exact ⟨by rw [HN.out]; rfl, Below.refl _ _⟩
end Go.Proofs.YtncandoohlndnaaGreat
namespace Go.Proofs.YtncandoohlndnaaGreat
open Go.ChangeShapes Go.WideShapes Go.ChangeAt Go.RowKit

/-- What 'areOf' answers. -/
def AreOf (ps qs : List Par) (w : World) (e : Ending) (w' : World) : Prop :=
  ∃ r : Bool, e = .returned (.bool r) ∧ (r = true ↔ (∀ p ∈ ps, partB p = true) ∧ ps.Perm qs ∧ ps.Pairwise KeyLt) ∧ Below w.heap.size w w'

set_option maxHeartbeats 4000000 in
set_option maxRecDepth 100000 in
theorem iAreOf_any {w : World} {a : Option Addr} {b : Nat} {ps qs : List Par} (cap : Nat) (hq : Holds5 w b qs) (h : Recs Par.cs w a ps) (hs : PSized ps) (hsq : PSized qs) (hl : ps.length ≤ 1048576) (hlq : qs.length ≤ 1048576) :
    Calls Tryz.prog 108 #[.map (some b), .slice a ps.length cap] w (AreOf ps qs w) := by
  have H := Lib.hid h
  have HS := Lib.hid hs
  have HQ := Lib.hid hq
  have HSQ := Lib.hid hsq
  have hblt : b < w.heap.size := hq.lt
  clear h hs hq hsq
  go_enter Tryz.func108, Tryz.ntmps108
  go_wp2
  go_loopw [9] (fun i wr => ∃ k : Nat, k ≤ ps.length ∧ i = .int .i64 k ∧ Below w.heap.size w wr ∧ ∀ j (hj : j < ps.length), j < k → partB ps[j] = true) (fun i _ => ps.length - (intOf i).toNat)
  case atStart => exact ⟨0, Nat.zero_le _, rfl, Below.refl _ _, fun _ _ h => by omega⟩
  case round =>
    obtain ⟨k, hk, rfl, hb, hu⟩ := hrel
    have HB := Lib.hid hb
    have HU := Lib.hid hu
    clear hb hu
    by_cases hlt : k < ps.length
    · obtain ⟨b1, off, rfl, hlb, c0, c1, c2⟩ := Par.at (H.out.below HB.out) k hlt
      go_wp2_with fail
      refine (pright_any ps[k] _ (HS.out k hlt)).mono ?_
      rintro e w2 ⟨rfl, hb2⟩
      have HB2 := Lib.hid (below_trans (below_trans HB.out (below_new _ _)) hb2)
      clear hb2
      cases hp : partB ps[k]
      · have HN : Hid (AreOf ps qs w (.returned (.bool false)) w2) :=
          ⟨false, rfl, ⟨fun h => (by cases h), fun h => (by have := h.1 _ (List.getElem_mem hlt); rw [hp] at this; cases this)⟩, HB2.out⟩
        go_wp2
        go_ret
        exact HN.out
      · have HN : Hid (∀ j (hj : j < ps.length), j < k + 1 → partB ps[j] = true) := fun j hj hjk => by
          by_cases e : j = k
          · subst e; exact hp
          · exact HU.out j hj (by omega)
        go_wp2
        go_roundw
        case rel => exact ⟨k + 1, by omega, by go_num, HB2.out, HN.out⟩
        case measure => simp [intOf]; omega
    · obtain rfl : k = ps.length := by omega
      go_wp2_with fail
      refine (iParts_any (HQ.out.below HB.out hblt) HSQ.out hlq).mono ?_
      rintro e w2 ⟨out, hp2, hu2, g, c2, rfl, ho2, hb2⟩
      have HB2 := Lib.hid (below_trans HB.out hb2)
      obtain ⟨a3, c3, e3, hr3, -⟩ := ownR_of Par.len ho2
      injection e3 with e3 e4 e5
      subst e3; subst e5
      have hol : out.length ≤ 9223372036854775807 := by rw [hp2.length_eq]; omega
      have HE := Lib.hid (hr3.1)
      clear hr3
      go_wp2_with fail
      refine (iEqual_any _ _ (H.out.below HB2.out) HE.out (by omega) hol).mono ?_
      rintro e w3 ⟨rfl, hb3⟩
      have HN : Hid (AreOf ps qs w (.returned (.bool (sameP ps out))) w3) := by
        refine ⟨_, rfl, ?_, below_trans HB2.out hb3⟩
        rw [sameP_iff]
        constructor
        · rintro rfl
          exact ⟨fun p hp => by obtain ⟨j, hj, rfl⟩ := List.getElem_of_mem hp; exact HU.out j hj hj, hp2, hu2⟩
        · rintro ⟨-, h1, h2⟩
          exact up_one (h1.trans hp2.symm) h2 hu2
      clear hb3 hb2 ho2 hp2 hu2
      go_wp2
      go_ret
      exact HN.out
end Go.Proofs.YtncandoohlndnaaGreat
namespace Go.Proofs.YtncandoohlndnaaGreat
open Go.ChangeShapes Go.WideShapes Go.ChangeAt Go.RowKit

/-- What the map holds behind the first k. -/
noncomputable def accK (ps : List Par) : Nat → List Par
  | 0 => []
  | k + 1 => patn ps k :: without keyL (keyL (patn ps k)) (accK ps k)
theorem accK_sub (ps : List Par) : ∀ k, k ≤ ps.length → ∀ p ∈ accK ps k, p ∈ ps
  | 0, _, p, hp => by cases hp
  | k + 1, hk, p, hp => by
    rcases List.mem_cons.1 hp with rfl | hp
    · rw [patn_eq (by omega)]; exact List.getElem_mem _
    · exact accK_sub ps k (by omega) p ((without_sub _ _).subset hp)
theorem accK_len (ps : List Par) : ∀ k, (accK ps k).length ≤ k
  | 0 => Nat.le_refl _
  | k + 1 => by
    have h1 := accK_len ps k
    have h2 := (without_sub (kl := keyL) (keyL (patn ps k)) (accK ps k)).length_le
    simp only [accK, List.length_cons]
    omega
theorem accK_sized {ps : List Par} (hs : PSized ps) (k : Nat) (hk : k ≤ ps.length) : PSized (accK ps k) := by
  rw [psized_mem] at hs ⊢
  exact fun p hp => hs p (accK_sub ps k hk p hp)
theorem keys_of {ps : List Par} (hs : PSized ps) : ∀ p ∈ ps, Maps.KeysOf Tryz.prog 144 (keyL p) := fun p hp => ⟨_, keyOf_par (psized_mem.1 hs p hp)⟩
/-- Of a list that rises nothing is lost. -/
theorem accK_up {ps : List Par} (hs : PSized ps) (hu : ps.Pairwise KeyLt) : ∀ k, k ≤ ps.length → accK ps k = (ps.take k).reverse
  | 0, _ => by simp [accK]
  | k + 1, hk => by
    have hk' : k < ps.length := by omega
    have ih := accK_up hs hu k (by omega)
    have ha := up_apart hs hu
    rw [accK, patn_eq hk', without_none keyK (fun p hp => keys_of hs p (accK_sub ps k (by omega) p hp)), ih, List.take_succ_eq_append_getElem hk', List.reverse_append]
    · rfl
    · intro p hp e
      rw [ih, List.mem_reverse] at hp
      obtain ⟨j, hj, rfl⟩ := List.getElem_of_mem hp
      rw [List.length_take] at hj
      rw [List.getElem_take] at e
      exact (List.pairwise_iff_getElem.1 ha) j k (by omega) hk' (by omega) e

/-- What it holds. -/
noncomputable def heldL (ps : List Par) : List Par := if partsB ps = true then ps else []
theorem held_yes {ps : List Par} (h : partsB ps = true) : heldL ps = ps := by rw [heldL, if_pos h]
theorem held_no {ps : List Par} (h : partsB ps = false) : heldL ps = [] := by rw [heldL, if_neg (by rw [h]; decide)]
def HeldRes (ps : List Par) (w : World) (e : Ending) (w' : World) : Prop :=
  ∃ b, e = .returned (.tuple #[.map (some b), .bool (partsB ps)]) ∧ w.heap.size ≤ b ∧ Holds5 w' b (heldL ps) ∧ Below w.heap.size w w'

theorem store_step {W w4 : World} {b : Nat} {qs : List Par} {p : Par} (hm : Holds5 W b qs) (hb : Below W.heap.size W w4) (hs : p.who.size ≤ maxLen ∧ p.mill.size ≤ maxLen) (hn : qs.length < maxLen) :
    ∃ w5, (Instr.mapUpdate 138 (.map (some b)) (.agg #[.string p.who, .string p.mill]) (.int .i64 p.shares)).run Tryz.prog w4 = .ok () w5 ∧ Holds5 w5 b (p :: without keyL (keyL p) qs) ∧ w4.grownBy w5 (some b) := by
  obtain ⟨w5, h1, h2, h3⟩ := MapIs.store keyK Tryz.underlying138 (hm.below hb hm.lt) hn (x := p) (keyOf_par hs) (show sharesR (.int .i64 p.shares) = some (sharesD p, []) from rfl)
  exact ⟨w5, h1, h2, h3.grown⟩

set_option maxHeartbeats 4000000 in
set_option maxRecDepth 100000 in
theorem iHeld_any {w : World} {a : Option Addr} {ps : List Par} (cap : Nat) (h : Recs Par.cs w a ps) (hs : PSized ps) (hl : ps.length ≤ 9223372036854775807) :
    Calls Tryz.prog 99 #[.slice a ps.length cap] w (HeldRes ps w) := by
  have hmm := @run_makeMap Tryz.prog
  have H := Lib.hid h
  have HS := Lib.hid hs
  clear h hs
  by_cases h20 : ps.length ≤ 20
  · have HM0 := Lib.hid (MapIs.made (P := Tryz.prog) (k := 144) (R := sharesR) (kl := keyL) (vd := sharesD) w)
    go_enter Tryz.func99, Tryz.ntmps99
    go_wp2
    clear hmm
    go_loopw [14] (fun i wr => ∃ k : Nat, k ≤ ps.length ∧ i = .int .i64 k ∧ Holds5 wr w.heap.size (accK ps k) ∧ Below w.heap.size w wr) (fun i _ => ps.length - (intOf i).toNat)
    case atStart => exact ⟨0, Nat.zero_le _, rfl, HM0.out, below_new _ _⟩
    case round =>
      clear HM0
      obtain ⟨k, hk, rfl, hm, hb⟩ := hrel
      have HB := Lib.hid hb
      have HM := Lib.hid hm
      clear hb hm
      by_cases hlt : k < ps.length
      · obtain ⟨b1, off, rfl, hlb, c0, c1, c2⟩ := Par.at (H.out.below HB.out) k hlt
        go_wp2_with fail
        obtain ⟨W3, hW3⟩ : ∃ W3, wr.alloc (.cells #[.string ps[k].who, .string ps[k].mill, .int .i64 ps[k].shares] 83) = W3 := ⟨_, rfl⟩
        have hra := RecAt.new Par.cs wr ps[k] 83
        have d0 : W3.cell? ⟨wr.heap.size, 0, none⟩ = some (.string ps[k].who) := by rw [← hW3]; exact hra 0 _ rfl
        have d1 : W3.cell? ⟨wr.heap.size, 1, none⟩ = some (.string ps[k].mill) := by rw [← hW3]; exact hra 1 _ rfl
        have d2 : W3.cell? ⟨wr.heap.size, 2, none⟩ = some (.int .i64 ps[k].shares) := by rw [← hW3]; exact hra 2 _ rfl
        have HB3 : Hid (Below w.heap.size w W3.drew) := by rw [← hW3]; exact below_draws (below_trans HB.out (below_new _ _)) 1
        have HM3 : Hid (Holds5 W3.drew w.heap.size (accK ps k)) := by rw [← hW3]; exact HM.out.below (below_draws (below_new _ _) 1) HM.out.lt
        have HLT : Hid (wr.heap.size < W3.drew.heap.size) := by rw [← hW3]; show wr.heap.size < (wr.alloc _).heap.size; simp
        have HD2 : Hid (W3.drew.cell? ⟨wr.heap.size, 2, none⟩ = some (.int .i64 ps[k].shares)) := d2
        have HLN : Hid ((accK ps k).length < maxLen) := by have := accK_len ps k; unfold Hid maxLen; omega
        have HAK : Hid (ps[k] :: without keyL (keyL ps[k]) (accK ps k) = accK ps (k + 1)) := by unfold Hid; rw [accK, patn_eq hlt]
        rw [hW3]
        clear hW3 hra c0 c1 c2 HM HB
        go_region_with (first | (go_at_call 107; refine (iKey_any ps[k] _).mono ?_; rintro e w4 ⟨rfl, hb4⟩; obtain ⟨w5, hup, hm5, hg5⟩ := store_step HM3.out hb4 (HS.out k hlt) HLN.out; have e2 := (hb4.cell (p := ⟨wr.heap.size, 2, none⟩) HLT.out).trans HD2.out; have HR5 : Hid (Holds5 w5 w.heap.size (accK ps (k + 1)) ∧ Below w.heap.size w w5) := ⟨(by rw [← HAK.out]; exact hm5), bgrown (below_trans HB3.out hb4) (Nat.le_trans HB3.out.size hb4.size) hg5 (fun g e => (by injection e with e; omega))⟩; clear hb4 hm5 hg5))
        all_goals
          go_wp2
          go_roundw
          case rel => exact ⟨k + 1, by omega, by go_num, HR5.out.1, HR5.out.2⟩
          case measure => simp [intOf]; omega
      · obtain rfl : k = ps.length := by omega
        have HAL := Lib.hid (accK_len ps ps.length)
        go_wp2_with fail
        refine (iAreOf_any _ HM.out (H.out.below HB.out) HS.out (accK_sized HS.out _ (Nat.le_refl _)) (by omega) (by have := HAL.out; omega)).mono ?_
        rintro e w2 ⟨r, rfl, hr, hb2⟩
        have HB2 := Lib.hid (below_trans HB.out hb2)
        have HM2 := Lib.hid (HM.out.below hb2 HM.out.lt)
        have HRP : Hid (r = partsB ps) := by
          apply Bool.eq_iff_iff.2
          rw [hr, parts_pair]
          constructor
          · rintro ⟨h1, -, h2⟩; exact ⟨h20, h1, h2⟩
          · rintro ⟨-, h1, h2⟩
            refine ⟨h1, ?_, h2⟩
            rw [accK_up HS.out h2 _ (Nat.le_refl _), List.take_length]
            exact (List.reverse_perm ps).symm
        clear hr hb2 HM HB
        cases r
        · obtain ⟨w3, hcl, hm3, ht3⟩ := HM2.out.clear Tryz.underlying138 0
          have HN : Hid (HeldRes ps w (.returned (.tuple #[.map (some w.heap.size), .bool false])) w3) :=
            ⟨_, by rw [HRP.out], Nat.le_refl _, by rw [held_no HRP.out.symm]; exact hm3, bgrown HB2.out HB2.out.size ht3.grown (fun g e => by injection e with e; omega)⟩
          clear hm3 ht3
          go_wp2
          go_ret2
          exact HN.out
        · have HN : Hid (HeldRes ps w (.returned (.tuple #[.map (some w.heap.size), .bool true])) w2) := by
            refine ⟨_, by rw [HRP.out], Nat.le_refl _, ?_, HB2.out⟩
            rw [held_yes HRP.out.symm]
            refine HM2.out.perm keyK ?_
            rw [accK_up HS.out (parts_pair.1 HRP.out.symm).2.2 _ (Nat.le_refl _), List.take_length]
            exact List.reverse_perm ps
          go_wp2
          go_ret2
          exact HN.out
  · have HN : Hid (HeldRes ps w (.returned (.tuple #[.map (some w.heap.size), .bool false])) (w.alloc (.map #[] 0))) := by
      have hp := parts_long h20
      exact ⟨_, by rw [hp], Nat.le_refl _, by rw [held_no hp]; exact MapIs.made w, below_new _ _⟩
    have hgt : (20 : Int) < (ps.length : Int) := by omega
    go_enter Tryz.func99, Tryz.ntmps99
    go_wp2
    go_ret2
    exact HN.out
end Go.Proofs.YtncandoohlndnaaGreat
