/-
  Texts joined: Facts6, Tag6, QueF, QueG, WaitI, Shar, MillI, LayPart, PartT, PartG.
-/
import Derived.Test.YtncandoohlndnaaGreatJ5
import Derived.ChangeKeysEq
import Derived.Shelf.SlSortCmp.NoneTotal
import Derived.Shelf.SlicesQ.Equal
namespace Go.Proofs.YtncandoohlndnaaGreat
open Go.ChangeShapes Go.WideShapes Go.ChangeAt Go.RowKit

theorem wup_le {ps : List Wai} (h : WUp ps ps.length) {j : Nat} : ∀ m (hm : j + 1 + m < ps.length), (ps[j]'(by omega)).ripe ≤ ps[j + 1 + m].ripe
  | 0, hm => h.2 j hm hm
  | m + 1, hm => Int.le_trans (wup_le h m (by omega)) (h.2 (j + 1 + m) hm hm)
theorem wup_pair {ps : List Wai} : WUp ps ps.length ↔ (∀ p ∈ ps, waitB p = true) ∧ ps.Pairwise (fun p q => p.ripe ≤ q.ripe) := by
  constructor
  · intro h
    refine ⟨fun p hp => ?_, ?_⟩
    · obtain ⟨k, hk, rfl⟩ := List.getElem_of_mem hp; exact h.1 k hk hk
    · rw [List.pairwise_iff_getElem]
      intro i j hi hj hij
      have := wup_le h (j := i) (j - (i + 1)) (by omega)
      simpa [show i + 1 + (j - (i + 1)) = j by omega] using this
  · rintro ⟨h1, h2⟩
    rw [List.pairwise_iff_getElem] at h2
    exact ⟨fun j hj _ => h1 _ (List.getElem_mem hj), fun j hj _ => h2 j (j + 1) (by omega) hj (by omega)⟩
theorem waits_pair {ps : List Wai} : waitsB ps = true ↔ ps.length ≤ 20 ∧ (∀ p ∈ ps, waitB p = true) ∧ ps.Pairwise (fun p q => p.ripe ≤ q.ripe) := by
  rw [← wup_pair]
  exact ⟨waits_true, fun h => waits_yes h.1 h.2⟩
theorem sumA_take {ps : List Wai} : ∀ k, k ≤ ps.length → sumA ps k = ((ps.take k).map Wai.amount).sum
  | 0, _ => by simp [sumA]
  | k + 1, hk => by
    rw [sumA, sumA_take k (by omega), List.take_succ_eq_append_getElem (by omega), List.map_append, List.sum_append, watn_eq (by omega)]
    simp
theorem amount_eq {ps : List Wai} (h : waitsB ps = true) : amountInV ps = (ps.map Wai.amount).sum := by
  rw [amountInV, if_pos h, sumA_take _ (Nat.le_refl _), List.take_length]
theorem amount_bd {ps : List Wai} (h : waitsB ps = true) : 0 ≤ amountInV ps ∧ amountInV ps ≤ 20000000 := by
  have h1 := waits_true h
  have h2 := sumA_bd h1.2 ps.length (Nat.le_refl _)
  rw [amountInV, if_pos h]
  omega

/-- One more waits: nothing else turns. -/
theorem waiting_more {ps : List Wai} {q : Wai} (h : waitingB ps q = true) :
    waitsB (waitingL ps q) = true ∧ (waitingL ps q).length = ps.length + 1 ∧ amountInV (waitingL ps q) = amountInV ps + q.amount := by
  have h0 := h
  simp only [waitingB, Bool.and_eq_true] at h
  obtain ⟨hf, hx⟩ := h
  have hL : waitingL ps q = putW ps q := by rw [waitingL, if_pos hf, if_pos h0]
  have hle := lowW_le ps q.ripe
  rw [hL]
  refine ⟨hx, by unfold putW; simp; omega, ?_⟩
  rw [amount_eq hx, amount_eq hf, putW]
  generalize lowW ps q.ripe = k
  conv => rhs; rw [← List.take_append_drop k ps]
  simp only [List.map_append, List.sum_append, List.map_cons, List.map_nil, List.sum_cons, List.sum_nil]
  omega

theorem part_sum (season : Int) : ∀ (ps : List Wai), ((laterOf season ps).map Wai.amount).sum + ((ripeOf season ps).map Wai.amount).sum = (ps.map Wai.amount).sum ∧ (laterOf season ps).length + (ripeOf season ps).length = ps.length
  | [] => by simp [laterOf, ripeOf]
  | p :: r => by
    have ih := part_sum season r
    unfold laterOf ripeOf at ih ⊢
    by_cases h : season < p.ripe
    · simp only [List.filter_cons, h, decide_true, Bool.not_true, if_true, Bool.false_eq_true, if_false, List.map_cons, List.sum_cons, List.length_cons]
      omega
    · simp only [List.filter_cons, h, decide_false, Bool.not_false, if_true, Bool.false_eq_true, if_false, List.map_cons, List.sum_cons, List.length_cons]
      omega
theorem sub_waits {ps qs : List Wai} (h : waitsB ps = true) (hs : qs.Sublist ps) : waitsB qs = true := by
  obtain ⟨h1, h2, h3⟩ := waits_pair.1 h
  exact waits_pair.2 ⟨Nat.le_trans hs.length_le h1, fun p hp => h2 p (hs.subset hp), h3.sublist hs⟩
/-- Nothing is lost. -/
theorem ripe_all {ps : List Wai} (h : waitsB ps = true) (season : Int) : waitsB (laterV ps season) = true ∧ waitsB (ripeV ps season) = true ∧ amountInV (laterV ps season) + amountInV (ripeV ps season) = amountInV ps ∧ (laterV ps season).length + (ripeV ps season).length = ps.length := by
  have e1 : laterV ps season = laterOf season ps := by rw [laterV, if_pos h]
  have e2 : ripeV ps season = ripeOf season ps := by rw [ripeV, if_pos h]
  have s1 : waitsB (laterOf season ps) = true := sub_waits h List.filter_sublist
  have s2 : waitsB (ripeOf season ps) = true := sub_waits h List.filter_sublist
  rw [e1, e2, amount_eq s1, amount_eq s2, amount_eq h]
  exact ⟨s1, s2, part_sum season ps⟩
theorem ripe_take (season : Int) : ∀ (ps : List Wai), ps.Pairwise (fun p q => p.ripe ≤ q.ripe) → ripeOf season ps = ps.take (ripeOf season ps).length
  | [], _ => by simp [ripeOf]
  | p :: r, h => by
    rw [List.pairwise_cons] at h
    by_cases hq : season < p.ripe
    · have hn : ripeOf season (p :: r) = [] := by
        unfold ripeOf
        rw [List.filter_eq_nil_iff]
        intro q hq2
        rcases List.mem_cons.1 hq2 with rfl | hm
        · simpa using hq
        · have := h.1 q hm
          simp; omega
      rw [hn]; simp
    · have ih := ripe_take season r h.2
      have he : ripeOf season (p :: r) = p :: ripeOf season r := by unfold ripeOf; simp [hq]
      rw [he, List.length_cons, List.take_succ_cons, ← ih]
/-- Ripe are the first ones, and none later. -/
theorem ripe_first (ps : List Wai) (season : Int) : ripeV ps season = ps.take (ripeV ps season).length ∧ ∀ i (h : i < (ripeV ps season).length), (ripeV ps season)[i].ripe ≤ season := by
  cases hf : waitsB ps
  · have e : ripeV ps season = [] := by simp [ripeV, hf]
    rw [e]; simp
  · have e : ripeV ps season = ripeOf season ps := by rw [ripeV, if_pos hf]
    rw [e]
    refine ⟨ripe_take season ps (waits_pair.1 hf).2.2, fun i h => ?_⟩
    have hm := List.getElem_mem h
    generalize (ripeOf season ps)[i] = q at hm ⊢
    unfold ripeOf at hm
    rw [List.mem_filter] at hm
    have := hm.2
    simp at this; omega

/-- What waits of that mill. -/
def mineW (mill : ByteArray) (p : Wai) : Int := if (p.mill.toList == mill.toList) = true then p.amount else 0
def mineOf (mill : ByteArray) (ps : List Wai) : Int := (ps.map (mineW mill)).sum
theorem mine_next {ps : List Wai} {mill : ByteArray} {k : Nat} (h : k < ps.length) : mineOf mill (ps.take (k + 1)) = mineOf mill (ps.take k) + mineW mill ps[k] := by
  unfold mineOf
  rw [List.take_succ_eq_append_getElem h, List.map_append, List.sum_append]
  simp
theorem mine_bd {ps : List Wai} (h : WUp ps ps.length) (mill : ByteArray) : ∀ k, k ≤ ps.length → 0 ≤ mineOf mill (ps.take k) ∧ mineOf mill (ps.take k) ≤ 1000000 * k
  | 0, _ => by simp [mineOf]
  | k + 1, hk => by
    have h1 := mine_bd h mill k (by omega)
    have h2 := wait_bd (h.1 k (by omega) (by omega))
    rw [mine_next (by omega)]
    unfold mineW
    split <;> omega
theorem fine_sum {mill : ByteArray} {pc : Int} (hp : inB 0 100 pc = true) : ∀ (ps : List Wai), (∀ p ∈ ps, waitB p = true) → ((finOf mill pc ps).map Wai.amount).sum + finSum mill pc ps = (ps.map Wai.amount).sum ∧ 100 * finSum mill pc ps ≤ pc * mineOf mill ps ∧ (pc = 0 → finSum mill pc ps = 0)
  | [], _ => by simp [finOf, finSum, mineOf]
  | p :: r, h => by
    obtain ⟨i1, i2, i3⟩ := fine_sum (mill := mill) hp r (fun q hq => h q (List.mem_cons_of_mem _ hq))
    have hw := h p (by simp)
    have hb := wait_bd hw
    have hc := cut_bd (mill := mill) hw hp
    have hpb := inB_true hp
    have hs : finSum mill pc (p :: r) = cutW mill pc p + finSum mill pc r := by simp [finSum]
    have hm : mineOf mill (p :: r) = mineW mill p + mineOf mill r := by simp [mineOf]
    have hcut : 100 * cutW mill pc p ≤ pc * mineW mill p ∧ (pc = 0 → cutW mill pc p = 0) := by
      unfold cutW mineW
      split
      · rw [partV, if_pos (by rw [hp, inB_of (by omega) (by omega)]; rfl)]
        constructor
        · rw [Int.mul_comm pc]
          have := Int.mul_ediv_self_le (x := p.amount * pc) (k := 100) (by omega)
          omega
        · rintro rfl; simp
      · simp
    refine ⟨?_, ?_, ?_⟩
    · rw [hs]
      by_cases hz : 0 < (fineW mill pc p).amount
      · have e : finOf mill pc (p :: r) = fineW mill pc p :: finOf mill pc r := by unfold finOf; simp [hz]
        rw [e]
        simp only [List.map_cons, List.sum_cons]
        have : (fineW mill pc p).amount = p.amount - cutW mill pc p := rfl
        omega
      · have e : finOf mill pc (p :: r) = finOf mill pc r := by unfold finOf; simp [hz]
        rw [e]
        simp only [List.map_cons, List.sum_cons]
        have : (fineW mill pc p).amount = p.amount - cutW mill pc p := rfl
        omega
    · rw [hs, hm, Int.mul_add, Int.mul_add]
      have := hcut.1
      omega
    · intro hp0
      rw [hs, hcut.2 hp0, i3 hp0]; simp
/-- What is fined is less, by no more than the percent. -/
theorem fined_less {ps : List Wai} {mill : ByteArray} {pc : Int} (h : finedB ps pc = true) :
    waitsB (finedL ps mill pc) = true ∧ amountInV (finedL ps mill pc) + finedN ps mill pc = amountInV ps ∧ 100 * finedN ps mill pc ≤ pc * mineOf mill ps ∧ (pc = 0 → finedN ps mill pc = 0) ∧ 0 ≤ finedN ps mill pc := by
  have h0 := h
  simp only [finedB, Bool.and_eq_true] at h
  obtain ⟨hf, hp⟩ := h
  have e1 : finedL ps mill pc = finOf mill pc ps := by rw [finedL, if_pos h0]
  have e2 : finedN ps mill pc = finSum mill pc ps := by rw [finedN, if_pos h0]
  obtain ⟨w1, w2, w3⟩ := waits_pair.1 hf
  have hx : waitsB (finOf mill pc ps) = true := by
    refine waits_pair.2 ⟨Nat.le_trans (finOf_le mill pc ps) w1, fun q hq => ?_, ?_⟩
    · unfold finOf at hq
      rw [List.mem_filter, List.mem_map] at hq
      obtain ⟨⟨p, hpm, rfl⟩, hpos⟩ := hq
      have hw := w2 p hpm
      have hc := cut_bd (mill := mill) hw hp
      have hb := wait_bd hw
      have hpos' : 0 < p.amount - cutW mill pc p := by simpa [fineW] using hpos
      simp only [waitB, Bool.and_eq_true] at hw ⊢
      exact ⟨hw.1, hw.2.1, inB_of (by show 1 ≤ p.amount - cutW mill pc p; omega) (by show p.amount - cutW mill pc p ≤ 1000000; omega), hw.2.2.2⟩
    · unfold finOf
      refine List.Pairwise.filter _ ?_
      rw [List.pairwise_map]
      exact w3
  obtain ⟨s1, s2, s3⟩ := fine_sum (mill := mill) hp ps w2
  have hb := fin_bd (mill := mill) (waits_true hf).2 hp ps.length (Nat.le_refl _)
  rw [List.take_length] at hb
  rw [e1, e2, amount_eq hx, amount_eq hf]
  exact ⟨hx, s1, s2, s3, hb.1⟩
theorem fined_not {ps : List Wai} {mill : ByteArray} {pc : Int} (h : finedB ps pc = false) : finedN ps mill pc = -1 ∧ finedL ps mill pc = [] := by
  rw [finedN, finedL, if_neg (by rw [h]; decide), if_neg (by rw [h]; decide)]
  exact ⟨rfl, rfl⟩
end Go.Proofs.YtncandoohlndnaaGreat
namespace Go.Proofs.YtncandoohlndnaaGreat
open Go.ChangeShapes Go.WideShapes Go.ChangeAt Go.RowKit

/-- The first k, each with its number. -/
def tagW (ps : List Wai) (k : Nat) : List Tur := (List.range k).map fun i => ⟨watn ps i, (i : Int)⟩
theorem tagW_len (ps : List Wai) (k : Nat) : (tagW ps k).length = k := by simp [tagW]
theorem tagW_at (ps : List Wai) (k i : Nat) (h : i < (tagW ps k).length) : (tagW ps k)[i] = ⟨watn ps i, (i : Int)⟩ := by simp [tagW]
theorem tagW_succ (ps : List Wai) (k : Nat) : tagW ps (k + 1) = tagW ps k ++ [⟨watn ps k, (k : Int)⟩] := by simp [tagW, List.range_succ]
theorem tagW_map (ps : List Wai) : (tagW ps ps.length).map Tur.w = ps := by
  apply List.ext_getElem
  · simp [tagW]
  · intro i h1 h2
    simp [tagW, watn_eq h2]
theorem tagW_came {ps : List Wai} {k : Nat} {t : Tur} (h : t ∈ tagW ps k) : 0 ≤ t.came ∧ t.came < k := by
  simp only [tagW, List.mem_map, List.mem_range] at h
  obtain ⟨i, hi, rfl⟩ := h
  exact ⟨by simp, by simpa using hi⟩
theorem tagW_fine (ps : List Wai) {k : Nat} (h : k ≤ 100) : Fine (tagW ps k) := fun t ht => by have := tagW_came ht; omega
theorem tagW_row {ps : List Wai} (h : waitsB ps = true) : Rowed (tagW ps ps.length) := by
  have hp := List.pairwise_iff_getElem.1 (waits_pair.1 h).2.2
  refine List.pairwise_iff_getElem.2 fun i j hi hj hij => ?_
  rw [tagW_at, tagW_at]
  rw [tagW_len] at hi hj
  have := hp i j hi hj hij
  unfold Tur.key
  simp only [watn_eq hi, watn_eq hj]
  omega
theorem low_parts : ∀ (ps : List Wai) (x : Int), ps.Pairwise (fun p q => p.ripe ≤ q.ripe) → (∀ p ∈ ps.take (lowW ps x), p.ripe ≤ x) ∧ ∀ p ∈ ps.drop (lowW ps x), x < p.ripe
  | [], _, _ => by simp
  | p :: r, x, h => by
    obtain ⟨h1, h2⟩ := List.pairwise_cons.1 h
    obtain ⟨g1, g2⟩ := low_parts r x h2
    unfold lowW
    by_cases hq : p.ripe ≤ x
    · rw [if_pos hq, List.take_succ_cons, List.drop_succ_cons]
      refine ⟨fun y hy => ?_, g2⟩
      rcases List.mem_cons.1 hy with rfl | hy
      · exact hq
      · exact g1 y hy
    · rw [if_neg hq, List.take_zero, List.drop_zero]
      refine ⟨fun y hy => by simp at hy, fun y hy => ?_⟩
      rcases List.mem_cons.1 hy with rfl | hy
      · omega
      · have := h1 y hy; omega
/-- With that one too. -/
def putT (ps : List Wai) (q : Wai) : List Tur := (tagW ps ps.length).take (lowW ps q.ripe) ++ [⟨q, (ps.length : Int)⟩] ++ (tagW ps ps.length).drop (lowW ps q.ripe)
theorem putT_map (ps : List Wai) (q : Wai) : (putT ps q).map Tur.w = putW ps q := by
  unfold putT putW
  rw [List.map_append, List.map_append, List.map_take, List.map_drop, tagW_map]; rfl
theorem putT_perm (ps : List Wai) (q : Wai) : (tagW ps ps.length ++ [(⟨q, (ps.length : Int)⟩ : Tur)]).Perm (putT ps q) := by
  unfold putT
  have e : tagW ps ps.length = (tagW ps ps.length).take (lowW ps q.ripe) ++ (tagW ps ps.length).drop (lowW ps q.ripe) := (List.take_append_drop _ _).symm
  conv => lhs; rw [e]
  rw [List.append_assoc, List.append_assoc]
  exact List.Perm.append_left _ List.perm_append_comm
theorem putT_row {ps : List Wai} (q : Wai) (h : waitsB ps = true) : Rowed (putT ps q) := by
  have hr := tagW_row h
  have h20 := (waits_pair.1 h).1
  obtain ⟨g1, g2⟩ := low_parts ps q.ripe (waits_pair.1 h).2.2
  have m1 : ∀ t ∈ (tagW ps ps.length).take (lowW ps q.ripe), t.w.ripe ≤ q.ripe ∧ t.came < ps.length := by
    intro t ht
    refine ⟨g1 _ ?_, (tagW_came (List.mem_of_mem_take ht)).2⟩
    have := List.mem_map_of_mem (f := Tur.w) ht
    rwa [List.map_take, tagW_map] at this
  have m2 : ∀ t ∈ (tagW ps ps.length).drop (lowW ps q.ripe), q.ripe < t.w.ripe ∧ 0 ≤ t.came := by
    intro t ht
    refine ⟨g2 _ ?_, (tagW_came (List.mem_of_mem_drop ht)).1⟩
    have := List.mem_map_of_mem (f := Tur.w) ht
    rwa [List.map_drop, tagW_map] at this
  have hr' := hr
  unfold Rowed at hr'
  rw [← List.take_append_drop (lowW ps q.ripe) (tagW ps ps.length), List.pairwise_append] at hr'
  obtain ⟨r1, r2, r3⟩ := hr'
  unfold Rowed putT
  rw [List.pairwise_append, List.pairwise_append]
  refine ⟨⟨r1, List.pairwise_singleton _ _, fun a ha b hb => ?_⟩, r2, fun a ha b hb => ?_⟩
  · rw [List.mem_singleton] at hb
    subst hb
    have := m1 a ha
    unfold Tur.key; simp only; omega
  · rcases List.mem_append.1 ha with ha | ha
    · exact r3 a ha b hb
    · rw [List.mem_singleton] at ha
      subst ha
      have := m2 b hb
      unfold Tur.key; simp only; omega
theorem put_waits {ps : List Wai} {q : Wai} (h : waitsB ps = true) (hq : waitB q = true) (hl : ps.length < 20) : waitsB (putW ps q) = true := by
  obtain ⟨h1, h2, h3⟩ := waits_pair.1 h
  obtain ⟨g1, g2⟩ := low_parts ps q.ripe h3
  refine waits_pair.2 ⟨by have := putW_le ps q; omega, fun p hp => ?_, ?_⟩
  · unfold putW at hp
    rcases List.mem_append.1 hp with hp | hp
    · rcases List.mem_append.1 hp with hp | hp
      · exact h2 p (List.mem_of_mem_take hp)
      · rw [List.mem_singleton] at hp; subst hp; exact hq
    · exact h2 p (List.mem_of_mem_drop hp)
  · rw [← List.take_append_drop (lowW ps q.ripe) ps, List.pairwise_append] at h3
    obtain ⟨r1, r2, r3⟩ := h3
    unfold putW
    rw [List.pairwise_append, List.pairwise_append]
    refine ⟨⟨r1, List.pairwise_singleton _ _, fun a ha b hb => ?_⟩, r2, fun a ha b hb => ?_⟩
    · rw [List.mem_singleton] at hb; subst hb; exact g1 a ha
    · rcases List.mem_append.1 ha with ha | ha
      · exact r3 a ha b hb
      · rw [List.mem_singleton] at ha; subst ha
        have := g2 b hb; omega
theorem put_not {ps : List Wai} {q : Wai} (h : waitB q = false ∨ ¬ ps.length < 20) : waitsB (putW ps q) = false := by
  cases hw : waitsB (putW ps q)
  · rfl
  · obtain ⟨h1, h2, -⟩ := waits_pair.1 hw
    rcases h with h | h
    · have := h2 q (by simp [putW])
      rw [h] at this; cases this
    · have e : (putW ps q).length = ps.length + 1 := by
        have := lowW_le ps q.ripe
        unfold putW; simp; omega
      omega
/-- Where they stop: all ahead are ripe by then, the next one is not. -/
def Stops (ss : List Tur) (season : Int) (k : Nat) : Prop := k ≤ ss.length ∧ (∀ j (h : j < ss.length), j < k → ss[j].w.ripe ≤ season) ∧ ∀ h : k < ss.length, season < ss[k].w.ripe
theorem stops_all {ss : List Tur} {season : Int} {k : Nat} (h : Stops ss season k) (ha : ∀ t ∈ ss, t.w.ripe ≤ season) : k = ss.length := by
  rcases Nat.lt_or_ge k ss.length with hk | hk
  · have h1 := h.2.2 hk
    have h2 := ha _ (List.getElem_mem hk)
    omega
  · have := h.1; omega
theorem stops_parts {ps : List Wai} {season : Int} {k : Nat} (hw : waitsB ps = true) (h : Stops (tagW ps ps.length) season k) : ripeV ps season = ps.take k ∧ laterV ps season = ps.drop k := by
  have hk := h.1
  rw [tagW_len] at hk
  have hp := List.pairwise_iff_getElem.1 (waits_pair.1 hw).2.2
  have m1 : ∀ p ∈ ps.take k, p.ripe ≤ season := by
    intro p hp'
    obtain ⟨j, hj, rfl⟩ := List.getElem_of_mem hp'
    rw [List.length_take] at hj
    have := h.2.1 j (by rw [tagW_len]; omega) (by omega)
    rw [tagW_at] at this
    simp only [watn_eq (show j < ps.length by omega)] at this
    rw [List.getElem_take]; exact this
  have m2 : ∀ p ∈ ps.drop k, season < p.ripe := by
    intro p hp'
    obtain ⟨j, hj, rfl⟩ := List.getElem_of_mem hp'
    rw [List.length_drop] at hj
    have h1 := h.2.2 (by rw [tagW_len]; omega)
    rw [tagW_at] at h1
    simp only [watn_eq (show k < ps.length by omega)] at h1
    rw [List.getElem_drop]
    by_cases e : j = 0
    · subst e; simpa using h1
    · have := hp k (k + j) (by omega) (by omega) (by omega)
      omega
  rw [ripeV, laterV, if_pos hw, if_pos hw]
  unfold ripeOf laterOf
  constructor
  · conv => lhs; rw [← List.take_append_drop k ps]
    rw [List.filter_append, List.filter_eq_self.2 (fun p hp => by have := m1 p hp; simp; omega), List.filter_eq_nil_iff.2 (fun p hp => by have := m2 p hp; simp; omega), List.append_nil]
  · conv => lhs; rw [← List.take_append_drop k ps]
    rw [List.filter_append, List.filter_eq_nil_iff.2 (fun p hp => by have := m1 p hp; simp; omega), List.filter_eq_self.2 (fun p hp => by have := m2 p hp; simp; omega), List.nil_append]
theorem wait_ripe {ps : List Wai} (h : waitsB ps = true) : ∀ p ∈ ps, p.ripe ≤ 1000 := fun p hp => (wait_bd ((waits_pair.1 h).2.1 p hp)).2.2
end Go.Proofs.YtncandoohlndnaaGreat
namespace Go.Proofs.YtncandoohlndnaaGreat
open Go.ChangeShapes Go.WideShapes Go.ChangeAt Go.RowKit

/-- What a join leaves. -/
def Joined (w : World) (B q : Nat) (all : List Tur) (e : Ending) (w' : World) : Prop :=
  e = .returned (.tuple #[]) ∧ (∃ g cap us, Que w' B q g us cap ∧ us.Perm all ∧ Heaped us us.length) ∧ Below B w w'

set_option maxHeartbeats 2000000 in
set_option maxRecDepth 100000 in
theorem qJoin_any {w : World} {B q g cap : Nat} {ts : List Tur} (p : Wai) (h : Que w B q g ts cap) (hB : B ≤ w.heap.size) (hl : ts.length ≤ 90) (hf : Fine ts) (hh : Heaped ts ts.length) :
    Calls Tryz.prog 74 #[.pointer (some ⟨q, 0, none⟩), .agg #[.string p.who, .string p.mill, .int .i64 p.amount, .int .i64 p.ripe]] w (Joined w B q (ts ++ [⟨p, (ts.length : Int)⟩])) := by
  have HF := Lib.hid (show Fine (ts ++ [⟨p, (ts.length : Int)⟩]) from fun t ht => by
    rcases List.mem_append.1 ht with ht | ht
    · exact hf t ht
    · rw [List.mem_singleton] at ht; subst ht; simp only; omega)
  have HH := Lib.hid hh
  have HQ := Lib.hid (h.below (below_new w (.cells #[.string p.who, .string p.mill, .int .i64 p.amount, .int .i64 p.ripe] 46)))
  have hx := RecAt.new Wai.cs w p 46
  obtain ⟨W, hW⟩ : ∃ W, w.alloc (.cells #[.string p.who, .string p.mill, .int .i64 p.amount, .int .i64 p.ripe] 46) = W := ⟨_, rfl⟩
  have HB1 := Lib.hid (show Below B w W by rw [← hW]; exact (Below.refl _ _).alloc hB _)
  have hBW : B ≤ W.heap.size := Nat.le_trans hB HB1.out.size
  rw [hW] at HQ
  have c0 : W.cell? ⟨w.heap.size, 0, none⟩ = some (.string p.who) := by rw [← hW]; exact hx 0 _ rfl
  have c1 : W.cell? ⟨w.heap.size, 1, none⟩ = some (.string p.mill) := by rw [← hW]; exact hx 1 _ rfl
  have c2 : W.cell? ⟨w.heap.size, 2, none⟩ = some (.int .i64 p.amount) := by rw [← hW]; exact hx 2 _ rfl
  have c3 : W.cell? ⟨w.heap.size, 3, none⟩ = some (.int .i64 p.ripe) := by rw [← hW]; exact hx 3 _ rfl
  have e0 := Grow.cell c0
  have e1 := Grow.cell c1
  have e2 := Grow.cell c2
  have e3 := Grow.cell c3
  have eq := Grow.cell HQ.out.ref
  clear h hf hh hx c0 c1 c2 c3
  go_enter Tryz.func74, Tryz.ntmps74
  go_wp2_with fail
  clear hW
  refine wp_region_grow_tail 9 (by kernel_rfl) (by kernel_rfl) ?_
  simp only [List.take_succ_cons, List.take_zero, List.drop_succ_cons, List.drop_zero]
  repeat (go_big_quiet_step ((go_at_call 75; exact grow_same rfl (qLen_any _ _ _ _))))
  refine wpQuiet_nil ?_
  intro gq
  have HBG := Lib.hid (HB1.out.trans (gq.ok.mono hBW))
  go_wp2_with fail
  refine (hPush_any ⟨p, (ts.length : Int)⟩ (HQ.out.below gq.ok) (Nat.le_trans hBW gq.ok.size) hl HF.out HH.out).mono ?_
  rintro e w3 ⟨rfl, hu, hb3⟩
  have HR : Hid (Joined w B q (ts ++ [⟨p, (ts.length : Int)⟩]) (.returned (.tuple #[])) w3) := ⟨rfl, hu, HBG.out.trans hb3⟩
  clear hu hb3
  go_wp2
  exact bodyPost_end (v := .tuple #[]) (by simp [results, Tryz.results74, go_sem]) rfl HR.out
end Go.Proofs.YtncandoohlndnaaGreat
namespace Go.Proofs.YtncandoohlndnaaGreat
open Go.ChangeShapes Go.WideShapes Go.ChangeAt Go.RowKit

/-- What 'queued' leaves: a queue in the second block behind all that was there, of those that joined. -/
def Queued (w : World) (ps : List Wai) (ok : Bool) (e : Ending) (w' : World) : Prop :=
  e = .returned (.tuple #[.pointer (some ⟨w.heap.size + 1, 0, none⟩), .bool ok]) ∧ (∃ g cap us, Que w' w.heap.size (w.heap.size + 1) g us cap ∧ us.Perm (if ok then tagW ps ps.length else []) ∧ Heaped us us.length) ∧ Below w.heap.size w w'
/-- The loop's word. -/
def QueRel (w : World) (ps : List Wai) (i : Value) (w' : World) : Prop :=
  ∃ k : Nat, k ≤ ps.length ∧ i = .int .i64 k ∧ (∃ g cap us, Que w' w.heap.size (w.heap.size + 1) g us cap ∧ us.Perm (tagW ps k) ∧ Heaped us us.length) ∧ Below w.heap.size w w'

set_option maxHeartbeats 4000000 in
set_option maxRecDepth 100000 in
theorem iQueued_any {w : World} {a : Option Addr} {ps : List Wai} (cap : Nat) (h : Recs Wai.cs w a ps) (hl : ps.length ≤ 1048576) (hs : WSized ps) :
    Calls Tryz.prog 45 #[.slice a ps.length cap] w (Queued w ps (waitsB ps)) := by
  have H := Lib.hid h
  have HS := Lib.hid hs
  clear h hs
  have HB0 : Hid (Below w.heap.size w ((w.alloc (.cells #[] 117)).alloc (.cells #[.slice (some ⟨w.heap.size, 0, none⟩) 0 0] 113))) := below_trans (below_new _ _) (below_new _ _)
  have HQ0 : Hid (Que ((w.alloc (.cells #[] 117)).alloc (.cells #[.slice (some ⟨w.heap.size, 0, none⟩) 0 0] 113)) w.heap.size (w.heap.size + 1) w.heap.size [] 0) := by
    have e : (w.alloc (.cells #[] 117)).heap.size = w.heap.size + 1 := by simp
    have o1 : (w.alloc (.cells #[] 117)).ownsRow w.heap.size 117 5 (.slice (some ⟨w.heap.size, 0, none⟩) 0 0) 0 [] := ⟨rfl, .inr ⟨w.heap.size, 0, #[], rfl, Nat.le_refl _, heap_alloc_new _ _, Nat.le_refl _, Nat.zero_le _, rfl, rfl⟩⟩
    refine ⟨?_, ?_, o1.alloc _, by omega, by simp, by omega⟩
    · have := RecAt.new (fun v : Value => [v]) (w.alloc (.cells #[] 117)) (.slice (some ⟨w.heap.size, 0, none⟩) 0 0) 113 0 _ rfl
      rw [e] at this; exact this
    · have := free_new (w.alloc (.cells #[] 117)) #[.slice (some ⟨w.heap.size, 0, none⟩) 0 0] 113 0
      rw [e] at this; exact this
  go_enter Tryz.func45, Tryz.ntmps45
  go_wp2_with fail
  refine (iWaitsOk_any _ (H.out.below HB0.out) (by omega) HS.out).mono ?_
  rintro e w1 ⟨rfl, hb1⟩
  have HB1 := Lib.hid (below_trans HB0.out hb1)
  have HQ1 := Lib.hid (HQ0.out.below hb1)
  clear hb1 HB0 HQ0
  cases hf : waitsB ps
  · have HN : Hid (Queued w ps false (.returned (.tuple #[.pointer (some ⟨w.heap.size + 1, 0, none⟩), .bool false])) w1) :=
      ⟨rfl, ⟨w.heap.size, 0, [], HQ1.out, by simp, fun x _ hx => by simp at hx⟩, HB1.out⟩
    go_wp2
    go_ret2
    rw [hf]
    exact HN.out
  have h20 := (waits_true hf).1
  have HR0 : Hid (QueRel w ps (.int .i64 0) w1) := ⟨0, Nat.zero_le _, rfl, ⟨w.heap.size, 0, [], HQ1.out, by simp [tagW], fun x _ hx => by simp at hx⟩, HB1.out⟩
  clear HB1 HQ1
  go_wp2_with fail
  go_loopw [15] (fun i wr => QueRel w ps i wr) (fun i _ => ps.length - (intOf i).toNat)
  case atStart => exact HR0.out
  case round =>
    clear HR0
    obtain ⟨k, hk, rfl, ⟨g, c, us, hq, hp, hh⟩, hb⟩ := hrel
    have HQ := Lib.hid hq
    have HP := Lib.hid hp
    have HH := Lib.hid hh
    have HB := Lib.hid hb
    clear hq hp hh hb
    by_cases hlt : k < ps.length
    · obtain ⟨b, off, rfl, hlb, c0, c1, c2, c3⟩ := Wai.at (H.out.below HB.out) k hlt
      have HLU := Lib.hid (show us.length = k by rw [HP.out.length_eq, tagW_len])
      have HFI := Lib.hid ((tagW_fine ps (show k ≤ 100 by omega)).perm HP.out)
      have HQN := Lib.hid (HQ.out.below (below_new wr (.cells #[.string ps[k].who, .string ps[k].mill, .int .i64 ps[k].amount, .int .i64 ps[k].ripe] 46)))
      have HBN := Lib.hid (below_trans HB.out (below_new wr (.cells #[.string ps[k].who, .string ps[k].mill, .int .i64 ps[k].amount, .int .i64 ps[k].ripe] 46)))
      have HSZ := Lib.hid HBN.out.size
      have HTS := Lib.hid (show us ++ [(⟨ps[k], (us.length : Int)⟩ : Tur)] = us ++ [⟨watn ps k, (k : Int)⟩] by rw [HLU.out, watn_eq hlt])
      go_wp2_with fail
      refine (qJoin_any ps[k] HQN.out HSZ.out (by rw [HLU.out]; omega) HFI.out HH.out).mono ?_
      rintro e w2 ⟨rfl, ⟨g2, c2', us2, hq2, hp2, hh2⟩, hb2⟩
      have HR : Hid (QueRel w ps (.int .i64 ((k : Int) + 1)) w2) := by
        refine ⟨k + 1, by omega, by go_num, ⟨g2, c2', us2, hq2, ?_, hh2⟩, HBN.out.trans hb2⟩
        rw [HTS.out] at hp2
        rw [tagW_succ]
        exact hp2.trans (HP.out.append_right _)
      clear hq2 hp2 hh2 hb2
      go_wp2
      go_roundw
      case rel => exact HR.out
      case measure => simp [intOf]; omega
    · obtain rfl : k = ps.length := by omega
      have HN : Hid (Queued w ps true (.returned (.tuple #[.pointer (some ⟨w.heap.size + 1, 0, none⟩), .bool true])) wr) := ⟨rfl, ⟨g, c, us, HQ.out, by simpa using HP.out, HH.out⟩, HB.out⟩
      go_wp2
      go_ret2
      rw [hf]
      exact HN.out

/-- What 'leave' leaves: the first k of those that wait, in a list of the call's own, and the others. -/
def Left (w : World) (B q g cap : Nat) (ss : List Tur) (season : Int) (e : Ending) (w' : World) : Prop :=
  ∃ k b c us, e = .returned (.slice (some ⟨b, 0, none⟩) k c) ∧ Stops ss season k ∧ w'.ownsRow w.heap.size 46 4 (.slice (some ⟨b, 0, none⟩) k c) k (((ss.take k).map Tur.w).flatMap Wai.cs) ∧ Que w' B q g us cap ∧ us.Perm (ss.drop k) ∧ Heaped us us.length ∧ But q g w w'
/-- The loop's word. -/
def LeaveRel (w : World) (B q g cap : Nat) (ss : List Tur) (season : Int) (v : Value) (w' : World) (k : Nat) : Prop :=
  ∃ b c us, v = .slice (some ⟨b, 0, none⟩) k c ∧ k ≤ ss.length ∧ (∀ j (h : j < ss.length), j < k → ss[j].w.ripe ≤ season) ∧ w'.ownsRow w.heap.size 46 4 (.slice (some ⟨b, 0, none⟩) k c) k (((ss.take k).map Tur.w).flatMap Wai.cs) ∧ Que w' B q g us cap ∧ us.Perm (ss.drop k) ∧ Heaped us us.length ∧ But q g w w'
def lenOf : Value → Nat
  | .slice _ n _ => n
  | _ => 0

theorem But.grown {q g b : Nat} {w w1 w2 : World} (h : But q g w w1) (hg : w1.grownBy w2 (some b)) (hb : w.heap.size ≤ b) : But q g w w2 :=
  ⟨hg.os.trans h.os, hg.tape.trans h.tape, hg.output.trans h.output, Nat.le_trans h.size hg.size, fun i hi h1 h2 => (hg.block i (Nat.lt_of_lt_of_le hi h.size) (by intro e; injection e with e; omega)).trans (h.block i hi h1 h2)⟩
theorem Que.grown {w w' : World} {B q g b cap : Nat} {ts : List Tur} (h : Que w B q g ts cap) (hg : w.grownBy w' (some b)) (hq : b ≠ q) (hgb : b ≠ g) : Que w' B q g ts cap := by
  have hb := hg.block q h.hi (by intro e; injection e with e; exact hq e.symm)
  exact ⟨by rw [World.cell?_of_block hb]; exact h.ref, by rw [World.frozen?_of_block hb]; exact h.free, h.row.kept hg (.inr (by intro e; injection e with e; exact hgb e.symm)), h.lo, Nat.lt_of_lt_of_le h.hi hg.size, h.ne⟩

set_option maxHeartbeats 4000000 in
set_option maxRecDepth 100000 in
theorem qLeave_any {w : World} {B q g cap : Nat} {ts ss : List Tur} (season : Int) (h : Que w B q g ts cap) (hl : ss.length ≤ 90) (hf : Fine ts) (hh : Heaped ts ts.length) (hp : ts.Perm ss) (hr : Rowed ss) :
    Calls Tryz.prog 46 #[.pointer (some ⟨q, 0, none⟩), .int .i64 season] w (Left w B q g cap ss season) := by
  obtain ⟨i0, hi, hz0, hz1, hz2⟩ := info_parts info_Wait
  have HI := Lib.hid hi
  have HZ0 := Lib.hid hz0
  have HZ1 := Lib.hid hz1
  have HZ2 := Lib.hid hz2
  clear hi hz0 hz1 hz2
  have HF := Lib.hid (hf.perm hp.symm)
  have HRW := Lib.hid hr
  have hql := h.hi
  have hgl := h.glo.2
  have HR0 : Hid (∃ k, LeaveRel w B q g cap ss season (.slice (some ⟨w.heap.size, 0, none⟩) 0 0) (w.alloc (.cells #[] 46)) k) := by
    refine ⟨0, w.heap.size, 0, ts, rfl, Nat.zero_le _, fun _ _ h => by omega, ?_, h.below (below_new _ _), by simpa using hp, hh, But.of (below_new _ _)⟩
    exact ⟨rfl, .inr ⟨w.heap.size, 0, #[], rfl, Nat.le_refl _, heap_alloc_new _ _, Nat.le_refl _, Nat.zero_le _, rfl, rfl⟩⟩
  clear h hf hh hp hr
  go_enter Tryz.func46, Tryz.ntmps46
  go_wp2_with fail
  go_loopw [5] (fun v wr => ∃ k, LeaveRel w B q g cap ss season v wr k) (fun v _ => ss.length - lenOf v)
  case atStart => exact HR0.out
  case round =>
    clear HR0
    obtain ⟨k, b, c, us, rfl, hk, hle, ho, hq, hp, hh, hbut⟩ := hrel
    have HLE := Lib.hid hle
    have HO := Lib.hid ho
    have HQ := Lib.hid hq
    have HP := Lib.hid hp
    have HH := Lib.hid hh
    have HBT := Lib.hid hbut
    have hlu : us.length = ss.length - k := by rw [hp.length_eq, List.length_drop]
    have hrf := hq.ref
    obtain ⟨-, -, -, hb1, hb2⟩ := own_some ho
    clear hle ho hq hp hh hbut
    by_cases hlt : k < ss.length
    · have HDR := Lib.hid (List.drop_eq_getElem_cons hlt)
      have HRK := Lib.hid (show Rowed (ss[k] :: ss.drop (k + 1)) by rw [← HDR.out]; exact HRW.out.drop)
      have HPK := Lib.hid (show us.Perm (ss[k] :: ss.drop (k + 1)) by rw [← HDR.out]; exact HP.out)
      have h0 : 0 < us.length := by omega
      have HFI := Lib.hid (show us[0] = ss[k] by rw [← tatn_eq h0]; exact (first_is HH.out HPK.out HRK.out).2)
      obtain ⟨-, x0, x1, x2, x3, x4⟩ := Tur.at HQ.out.recs 0 h0
      simp only [Nat.zero_mul, Nat.zero_add] at x0 x1 x2 x3 x4
      rw [HFI.out] at x3
      clear x0 x1 x2 x4
      by_cases hrp : ss[k].w.ripe ≤ season
      · have hta := assert_turn ss[k]
        have htf := field_turn ss[k]
        have HBZ : Hid (∀ z, (Value.slice (some ⟨b, 0, none⟩) k c).ownBlock = some z → z ≠ q ∧ z ≠ g) := by
          intro z hz
          have : b = z := by simpa [Value.ownBlock] using hz
          omega
        have HFU := Lib.hid (show Fine us from fun t ht => HF.out t (List.mem_of_mem_drop (HP.out.mem_iff.1 ht)))
        have HLU := Lib.hid hlu
        go_wp2_with (go_at_call 75; refine (qLen_any _ _ _ _).mono ?_; rintro e w' ⟨rfl, rfl⟩)
        refine (hPop_any (n := us.length - 1) HQ.out (by omega) (by omega) HFU.out HH.out HPK.out HRK.out).mono ?_
        rintro e w2 ⟨rfl, us2, hq2, hp2, hh2, hbt2⟩
        have HQ2 := Lib.hid hq2
        have HP2 := Lib.hid hp2
        have HH2 := Lib.hid hh2
        have HBT2 := Lib.hid (HBT.out.trans hbt2)
        have HO2 := Lib.hid ((hbt2.own HO.out HBZ.out).alloc (.cells #[.string ss[k].w.who, .string ss[k].w.mill, .int .i64 ss[k].w.amount, .int .i64 ss[k].w.ripe] 46))
        have hsz2 : w.heap.size ≤ w2.heap.size := HBT2.out.size
        have HN2 := Lib.hid (rec_new ss[k].w w2)
        clear hq2 hp2 hh2 hbt2 hrf x3
        unfold Tur.val
        go_wp2_with (at_builtin; refine wpList_append_some rfl _ _ 33 rfl w.heap.size 46 i0 (.agg #[.string ByteArray.empty, .string ByteArray.empty, .int .i64 0, .int .i64 0]) 4 48 Tryz.underlying33 HI.out HZ0.out HZ1.out HZ2.out rfl (by decide) b c _ _ rfl HO2.out ⟨w2.heap.size, 0, none⟩ 1 1 ss[k].w.cs rfl rfl HN2.out (Wai.one _) ?c2 ?c3 ?_)
        case c2 => unfold maxLen; omega
        case c3 => omega
        rintro g6 c6 w6 ⟨h6, h6g, h6b, h6l, h6x⟩
        have HR : Hid (LeaveRel w B q g cap ss season (.slice (some ⟨g6, 0, none⟩) (k + 1) c6) w6 (k + 1)) := by
          refine ⟨g6, c6, us2, rfl, by omega, ?_, ?_, (HQ2.out.below (below_new _ _)).grown h6g (by omega) (by omega), HP2.out, HH2.out, (HBT2.out.trans (But.of (below_new _ _))).grown h6g hb1⟩
          · intro j hj hjk
            by_cases e : j = k
            · subst e; exact hrp
            · exact HLE.out j hj (by omega)
          · rw [List.take_succ_eq_append_getElem hlt, List.map_append, List.flatMap_append]
            simpa using h6
        clear h6 h6g h6b h6l h6x
        go_wp2
        go_roundw
        case rel => exact ⟨k + 1, HR.out⟩
        case measure => simp [lenOf]; omega
      · have HN : Hid (Left w B q g cap ss season (.returned (.slice (some ⟨b, 0, none⟩) k c)) wr) := ⟨k, b, c, us, rfl, ⟨hk, HLE.out, fun _ => by omega⟩, HO.out, HQ.out, HP.out, HH.out, HBT.out⟩
        go_wp2_with (go_at_call 75; refine (qLen_any _ _ _ _).mono ?_; rintro e w' ⟨rfl, rfl⟩)
        go_ret
        exact HN.out
    · obtain rfl : k = ss.length := by omega
      have hz : us.length = 0 := by omega
      rw [hz] at hrf
      have HN : Hid (Left w B q g cap ss season (.returned (.slice (some ⟨b, 0, none⟩) ss.length c)) wr) := ⟨ss.length, b, c, us, rfl, ⟨hk, HLE.out, fun h => absurd h hlt⟩, HO.out, HQ.out, HP.out, HH.out, HBT.out⟩
      go_wp2_with (go_at_call 75; refine (qLen_any _ _ _ _).mono ?_; rintro e w' ⟨rfl, rfl⟩)
      go_ret
      exact HN.out
end Go.Proofs.YtncandoohlndnaaGreat
namespace Go.Proofs.YtncandoohlndnaaGreat
open Go.ChangeShapes Go.WideShapes Go.ChangeAt Go.RowKit

theorem own_row {w : World} {B b k c : Nat} {out : List Wai} (hk : out.length = k) (h : w.ownsRow B 46 4 (.slice (some ⟨b, 0, none⟩) k c) k (out.flatMap Wai.cs)) : OwnR Wai.cs 4 w B (some ⟨b, 0, none⟩) out ∧ out.length ≤ c := by
  subst hk
  obtain ⟨a, c', e, hr, -⟩ := ownR_of Wai.len h
  injection e with e1 _ e3
  subst e1; subst e3
  exact ⟨hr, (own_some h).2.1⟩
/-- All come out. -/
theorem left_all {w w' : World} {B q g cap : Nat} {ss : List Tur} {e : Ending} (h : Left w B q g cap ss 1000 e w') (ha : ∀ t ∈ ss, t.w.ripe ≤ 1000) :
    ∃ b c, e = .returned (.slice (some ⟨b, 0, none⟩) (ss.map Tur.w).length c) ∧ OwnR Wai.cs 4 w' w.heap.size (some ⟨b, 0, none⟩) (ss.map Tur.w) ∧ (ss.map Tur.w).length ≤ c ∧ But q g w w' ∧ w.heap.size ≤ b := by
  obtain ⟨k, b, c, us, rfl, hs, ho, -, -, -, hb⟩ := h
  obtain rfl := stops_all hs ha
  rw [List.take_length] at ho
  have := own_row (by simp) ho
  exact ⟨b, c, by rw [List.length_map], this.1, this.2, hb, (own_some ho).2.2.2.1⟩

theorem ownR_down {w : World} {B B' : Nat} {a : Option Addr} {xs : List Wai} (h : OwnR Wai.cs 4 w B a xs) (hB : B' ≤ B) : OwnR Wai.cs 4 w B' a xs := h.mono hB

/-- What comes back where all of ss come out. -/
theorem wait_ends {w w1 w' : World} {B q g cap : Nat} {ss : List Tur} {ps : List Wai} {p : Wai} {e : Ending} (h : Left w1 B q g cap ss 1000 e w') (ha : ∀ t ∈ ss, t.w.ripe ≤ 1000) (hb : Below w.heap.size w w1) (hB : w.heap.size ≤ B) (hq : B ≤ q) (hg : B ≤ g) (hl : ss.map Tur.w = waitingL ps p) :
    ∃ b c, e = .returned (.slice (some ⟨b, 0, none⟩) (waitingL ps p).length c) ∧ ResOB Wai.cs 4 (waitingL ps p) (waitingB ps p) w (.returned (.tuple #[.slice (some ⟨b, 0, none⟩) (waitingL ps p).length c, .bool (waitingB ps p)])) w' := by
  obtain ⟨b, c, he, ho, hle, hbt, -⟩ := left_all h ha
  rw [hl] at he ho hle
  exact ⟨b, c, he, ⟨_, c, rfl, ho.mono hb.size, hb.trans (hbt.below hb.size (by omega) (by omega)), hle⟩⟩

/-- How those of a list come out at a season. -/
structure Outs (ps : List Wai) (ss : List Tur) (season : Int) : Prop where
  row : Rowed ss
  fine : Fine ss
  few : ss.length ≤ 20
  old : ∀ t ∈ ss, t.w.ripe ≤ 1000
  parts : ∀ k, Stops ss season k → (ss.take k).map Tur.w = ripeV ps season ∧ (ss.drop k).map Tur.w = laterV ps season
theorem outs_of (ps : List Wai) (season : Int) : Outs ps (if waitsB ps then tagW ps ps.length else []) season := by
  cases hf : waitsB ps
  · exact ⟨List.Pairwise.nil, fun t ht => by simp at ht, by simp, fun t ht => by simp at ht, fun k _ => by simp [ripeV, laterV, hf]⟩
  · have h20 := (waits_true hf).1
    refine ⟨tagW_row hf, tagW_fine ps (by omega), by simp [tagW_len]; omega, fun t ht => wait_ripe hf _ ?_, fun k hk => ?_⟩
    · have := List.mem_map_of_mem (f := Tur.w) (show t ∈ tagW ps ps.length from ht)
      rwa [tagW_map] at this
    · have := stops_parts hf hk
      rw [this.1, this.2]
      simp only [if_true]
      rw [List.map_take, List.map_drop, tagW_map]
      exact ⟨rfl, rfl⟩

set_option maxHeartbeats 4000000 in
set_option maxRecDepth 100000 in
theorem iRipeAt_any {w : World} {a : Option Addr} {ps : List Wai} (cap : Nat) (season : Int) (h : Recs Wai.cs w a ps) (hl : ps.length ≤ 1048576) (hs : WSized ps) :
    Calls Tryz.prog 22 #[.slice a ps.length cap, .int .i64 season] w (ResOO Wai.cs 4 (laterV ps season) (ripeV ps season) w) := by
  have H := Lib.hid h
  have HS := Lib.hid hs
  clear h hs
  obtain ⟨ss, hss⟩ : ∃ ss, (if waitsB ps then tagW ps ps.length else []) = ss := ⟨_, rfl⟩
  have HU := Lib.hid (show Outs ps ss season by rw [← hss]; exact outs_of ps season)
  have HSS := Lib.hid hss
  clear hss
  go_enter Tryz.func22, Tryz.ntmps22
  go_wp2_with fail
  refine (iQueued_any _ H.out hl HS.out).mono ?_
  rintro e w1 ⟨rfl, ⟨g, c1, us, hq1, hp1, hh1⟩, hb1⟩
  have HQ1 := Lib.hid hq1
  have HP1 := Lib.hid (show us.Perm ss by rw [← HSS.out]; exact hp1)
  have HH1 := Lib.hid hh1
  have HB1 := Lib.hid hb1
  clear hq1 hp1 hh1 hb1
  go_wp2_with fail
  refine (qLeave_any (ss := ss) season HQ1.out (Nat.le_trans HU.out.few (by omega)) (HU.out.fine.perm HP1.out) HH1.out HP1.out HU.out.row).mono ?_
  rintro e w2 ⟨k, b2, c2, us2, rfl, hst, ho2, hq2, hp2, hh2, hbt2⟩
  have HST := Lib.hid hst
  have HO2 := Lib.hid ho2
  have HQ2 := Lib.hid hq2
  have HP2 := Lib.hid hp2
  have HH2 := Lib.hid hh2
  have HBT2 := Lib.hid hbt2
  clear hst ho2 hq2 hp2 hh2 hbt2
  go_wp2_with fail
  refine (qLeave_any (ss := ss.drop k) 1000 HQ2.out (by have := HU.out.few; rw [List.length_drop]; omega) (fun t ht => HU.out.fine t (List.mem_of_mem_drop (HP2.out.mem_iff.1 ht))) HH2.out HP2.out HU.out.row.drop).mono ?_
  rintro e w3 hw3
  obtain ⟨b3, c3, he3, ho3, hle3, hbt3, hb3⟩ := left_all hw3 (fun t ht => HU.out.old t (List.mem_of_mem_drop ht))
  obtain ⟨L, HL⟩ : ∃ L, Hid (((ss.drop k).map Tur.w).length = L) := ⟨_, Lib.hid rfl⟩
  rw [HL.out] at he3
  subst he3
  have HR : Hid (ResOO Wai.cs 4 (laterV ps season) (ripeV ps season) w (.returned (.tuple #[.slice (some ⟨b3, 0, none⟩) L c3, .slice (some ⟨b2, 0, none⟩) k c2])) w3) := by
    rw [← HL.out]
    obtain ⟨e1, e2⟩ := HU.out.parts k HST.out
    have hlo := HQ1.out.lo
    have hhi := HQ1.out.hi
    have hgl := HQ1.out.glo
    have hs1 := HB1.out.size
    have hs2 := HBT2.out.size
    obtain ⟨-, -, -, o1, o2⟩ := own_some HO2.out
    have ho2' := hbt3.own HO2.out (fun z hz => by
      have e : b2 = z := by simpa [Value.ownBlock] using hz
      subst e; exact ⟨by omega, by omega⟩)
    have hkl : ((ss.take k).map Tur.w).length = k := by have := HST.out.1; simp; omega
    have r2 := own_row hkl ho2'
    rw [e2] at ho3 ⊢
    rw [e1] at r2 hkl
    refine ⟨_, c3, _, c2, by rw [hkl], ho3.mono (by omega), r2.1.mono hs1, ?_, ?_⟩
    · intro x1 x2 h1 h2 _ _
      injection h1 with h1; injection h1 with h1
      injection h2 with h2; injection h2 with h2
      omega
    · exact HB1.out.trans ((HBT2.out.trans hbt3).below hs1 hlo hgl.1)
  clear hw3 ho3 hle3 hbt3 hb3
  go_wp2
  go_ret2
  exact HR.out
end Go.Proofs.YtncandoohlndnaaGreat
namespace Go.Proofs.YtncandoohlndnaaGreat
open Go.ChangeShapes Go.WideShapes Go.ChangeAt Go.RowKit

set_option maxRecDepth 100000 in
theorem eq_share (x y u v : Int) (w : World) :
    (Op.equalIn 10000 197 (.agg #[.int .i64 x, .int .i64 y]) (.agg #[.int .i64 u, .int .i64 v])).run Tryz.prog w = .ok (x == u && y == v) w := by
  obtain ⟨i, hi⟩ : ∃ i, Tryz.prog.info? 2 = some i := ⟨_, rfl⟩
  have hc : Tryz.prog.cellsOf 2 = 1 := by kernel_rfl
  have hk : Tryz.prog.plainKey 2 = true := by kernel_rfl
  rw [run_equalIn_array w 9999 _ _ Tryz.underlying197 hi, hc]
  have hr : List.range 2 = [0, 1] := rfl
  rw [hr]
  have p0 : ∀ a b : Int, (part 2 #[.int .i64 a, .int .i64 b] (0 * 1)).run Tryz.prog w = .ok (.int .i64 a) w := fun a b => run_part_plain w hk rfl
  have p1 : ∀ a b : Int, (part 2 #[.int .i64 a, .int .i64 b] (1 * 1)).run Tryz.prog w = .ok (.int .i64 b) w := fun a b => run_part_plain w hk rfl
  have he : ∀ a b : Int, (Op.equalIn 9999 2 (.int .i64 a) (.int .i64 b)).run Tryz.prog w = .ok (a == b) w := fun a b => run_equalIn_int w 9998 _ _ .i64 a b Tryz.underlying2
  simp only [Op.eqItems, Sem.run_bind, p0, he, Result.andThen_ok]
  cases h0 : (x == u) <;> cases h1 : (y == v) <;> simp [p1, he, h1]
end Go.Proofs.YtncandoohlndnaaGreat
namespace Go.Proofs.YtncandoohlndnaaGreat
open Go.ChangeShapes Go.WideShapes Go.ChangeAt Go.RowKit

/-- A mill as a value. -/
abbrev Mil.agg (m : Mil) : Value := .agg #[.string m.name, .int .i64 m.stake, .int .i64 m.shares, .int .i64 m.cut, .bool m.shut]

theorem iShare_any (m : Mil) (w : World) :
    Calls Tryz.prog 157 #[.agg #[.string m.name, .int .i64 m.stake, .int .i64 m.shares, .int .i64 m.cut, .bool m.shut]] w fun e w' => e = .returned (.agg #[.int .i64 m.stake, .int .i64 m.shares]) ∧ Below w.heap.size w w' := by
  go_enter Tryz.func157, Tryz.ntmps157
  go_wp2
  refine bodyPost_ret (v := .agg #[.int .i64 m.stake, .int .i64 m.shares]) (by simp [results, Tryz.results157, go_sem]) rfl ⟨rfl, ?_⟩
  exact below_trans (below_new _ _) (below_new _ _)

/-- None: no Stake and no Shares. -/
def noneB (x y : Int) : Bool := x == 0 && y == 0

theorem iNone_any (x y : Int) (w : World) :
    Calls Tryz.prog 158 #[.agg #[.int .i64 x, .int .i64 y]] w fun e w' => e = .returned (.bool (noneB x y)) ∧ Below w.heap.size w w' := by
  have HN : Hid (noneB x y = (x == 0 && y == 0)) := rfl
  have he := eq_share x y 0 0
  go_enter Tryz.func158, Tryz.ntmps158
  cases hx : (x == 0) <;> cases hy : (y == 0)
  all_goals
    go_wp2
    go_ret
    exact ⟨by rw [HN.out, hx, hy]; rfl, below_new _ _⟩

/-- What 'right' answers: all but the name. -/
def rightB (m : Mil) : Bool := inB 0 1000000 m.stake && (inB 0 1000000000 m.shares && ((m.stake == 0 || decide (0 < m.shares)) && inB 0 100 m.cut))
theorem millB_right (m : Mil) : millB m = (nameB m.name && rightB m) := rfl
theorem none_zero {x y : Int} (h : y = 0) : noneB x y = (x == 0) := by subst h; simp [noneB]
theorem none_pos {x y : Int} (h : 0 < y) : noneB x y = false := by
  have : (y == 0) = false := by simp; omega
  simp [noneB, this]

set_option maxHeartbeats 1000000 in
set_option maxRecDepth 100000 in
theorem mright_any (m : Mil) (w : World) :
    Calls Tryz.prog 156 #[.agg #[.string m.name, .int .i64 m.stake, .int .i64 m.shares, .int .i64 m.cut, .bool m.shut]] w fun e w' => e = .returned (.bool (rightB m)) ∧ Below w.heap.size w w' := by
  have HN : Hid (rightB m = (inB 0 1000000 m.stake && (inB 0 1000000000 m.shares && ((m.stake == 0 || decide (0 < m.shares)) && inB 0 100 m.cut)))) := rfl
  cases h2 : inB 0 1000000 m.stake
  · go_enter Tryz.func156, Tryz.ntmps156
    go_wp2_with (go_at_call 65; refine (iAmountOk_any _ _).mono ?_; rintro e w' ⟨rfl, rfl⟩; rw [h2])
    go_ret
    exact ⟨by rw [HN.out, h2]; rfl, below_new _ _⟩
  cases h3 : inB 0 1000000000 m.shares
  · go_enter Tryz.func156, Tryz.ntmps156
    go_wp2_with (first | (go_at_call 65; refine (iAmountOk_any _ _).mono ?_; rintro e w' ⟨rfl, rfl⟩; rw [h2]) | (go_at_call 113; refine (iSharesOk_any _ _).mono ?_; rintro e w' ⟨rfl, rfl⟩; rw [h3]))
    go_ret
    exact ⟨by rw [HN.out, h2, h3]; rfl, below_new _ _⟩
  cases h6 : inB 0 100 m.cut
  · go_enter Tryz.func156, Tryz.ntmps156
    go_wp2_with (first | (go_at_call 65; refine (iAmountOk_any _ _).mono ?_; rintro e w' ⟨rfl, rfl⟩; rw [h2]) | (go_at_call 113; refine (iSharesOk_any _ _).mono ?_; rintro e w' ⟨rfl, rfl⟩; rw [h3]) | (go_at_call 63; refine (within_any _ _ _).mono ?_; rintro e w' ⟨rfl, rfl⟩; rw [h6]))
    go_ret
    exact ⟨by rw [HN.out, h2, h3, h6]; simp, below_new _ _⟩
  cases h5 : decide (0 < m.shares)
  · have h0 : m.shares = 0 := by have := inB_true h3; simp at h5; omega
    have HZ := Lib.hid (none_zero (x := m.stake) h0)
    clear h0
    go_enter Tryz.func156, Tryz.ntmps156
    go_wp2_with (first | (go_at_call 65; refine (iAmountOk_any _ _).mono ?_; rintro e w' ⟨rfl, rfl⟩; rw [h2]) | (go_at_call 113; refine (iSharesOk_any _ _).mono ?_; rintro e w' ⟨rfl, rfl⟩; rw [h3]) | (go_at_call 63; refine (within_any _ _ _).mono ?_; rintro e w' ⟨rfl, rfl⟩; rw [h6]) | (go_at_call 157; refine (iShare_any m _).mono ?_; rintro e w2 ⟨rfl, hb2⟩; have HB2 := Lib.hid (below_trans (below_new _ _) hb2); clear hb2) | (go_at_call 158; refine (iNone_any _ _ _).mono ?_; rintro e w3 ⟨rfl, hb3⟩; have HB3 := Lib.hid (below_trans HB2.out hb3); clear hb3; rw [HZ.out]))
    go_ret
    exact ⟨by rw [HN.out, h2, h3, h5, h6]; simp, HB3.out⟩
  · go_enter Tryz.func156, Tryz.ntmps156
    go_wp2_with (first | (go_at_call 65; refine (iAmountOk_any _ _).mono ?_; rintro e w' ⟨rfl, rfl⟩; rw [h2]) | (go_at_call 113; refine (iSharesOk_any _ _).mono ?_; rintro e w' ⟨rfl, rfl⟩; rw [h3]) | (go_at_call 63; refine (within_any _ _ _).mono ?_; rintro e w' ⟨rfl, rfl⟩; rw [h6]))
    go_ret
    exact ⟨by rw [HN.out, h2, h3, h5, h6]; simp, below_new _ _⟩

theorem info_mstrs : (Tryz.prog.info? 9).map (fun i => (i.zero, i.size, i.bytes)) = some (some (.string ByteArray.empty), 1, 16) := by kernel_rfl
theorem mm_called (m : Mil) (w : World) : (method 301 81 (.agg #[.string m.name, .int .i64 m.stake, .int .i64 m.shares, .int .i64 m.cut, .bool m.shut]) "loop.example/g00614/impl.called").run Tryz.prog w = .ok (155, .agg #[.string m.name, .int .i64 m.stake, .int .i64 m.shares, .int .i64 m.cut, .bool m.shut]) w := by kernel_rfl
theorem mm_right (m : Mil) (w : World) : (method 301 81 (.agg #[.string m.name, .int .i64 m.stake, .int .i64 m.shares, .int .i64 m.cut, .bool m.shut]) "loop.example/g00614/impl.right").run Tryz.prog w = .ok (156, .agg #[.string m.name, .int .i64 m.stake, .int .i64 m.shares, .int .i64 m.cut, .bool m.shut]) w := by kernel_rfl

/-- What 'names' leaves: the names, in the block behind all that was there. -/
def MToNames (ms : List Mil) (w : World) (e : Ending) (w' : World) : Prop :=
  e = .returned (.slice (some ⟨w.heap.size, 0, none⟩) ms.length ms.length) ∧ Strs w' (some ⟨w.heap.size, 0, none⟩) (mnames ms) ∧ Below w.heap.size w w'

set_option maxHeartbeats 1000000 in
set_option maxRecDepth 100000 in
theorem mnames_any {w : World} {a : Option Addr} {ms : List Mil} (cap : Nat) (h : Recs Mil.cs w a ms) (hl : ms.length ≤ 1048576) :
    Calls Tryz.prog 106 #[.slice a ms.length cap] w (MToNames ms w) := by
  have H := Lib.hid h
  clear h
  have hmk := run_make_row' (P := Tryz.prog) 127 9 (.string ByteArray.empty) 16 Tryz.underlying127 info_mstrs rfl .i64 .i64 ms.length (by omega) (by omega)
  go_enter Tryz.func106, Tryz.ntmps106
  go_wp2
  clear hmk
  go_loopw [11] (fun i w' => ∃ k : Nat, k ≤ ms.length ∧ i = .int .i64 k ∧ Room w ms.length ((mnames ms).map .string) k w') (fun i _ => ms.length - (intOf i).toNat)
  case atStart => exact ⟨0, Nat.zero_le _, rfl, Room.new _ _ _ _ _⟩
  case round =>
    obtain ⟨k, hk, rfl, hr⟩ := hrel
    by_cases hlt : k < ms.length
    · obtain ⟨b, off, rfl, hb, hc0, hc1, hc2, hc3, hc4⟩ := Mil.at H.out k hlt
      have hd0 := (hr.low.cell (p := ⟨b, off + k * 5, none⟩) hb).trans hc0
      have hd1 := (hr.low.cell (p := ⟨b, off + k * 5 + 1, none⟩) hb).trans hc1
      have hd2 := (hr.low.cell (p := ⟨b, off + k * 5 + 2, none⟩) hb).trans hc2
      have hd3 := (hr.low.cell (p := ⟨b, off + k * 5 + 3, none⟩) hb).trans hc3
      have hd4 := (hr.low.cell (p := ⟨b, off + k * 5 + 4, none⟩) hb).trans hc4
      have hm := mm_called ms[k]
      obtain ⟨u, hu⟩ := hr.all k hlt
      have hf := hr.free k
      have hlo := hr.has
      have hle := hr.low.size
      have HR := Lib.hid (((hr.set (v := .string ms[k].name) hlt (by rw [List.getElem?_map, List.getElem?_eq_getElem (by rw [len_mn]; exact hlt)]; simp [mnames])).below (below_new _ (.cells #[.string ms[k].name, .int .i64 ms[k].stake, .int .i64 ms[k].shares, .int .i64 ms[k].cut, .bool ms[k].shut] 81))).below (below_new _ (.cells #[.string ms[k].name, .int .i64 ms[k].stake, .int .i64 ms[k].shares, .int .i64 ms[k].cut, .bool ms[k].shut] 81)))
      clear hr hc0 hc1 hc2 hc3 hc4
      go_wp2
      go_roundw
      case rel => exact ⟨k + 1, by omega, by go_num, HR.out⟩
      case measure => simp [intOf]; omega
    · obtain rfl : k = ms.length := by omega
      have HR := Lib.hid hr
      clear hr
      go_wp2
      go_ret
      exact ⟨rfl, HR.out.lies (by simp [mnames]), HR.out.low⟩

/-- The first n are right, names aside. -/
def MGood (ms : List Mil) (n : Nat) : Prop := ∀ j (h : j < ms.length), j < n → rightB ms[j] = true
theorem MGood.zero (ms : List Mil) : MGood ms 0 := fun _ _ h => by omega
theorem MGood.succ {ms : List Mil} {k : Nat} (h : MGood ms k) (hk : k < ms.length) (h1 : rightB ms[k] = true) : MGood ms (k + 1) := by
  intro j hj hlt
  by_cases e : j = k
  · subst e; exact h1
  · exact h j hj (by omega)
theorem MGood.all {ms : List Mil} (h : MGood ms ms.length) (hr : risesB (mnames ms) = true) : MRight ms ms.length := by
  intro j hj _
  rw [millB_right, h j hj hj, Bool.and_true, ← mnames_at hj]
  exact rises_name hr (by rw [len_mn]; exact hj)
theorem mills_bad {ms : List Mil} {k : Nat} (hk : k < ms.length) (h : rightB ms[k] = false) : millsB ms = false :=
  mills_not hk (by rw [millB_right, h, Bool.and_false])

set_option maxHeartbeats 1000000 in
set_option maxRecDepth 100000 in
theorem mok_any {w : World} {a : Option Addr} {ms : List Mil} (cap : Nat) (h : Recs Mil.cs w a ms) (hl : ms.length ≤ 9223372036854775807) (hs : Sized (mnames ms)) :
    Calls Tryz.prog 98 #[.slice a ms.length cap, .int .i64 4] w fun e w' => e = .returned (.bool (millsB ms)) ∧ Below w.heap.size w w' := by
  have H := Lib.hid h
  have HS := Lib.hid hs
  clear h hs
  by_cases h4 : ms.length ≤ 4
  case neg =>
    have HN := Lib.hid (mills_long h4)
    have hd : decide ((4 : Int) < (ms.length : Int)) = true := by simp; omega
    go_enter Tryz.func98, Tryz.ntmps98
    go_wp2
    go_ret
    exact ⟨by rw [HN.out]; rfl, Below.refl _ _⟩
  have hd : decide ((4 : Int) < (ms.length : Int)) = false := by simp; omega
  go_enter Tryz.func98, Tryz.ntmps98
  go_wp2
  go_loopw [13] (fun i w' => ∃ k : Nat, k ≤ ms.length ∧ i = .int .i64 k ∧ MGood ms k ∧ Below w.heap.size w w') (fun i _ => ms.length - (intOf i).toNat)
  case atStart => exact ⟨0, Nat.zero_le _, rfl, MGood.zero _, Below.refl _ _⟩
  case round =>
    obtain ⟨k, hk, rfl, hm, hb⟩ := hrel
    have HM := Lib.hid hm
    have HB := Lib.hid hb
    clear hm hb
    by_cases hlt : k < ms.length
    · obtain ⟨b, off, rfl, _, hc, hc1, hc2, hc3, hc4⟩ := Mil.at (H.out.below HB.out) k hlt
      have hmr := mm_right ms[k]
      cases hi : rightB ms[k]
      · have HN := Lib.hid (mills_bad hlt hi)
        go_wp2_with (go_at_call 156; refine (mright_any ms[k] _).mono ?_; rintro e w2 ⟨rfl, hb2⟩; rw [hi]; have HB2 := Lib.hid (below_trans HB.out (below_trans (below_new _ _) hb2)); clear hb2)
        go_ret
        exact ⟨by rw [HN.out]; rfl, HB2.out⟩
      · have HN := Lib.hid (HM.out.succ hlt hi)
        go_wp2_with (go_at_call 156; refine (mright_any ms[k] _).mono ?_; rintro e w2 ⟨rfl, hb2⟩; rw [hi]; have HB2 := Lib.hid (below_trans HB.out (below_trans (below_new _ _) hb2)); clear hb2)
        go_roundw
        case rel => exact ⟨k + 1, by omega, by go_num, HN.out, HB2.out⟩
        case measure => simp [intOf]; omega
    · obtain rfl : k = ms.length := by omega
      go_wp2_with fail
      refine (mnames_any _ (H.out.below HB.out) (by omega)).mono ?_
      rintro e w2 ⟨rfl, hs2, hb2⟩
      have HS2 := Lib.hid hs2
      have HB2 := Lib.hid (below_trans HB.out hb2)
      clear hs2 hb2
      have HP := Lib.hid (len_mn ms)
      have hri : Calls Tryz.prog 101 #[.slice (some ⟨wr.heap.size, 0, none⟩) ms.length ms.length] w2 fun e w' => e = .returned (.bool (risesB (mnames ms))) ∧ w2 = w' := by
        have := iRises_any ms.length HS2.out (by rw [HP.out]; omega) HS.out
        rw [HP.out] at this
        exact this
      have HRI := Lib.hid hri
      clear hri
      go_wp2_with fail
      refine HRI.out.mono ?_
      rintro e w' ⟨rfl, rfl⟩
      cases hr : risesB (mnames ms)
      · have HN := Lib.hid (mills_rise hr)
        go_wp2
        go_ret
        exact ⟨by rw [HN.out]; rfl, HB2.out⟩
      · have HN := Lib.hid (mills_yes h4 (HM.out.all hr) hr)
        go_wp2
        go_ret
        exact ⟨by rw [HN.out]; rfl, HB2.out⟩

theorem iMillsOk_any {w : World} {a : Option Addr} {ms : List Mil} (cap : Nat) (h : Recs Mil.cs w a ms) (hl : ms.length ≤ 9223372036854775807) (hs : Sized (mnames ms)) :
    Calls Tryz.prog 84 #[.slice a ms.length cap] w fun e w' => e = .returned (.bool (millsB ms)) ∧ Below w.heap.size w w' := by
  go_enter Tryz.func84, Tryz.ntmps84
  go_wp2_with (go_at_call 98; refine (mok_any _ h hl hs).mono ?_; rintro e w2 ⟨rfl, hb2⟩)
  go_ret
  exact ⟨rfl, hb2⟩

theorem mplace_any {w : World} {a : Option Addr} {ms : List Mil} (cap : Nat) (s : ByteArray) (h : Recs Mil.cs w a ms) (hl : ms.length ≤ 1048576) :
    Calls Tryz.prog 109 #[.slice a ms.length cap, .string s] w fun e w' => e = .returned (.int .i64 (placeV (mnames ms) s)) ∧ Below w.heap.size w w' := by
  have H := Lib.hid h
  clear h
  go_enter Tryz.func109, Tryz.ntmps109
  go_wp2_with fail
  refine (mnames_any _ H.out hl).mono ?_
  rintro e w2 ⟨rfl, hs2, hb2⟩
  have HB2 := Lib.hid hb2
  have HP := Lib.hid (len_mn ms)
  have hri : Calls Tryz.prog 91 #[.slice (some ⟨w.heap.size, 0, none⟩) ms.length ms.length, .string s] w2 fun e w' => e = .returned (.int .i64 (placeV (mnames ms) s)) ∧ w2 = w' := by
    have := iPlaceIn_any ms.length s hs2 (by rw [HP.out]; omega)
    rw [HP.out] at this
    exact this
  have HRI := Lib.hid hri
  clear hri hs2 hb2
  go_wp2_with fail
  refine HRI.out.mono ?_
  rintro e w' ⟨rfl, rfl⟩
  go_wp2
  go_ret
  exact ⟨rfl, HB2.out⟩

set_option maxHeartbeats 2000000 in
set_option maxRecDepth 100000 in
theorem iMillIn_any {w : World} {a : Option Addr} {ms : List Mil} (cap : Nat) (s : ByteArray) (h : Recs Mil.cs w a ms) (hl : ms.length ≤ 9223372036854775807) (hs : Sized (mnames ms)) :
    Calls Tryz.prog 100 #[.slice a ms.length cap, .string s] w (MillRes (millInV ms s) (millInB ms s) w) := by
  have H := Lib.hid h
  have HS := Lib.hid hs
  clear h hs
  go_enter Tryz.func100, Tryz.ntmps100
  go_wp2_with fail
  refine (iMillsOk_any _ (H.out.below (below_new _ _)) hl HS.out).mono ?_
  rintro e w1 ⟨rfl, hb1⟩
  have HB1 := Lib.hid (below_trans (below_new w (.cells #[.string ByteArray.empty, .int .i64 0, .int .i64 0, .int .i64 0, .bool false] 81)) hb1)
  have hlt1 : w.heap.size < w1.heap.size := by have := hb1.size; simp at this; omega
  obtain ⟨hcc, hff⟩ := kept_all hb1
  clear hb1
  cases hf : millsB ms
  · have HN := Lib.hid (millIn_no (s := s) hf)
    go_wp2
    refine bodyPost_ret (v := .tuple #[.agg #[.string ByteArray.empty, .int .i64 0, .int .i64 0, .int .i64 0, .bool false], .bool false]) (by simp [results, Tryz.results100, go_sem, hcc]; rfl) rfl ⟨by rw [HN.out.1, HN.out.2]; rfl, ?_⟩
    exact ((((HB1.out.setCell (Nat.le_refl _) _).setCell (Nat.le_refl _) _).setCell (Nat.le_refl _) _).setCell (Nat.le_refl _) _).setCell (Nat.le_refl _) _
  · have h4 := (mills_true hf).1
    go_wp2_with fail
    refine (mplace_any _ _ (H.out.below HB1.out) (by omega)).mono ?_
    rintro e w2 ⟨rfl, hb2⟩
    have HB2 := Lib.hid (below_trans HB1.out hb2)
    have hlt2 : w.heap.size < w2.heap.size := by have := hb2.size; omega
    obtain ⟨hcd, hfd⟩ := kept_all hb2
    clear hb2
    by_cases hp : 0 ≤ placeV (mnames ms) s
    · obtain ⟨k, e, hk, hq⟩ := place_hit hp
      have hk' : k < ms.length := by rw [len_mn] at hk; exact hk
      have HN := Lib.hid (millIn_in hf e hk')
      rw [e]
      obtain ⟨b, off, rfl, _, hc, hc1, hc2, hc3, hc4⟩ := Mil.at (H.out.below HB2.out) k hk'
      clear hp e hk hq
      go_wp2
      refine bodyPost_ret (v := .tuple #[.agg #[.string ms[k].name, .int .i64 ms[k].stake, .int .i64 ms[k].shares, .int .i64 ms[k].cut, .bool ms[k].shut], .bool true]) (by simp [results, Tryz.results100, go_sem, hcd, hcc, hlt1]) rfl ⟨by rw [HN.out.1, HN.out.2], ?_⟩
      exact ((((HB2.out.setCell (Nat.le_refl _) _).setCell (Nat.le_refl _) _).setCell (Nat.le_refl _) _).setCell (Nat.le_refl _) _).setCell (Nat.le_refl _) _
    · have HN := Lib.hid (millIn_out hp)
      have hlo := mplace_lo ms s
      have hpe : placeV (mnames ms) s = -1 := by omega
      rw [hpe]
      clear hp hpe hlo
      go_wp2
      refine bodyPost_ret (v := .tuple #[.agg #[.string ByteArray.empty, .int .i64 0, .int .i64 0, .int .i64 0, .bool false], .bool false]) (by simp [results, Tryz.results100, go_sem, hcd, hcc, hlt1]; rfl) rfl ⟨by rw [HN.out.1, HN.out.2]; rfl, ?_⟩
      exact ((((HB2.out.setCell (Nat.le_refl _) _).setCell (Nat.le_refl _) _).setCell (Nat.le_refl _) _).setCell (Nat.le_refl _) _).setCell (Nat.le_refl _) _

theorem none_right {m : Mil} (h : millB m = true) : noneB m.stake m.shares = (m.shares == 0) := by
  have hp := millB_parts h
  by_cases h0 : m.shares = 0
  · have h1 : m.stake = 0 := by omega
    simp [noneB, h0, h1]
  · rw [none_pos (by omega)]; symm; simp [h0]

/-- What 'bought' answers. -/
def boughtV (m : Mil) (n : Int) : Int := if noneB m.stake m.shares = true then 1000 * n else downV n m.shares m.stake

theorem down_zero (a b : Int) : downV a b 0 = -1 := by simp [downV, okD, inB]
/-- 'SharesFor' by 'bought'. -/
theorem for_bought {m : Mil} {n : Int} (hm : millB m = true) (hi : inB 1 1000000 n = true) : (-1 ≤ boughtV m n ∧ boughtV m n ≤ 1000000000000000000) ∧ sharesForV m n = if inB 0 1000000000 (m.shares + boughtV m n) = true then boughtV m n else -1 := by
  have hp := millB_parts hm
  have hn := inB_true hi
  unfold boughtV
  rw [none_right hm]
  by_cases h0 : 0 < m.shares
  · have e0 : (m.shares == 0) = false := by simp; omega
    rw [e0]
    by_cases hz : m.stake = 0
    · rw [hz, down_zero, for_no (buy_none h0 hz)]
      exact ⟨by simp, by simp⟩
    · have hv : buyV m n = downV n m.shares m.stake := by unfold buyV; rw [if_pos h0]
      have hb := buy_bd hm hi (by omega)
      rw [hv] at hb
      refine ⟨by simp; omega, ?_⟩
      cases ho : inB 0 1000000000 (m.shares + downV n m.shares m.stake)
      · rw [for_over (by rw [hv]; exact ho)]; simp [ho]
      · rw [for_yes (buy_yes hm hi (by omega)) (by rw [hv]; exact ho)]; simp [ho, hv]
  · have e0 : (m.shares == 0) = true := by simp; omega
    rw [e0]
    have hv : buyV m n = 1000 * n := by unfold buyV; rw [if_neg h0]
    refine ⟨by simp; omega, ?_⟩
    cases ho : inB 0 1000000000 (m.shares + 1000 * n)
    · rw [for_over (by rw [hv]; exact ho)]; simp [ho]
    · rw [for_yes (buy_yes hm hi (by omega)) (by rw [hv]; exact ho)]; simp [ho, hv]

set_option maxHeartbeats 2000000 in
set_option maxRecDepth 100000 in
theorem iStakesIn_any {w : World} {a : Option Addr} {ms : List Mil} (cap : Nat) (h : Recs Mil.cs w a ms) (hl : ms.length ≤ 9223372036854775807) (hs : Sized (mnames ms)) :
    Calls Tryz.prog 87 #[.slice a ms.length cap] w fun e w' => e = .returned (.int .i64 (stakesV ms)) ∧ Below w.heap.size w w' := by
  have H := Lib.hid h
  have HS := Lib.hid hs
  clear h hs
  go_enter Tryz.func87, Tryz.ntmps87
  go_wp2_with fail
  refine (iMillsOk_any _ H.out hl HS.out).mono ?_
  rintro e w1 ⟨rfl, hb1⟩
  have HB1 := Lib.hid hb1
  clear hb1
  cases hf : millsB ms
  · have HN := Lib.hid (show stakesV ms = -1 by simp [stakesV, hf])
    go_wp2
    go_ret
    exact ⟨by rw [HN.out]; rfl, HB1.out⟩
  have HN := Lib.hid (show stakesV ms = sumM ms ms.length by simp [stakesV, hf])
  obtain ⟨h4, hm, -⟩ := mills_true hf
  have HM := Lib.hid hm
  have HR := Lib.hid (H.out.below HB1.out)
  clear hm hf H
  go_wp2
  go_loopw [3, 11] (fun t i w' => ∃ k : Nat, k ≤ ms.length ∧ i = .int .i64 k ∧ t = .int .i64 (sumM ms k) ∧ Below w1.heap.size w1 w') (fun _ i _ => ms.length - (intOf i).toNat)
  case atStart => exact ⟨0, Nat.zero_le _, rfl, rfl, Below.refl _ _⟩
  case round =>
    obtain ⟨k, hk, rfl, rfl, hb⟩ := hrel
    have HB := Lib.hid hb
    clear hb
    have hb := sumM_bd HM.out k hk
    by_cases hlt : k < ms.length
    · obtain ⟨b, off, rfl, _, c0, c1, c2, c3, c4⟩ := Mil.at (HR.out.below HB.out) k hlt
      have HE := Lib.hid (show sumM ms (k + 1) = sumM ms k + ms[k].stake by simp only [sumM, getD_mil hlt])
      have HB2 := Lib.hid (below_trans HB.out (below_new _ (.cells #[.string ms[k].name, .int .i64 ms[k].stake, .int .i64 ms[k].shares, .int .i64 ms[k].cut, .bool ms[k].shut] 81)))
      have hb3 := (millB_parts (HM.out k hlt hlt)).1
      go_wp2
      go_roundw
      case rel => exact ⟨k + 1, by omega, by go_num, by rw [HE.out], HB2.out⟩
      case measure => simp [intOf]; omega
    · obtain rfl : k = ms.length := by omega
      go_wp2
      go_ret
      exact ⟨by rw [HN.out]; rfl, below_trans HB1.out HB.out⟩

theorem cheap_less {x y : Mil} (hx : millB x = true) (hy : millB y = true) : cheapB x y = decide (x.stake * y.shares < y.stake * x.shares) := by
  have h1 := millB_parts hx
  have h2 := millB_parts hy
  unfold cheapB
  rw [hx, hy]
  by_cases a : x.shares = 0
  · have e : x.stake = 0 := by omega
    simp [a, e]
  · by_cases b : y.shares = 0
    · have e : y.stake = 0 := by omega
      simp [b, e]
    · have ea : (x.shares == 0) = false := by simpa using a
      have eb : (y.shares == 0) = false := by simpa using b
      simp [ea, eb]

end Go.Proofs.YtncandoohlndnaaGreat
namespace Go.Proofs.YtncandoohlndnaaGreat
open Go.Shelf

def sortPart_ren : Go.Shelf.Ren := ⟨fun | 6 => 114 | 15 => 117 | 14 => 116 | 28 => 128 | 29 => 129 | 20 => 120 | 21 => 121 | 22 => 122 | 23 => 123 | 24 => 124 | 25 => 125 | 26 => 126 | 27 => 127 | 46 => 131 | 47 => 132 | 48 => 133 | 49 => 134 | 50 => 135 | 57 => 136 | n => n, fun | 22 => 32 | 24 => 83 | 25 => 155 | 3 => 3 | 39 => 158 | 0 => 0 | 53 => 170 | 55 => 172 | 4 => 4 | 46 => 163 | 45 => 162 | 50 => 167 | 5 => 5 | 9 => 9 | 66 => 174 | 70 => 178 | 76 => 180 | 77 => 181 | n => n, fun | n => n⟩
theorem sortPart : Go.Proofs.SlLaysF0.n6 Tryz.prog sortPart_ren := {
  mixed := by kernel_rfl
  f6 := ⟨Tryz.f114.name, by decide, Tryz.func114.trans (congrArg some (by kernel_rfl))⟩
  f14 := ⟨Tryz.f116.name, by decide, Tryz.func116.trans (congrArg some (by kernel_rfl))⟩
  f15 := Tryz.func117.trans (congrArg some (by kernel_rfl))
  f20 := ⟨Tryz.f120.name, by decide, Tryz.func120.trans (congrArg some (by kernel_rfl))⟩
  f21 := ⟨Tryz.f121.name, by decide, Tryz.func121.trans (congrArg some (by kernel_rfl))⟩
  f22 := ⟨Tryz.f122.name, by decide, Tryz.func122.trans (congrArg some (by kernel_rfl))⟩
  f23 := ⟨Tryz.f123.name, by decide, Tryz.func123.trans (congrArg some (by kernel_rfl))⟩
  f24 := ⟨Tryz.f124.name, by decide, Tryz.func124.trans (congrArg some (by kernel_rfl))⟩
  f25 := ⟨Tryz.f125.name, by decide, Tryz.func125.trans (congrArg some (by kernel_rfl))⟩
  f26 := ⟨Tryz.f126.name, by decide, Tryz.func126.trans (congrArg some (by kernel_rfl))⟩
  f27 := ⟨Tryz.f127.name, by decide, Tryz.func127.trans (congrArg some (by kernel_rfl))⟩
  f28 := Tryz.func128.trans (congrArg some (by kernel_rfl))
  f29 := Tryz.func129.trans (congrArg some (by kernel_rfl))
  f46 := ⟨Tryz.f131.name, by decide, Tryz.func131.trans (congrArg some (by kernel_rfl))⟩
  f47 := Tryz.func132.trans (congrArg some (by kernel_rfl))
  f48 := Tryz.func133.trans (congrArg some (by kernel_rfl))
  f49 := ⟨Tryz.f134.name, by decide, Tryz.func134.trans (congrArg some (by kernel_rfl))⟩
  f50 := ⟨Tryz.f135.name, by decide, Tryz.func135.trans (congrArg some (by kernel_rfl))⟩
  f57 := ⟨Tryz.f136.name, by decide, Tryz.func136.trans (congrArg some (by kernel_rfl))⟩
  t0 := Tryz.underlying0
  a0 := Tryz.isAgg0
  z0 := Tryz.sizeOf0
  v0 := Tryz.zeroValue0
  t3 := Tryz.underlying3
  a3 := Tryz.isAgg3
  z3 := Tryz.sizeOf3
  v3 := Tryz.zeroValue3
  t4 := Tryz.underlying4
  a4 := Tryz.isAgg4
  z4 := Tryz.sizeOf4
  v4 := Tryz.zeroValue4
  t5 := Tryz.underlying5
  a5 := Tryz.isAgg5
  z5 := Tryz.sizeOf5
  v5 := Tryz.zeroValue5
  t9 := Tryz.underlying9
  a9 := Tryz.isAgg9
  z9 := Tryz.sizeOf9
  v9 := Tryz.zeroValue9
  t22 := Tryz.underlying32
  a22 := Tryz.isAgg32
  z22 := Tryz.sizeOf32
  v22 := Tryz.zeroValue32
  t25 := Tryz.underlying155
  a25 := Tryz.isAgg155
  z25 := Tryz.sizeOf155
  v25 := Tryz.zeroValue155
  t39 := Tryz.underlying158
  a39 := Tryz.isAgg158
  z39 := Tryz.sizeOf158
  v39 := Tryz.zeroValue158
  t45 := Tryz.underlying162
  a45 := Tryz.isAgg162
  z45 := Tryz.sizeOf162
  v45 := Tryz.zeroValue162
  t46 := Tryz.underlying163
  a46 := Tryz.isAgg163
  z46 := Tryz.sizeOf163
  v46 := Tryz.zeroValue163
  t50 := Tryz.underlying167
  a50 := Tryz.isAgg167
  z50 := Tryz.sizeOf167
  v50 := Tryz.zeroValue167
  t53 := Tryz.underlying170
  a53 := Tryz.isAgg170
  z53 := Tryz.sizeOf170
  v53 := Tryz.zeroValue170
  t55 := Tryz.underlying172
  a55 := Tryz.isAgg172
  z55 := Tryz.sizeOf172
  v55 := Tryz.zeroValue172
  t66 := Tryz.underlying174
  a66 := Tryz.isAgg174
  z66 := Tryz.sizeOf174
  v66 := Tryz.zeroValue174
  t70 := Tryz.underlying178
  a70 := Tryz.isAgg178
  z70 := Tryz.sizeOf178
  v70 := Tryz.zeroValue178
  t76 := Tryz.underlying180
  a76 := Tryz.isAgg180
  z76 := Tryz.sizeOf180
  v76 := Tryz.zeroValue180
  t77 := Tryz.underlying181
  a77 := Tryz.isAgg181
  z77 := Tryz.sizeOf181
  v77 := Tryz.zeroValue181 }

def equalPart_ren : Go.Shelf.Ren := ⟨fun | 8 => 111 | n => n, fun | 22 => 32 | 24 => 83 | 4 => 4 | 3 => 3 | 0 => 0 | n => n, fun | n => n⟩
theorem equalPart : Go.Proofs.SlLaysQ.n8 Tryz.prog equalPart_ren := {
  mixed := by kernel_rfl
  f8 := ⟨Tryz.f111.name, by decide, Tryz.func111.trans (congrArg some (by kernel_rfl))⟩
  t0 := Tryz.underlying0
  a0 := Tryz.isAgg0
  z0 := Tryz.sizeOf0
  v0 := Tryz.zeroValue0
  t3 := Tryz.underlying3
  a3 := Tryz.isAgg3
  z3 := Tryz.sizeOf3
  v3 := Tryz.zeroValue3
  t4 := Tryz.underlying4
  a4 := Tryz.isAgg4
  z4 := Tryz.sizeOf4
  v4 := Tryz.zeroValue4
  t22 := Tryz.underlying32
  a22 := Tryz.isAgg32
  z22 := Tryz.sizeOf32
  v22 := Tryz.zeroValue32 }
end Go.Proofs.YtncandoohlndnaaGreat
namespace Go.Proofs.YtncandoohlndnaaGreat
open Go.ChangeShapes Go.WideShapes Go.ChangeAt Go.RowKit

/-- Shares of number k are v. -/
def setSh : List Par → Nat → Int → List Par
  | [], _, _ => []
  | p :: r, 0, v => ⟨p.who, p.mill, v⟩ :: r
  | p :: r, k + 1, v => p :: setSh r k v
theorem setSh_length : ∀ (ps : List Par) (k : Nat) (v : Int), (setSh ps k v).length = ps.length
  | [], _, _ => rfl
  | p :: r, 0, v => rfl
  | p :: r, k + 1, v => by simp [setSh, setSh_length r k v]
theorem setSh_cells : ∀ (ps : List Par) (k : Nat) (v : Int), k < ps.length → (setSh ps k v).flatMap Par.cs = (ps.flatMap Par.cs).set (k * 3 + 2) (.int .i64 v)
  | p :: r, 0, v, _ => by simp [setSh, Par.cs]
  | p :: r, k + 1, v, h => by
    rw [setSh, List.flatMap_cons, List.flatMap_cons, setSh_cells r k v (by simpa using h), show (k + 1) * 3 + 2 = k * 3 + 2 + 3 by omega]
    simp [Par.cs]
/-- Number k has n less; none where 0 are left. -/
def takeAt (ps : List Par) (k : Nat) (n : Int) : List Par := if (patn ps k).shares - n = 0 then ps.take k ++ ps.drop (k + 1) else setSh ps k ((patn ps k).shares - n)

/-- Is it took? -/
noncomputable def tookB (ps : List Par) (who mill : ByteArray) (n : Int) : Bool := partsB ps && (decide (0 ≤ pfindV ps who mill) && inB 1 (patn ps (pfindV ps who mill).toNat).shares n)
/-- What they are then. -/
noncomputable def tookL (ps : List Par) (who mill : ByteArray) (n : Int) : List Par :=
  if partsB ps = true then (if tookB ps who mill n = true then takeAt ps (pfindV ps who mill).toNat n else ps) else []
section
variable {ps : List Par} {who mill : ByteArray} {n : Int}
theorem took_no (h : partsB ps = false) : tookB ps who mill n = false ∧ tookL ps who mill n = [] := by simp [tookB, tookL, h]
theorem took_keep (h : partsB ps = true) (hb : tookB ps who mill n = false) : tookL ps who mill n = ps := by simp [tookL, h, hb]
theorem took_out (h : ¬ 0 ≤ pfindV ps who mill) : tookB ps who mill n = false := by simp [tookB, h]
theorem took_n {k : Nat} (e : pfindV ps who mill = k) (hk : k < ps.length) (h : inB 1 ps[k].shares n = false) : tookB ps who mill n = false := by
  have : patn ps (pfindV ps who mill).toNat = ps[k] := by rw [e]; exact patn_eq hk
  simp [tookB, this, h]
theorem took_yes {k : Nat} (hf : partsB ps = true) (e : pfindV ps who mill = k) (hk : k < ps.length) (h : inB 1 ps[k].shares n = true) : tookB ps who mill n = true ∧ tookL ps who mill n = takeAt ps k n := by
  have h1 : patn ps (pfindV ps who mill).toNat = ps[k] := by rw [e]; exact patn_eq hk
  have h2 : tookB ps who mill n = true := by unfold tookB; rw [h1, hf, h, e]; simp
  refine ⟨h2, ?_⟩
  rw [tookL, if_pos hf, if_pos h2, e]; rfl
end

/-- Where those behind number k lie. -/
theorem drop_at {w : World} {b off k : Nat} {ps : List Par} (cap : Nat) (h : Recs Par.cs w (some ⟨b, off, none⟩) ps) (hk : k < ps.length) (hc : ps.length ≤ cap) :
    ∃ A, (if cap = k + 1 then some (⟨b, off, none⟩ : Addr) else some ⟨b, off + (k + 1) * 3, none⟩) = some A ∧ ∀ W, Below w.heap.size w W → ∀ j u, ((ps.drop (k + 1)).flatMap Par.cs)[j]? = some u → W.cell? (A.add j) = some u := by
  by_cases e : cap = k + 1
  · refine ⟨_, if_pos e, fun W _ j u hj => ?_⟩
    have : ps.drop (k + 1) = [] := List.drop_eq_nil_of_le (by omega)
    rw [this] at hj; simp at hj
  · refine ⟨_, if_neg e, fun W hb j u hj => ?_⟩
    rw [flat_drop Par.len, List.getElem?_drop] at hj
    obtain ⟨b', off', e', hc'⟩ := (h.below hb) _ u hj
    injection e' with e'; injection e' with e1 e2; subst e1; subst e2
    rw [add_plain, Nat.add_assoc]; exact hc'
/-- A list of the call's own comes back, and a word. -/
def ResB (out : List Par) (ok : Bool) (w : World) (e : Ending) (w' : World) : Prop :=
  ∃ b cap, e = .returned (.tuple #[.slice (some ⟨b, 0, none⟩) out.length cap, .bool ok]) ∧ w'.ownsRow w.heap.size 83 3 (.slice (some ⟨b, 0, none⟩) out.length cap) out.length (out.flatMap Par.cs) ∧ Below w.heap.size w w'
theorem resB_own {out : List Par} {ok : Bool} {w : World} {e : Ending} {w' : World} (h : ResB out ok w e w') : ResOB Par.cs 3 out ok w e w' := by
  obtain ⟨b, cap, he, ho, hb⟩ := h
  obtain ⟨a, c', e1, hr, -⟩ := ownR_of Par.len ho
  injection e1 with e1 e2 e3
  subst e1; subst e3
  exact ⟨_, _, he, hr, hb, (own_some ho).2.1⟩

end Go.Proofs.YtncandoohlndnaaGreat
namespace Go.Proofs.YtncandoohlndnaaGreat
open Go.ChangeShapes Go.WideShapes Go.ChangeAt Go.RowKit

/-- How many are ahead of it. -/
noncomputable def lowAt : List Par → ByteArray → ByteArray → Nat
  | [], _, _ => 0
  | p :: r, who, mill => if lessB p who mill = true then lowAt r who mill + 1 else 0
theorem lowAt_le : ∀ (ps : List Par) (who mill : ByteArray), lowAt ps who mill ≤ ps.length
  | [], _, _ => by simp [lowAt]
  | p :: r, who, mill => by
    have := lowAt_le r who mill
    simp only [lowAt, List.length_cons]
    split <;> omega
theorem lowAt_is : ∀ (ps : List Par) (who mill : ByteArray) (k : Nat), k ≤ ps.length → (∀ j (h : j < ps.length), j < k → lessB ps[j] who mill = true) → (∀ h : k < ps.length, lessB ps[k] who mill = false) → lowAt ps who mill = k
  | [], _, _, k, hk, _, _ => by simp at hk; simp [lowAt, hk]
  | p :: r, who, mill, 0, _, _, h2 => by
    have := h2 (by simp)
    simp only [List.getElem_cons_zero] at this
    simp [lowAt, this]
  | p :: r, who, mill, k + 1, hk, h1, h2 => by
    have h0 := h1 0 (by simp) (by omega)
    simp only [List.getElem_cons_zero] at h0
    have := lowAt_is r who mill k (by simpa using hk) (fun j h hj => by have := h1 (j + 1) (by simpa using h) (by omega); simpa using this) (fun h => by have := h2 (by simpa using h); simpa using this)
    simp [lowAt, h0, this]
/-- n more of these, a new one where there is none. -/
noncomputable def giveAt (ps : List Par) (who mill : ByteArray) (n : Int) : List Par :=
  if 0 ≤ pfindV ps who mill then setSh ps (pfindV ps who mill).toNat ((patn ps (pfindV ps who mill).toNat).shares + n)
  else ps.take (lowAt ps who mill) ++ [⟨who, mill, n⟩] ++ ps.drop (lowAt ps who mill)
/-- Is it given? -/
noncomputable def gaveB (ps : List Par) (who mill : ByteArray) (n : Int) : Bool := partsB ps && (inB 1 1000000000 n && partsB (giveAt ps who mill n))
/-- What they are then. -/
noncomputable def gaveL (ps : List Par) (who mill : ByteArray) (n : Int) : List Par :=
  if partsB ps = true then (if gaveB ps who mill n = true then giveAt ps who mill n else ps) else []
section
variable {ps : List Par} {who mill : ByteArray} {n : Int}
theorem gave_no (h : partsB ps = false) : gaveB ps who mill n = false ∧ gaveL ps who mill n = [] := by simp [gaveB, gaveL, h]
theorem gave_keep (h : partsB ps = true) (hb : gaveB ps who mill n = false) : gaveL ps who mill n = ps := by simp [gaveL, h, hb]
theorem gave_n (h : inB 1 1000000000 n = false) : gaveB ps who mill n = false := by simp [gaveB, h]
theorem gave_not (h : partsB (giveAt ps who mill n) = false) : gaveB ps who mill n = false := by simp [gaveB, h]
theorem gave_yes (hf : partsB ps = true) (hn : inB 1 1000000000 n = true) (h : partsB (giveAt ps who mill n) = true) : gaveB ps who mill n = true ∧ gaveL ps who mill n = giveAt ps who mill n := by
  have h2 : gaveB ps who mill n = true := by simp [gaveB, hf, hn, h]
  exact ⟨h2, by rw [gaveL, if_pos hf, if_pos h2]⟩
end
theorem setSh_at : ∀ (ps : List Par) (k : Nat) (v : Int) (j : Nat) (h : j < (setSh ps k v).length), ((setSh ps k v)[j]).who = (patn ps j).who ∧ ((setSh ps k v)[j]).mill = (patn ps j).mill ∧ ((setSh ps k v)[j]).shares = if j = k then v else (patn ps j).shares
  | [], _, _, j, h => by simp [setSh] at h
  | p :: r, 0, v, 0, _ => by simp [setSh, patn]
  | p :: r, 0, v, j + 1, h => by
    have hj : j < r.length := by simpa [setSh] using h
    simp [setSh, patn, hj]
  | p :: r, k + 1, v, 0, _ => by simp [setSh, patn]
  | p :: r, k + 1, v, j + 1, h => by
    have := setSh_at r k v j (by simpa [setSh] using h)
    simpa [setSh, patn] using this
theorem psized_set {ps : List Par} (hs : PSized ps) (k : Nat) (v : Int) : PSized (setSh ps k v) := by
  intro j hj
  have hj' : j < ps.length := by rw [setSh_length] at hj; exact hj
  obtain ⟨e1, e2, -⟩ := setSh_at ps k v j hj
  rw [e1, e2, patn_eq hj']
  exact hs j hj'
theorem psized_mem {ps : List Par} : PSized ps ↔ ∀ p ∈ ps, p.who.size ≤ maxLen ∧ p.mill.size ≤ maxLen :=
  ⟨fun h p hp => by obtain ⟨k, hk, rfl⟩ := List.getElem_of_mem hp; exact h k hk, fun h k hk => h _ (List.getElem_mem hk)⟩
theorem psized_put {ps : List Par} (hs : PSized ps) {who mill : ByteArray} (hw : who.size ≤ maxLen) (hm : mill.size ≤ maxLen) (n : Int) (k : Nat) : PSized (ps.take k ++ [⟨who, mill, n⟩] ++ ps.drop k) := by
  rw [psized_mem] at hs ⊢
  intro p hp
  simp only [List.mem_append, List.mem_singleton] at hp
  rcases hp with (hp | rfl) | hp
  · exact hs p (List.mem_of_mem_take hp)
  · exact ⟨hw, hm⟩
  · exact hs p (List.mem_of_mem_drop hp)
/-- 'PartsOk' of a list that the call owns. -/
theorem ok_own {W : World} {base g c L : Nat} {out : List Par} (ho : W.ownsRow base 83 3 (.slice (some ⟨g, 0, none⟩) L c) L (out.flatMap Par.cs)) (hl : out.length = L) (hL : L ≤ 1048577) (hs : PSized out) :
    Calls Tryz.prog 54 #[.slice (some ⟨g, 0, none⟩) L c] W fun e w' => e = .returned (.bool (partsB out)) ∧ Below W.heap.size W w' := by
  subst hl
  obtain ⟨a, cap, e, hr, -⟩ := ownR_of Par.len ho
  injection e with e1 e2 e3
  subst e1; subst e3
  exact sPartsOk_any _ hr.1 (by omega) hs

theorem giveAt_le (ps : List Par) (who mill : ByteArray) (n : Int) : (giveAt ps who mill n).length ≤ ps.length + 1 := by
  unfold giveAt
  split
  · rw [setSh_length]; omega
  · have := lowAt_le ps who mill
    simp; omega
theorem gaveL_le (ps : List Par) (who mill : ByteArray) (n : Int) : (gaveL ps who mill n).length ≤ 20 := by
  unfold gaveL
  split
  · rename_i hf
    split
    · rename_i hb
      simp only [gaveB, Bool.and_eq_true] at hb
      exact (parts_true hb.2.2).1
    · exact (parts_true hf).1
  · exact Nat.zero_le _
theorem takeAt_le {ps : List Par} {k : Nat} (hk : k < ps.length) (n : Int) : (takeAt ps k n).length ≤ ps.length := by
  unfold takeAt
  split
  · simp; omega
  · rw [setSh_length]; exact Nat.le_refl _
theorem tookL_le (ps : List Par) (who mill : ByteArray) (n : Int) : (tookL ps who mill n).length ≤ 20 := by
  unfold tookL
  split
  · rename_i hf
    have h20 := (parts_true hf).1
    split
    · rename_i hb
      simp only [tookB, Bool.and_eq_true, decide_eq_true_eq] at hb
      obtain ⟨k, e, hk, -⟩ := pfind_hit hb.2.1
      have := takeAt_le hk n
      rw [e]
      exact Nat.le_trans this h20
    · exact h20
  · exact Nat.zero_le _
theorem partsFor_le (ps : List Par) (who : ByteArray) : (partsForV ps who).length ≤ 20 := by
  unfold partsForV
  split
  · rename_i hf
    exact Nat.le_trans (ofWho_le who ps) (parts_true hf).1
  · exact Nat.zero_le _
theorem sized_Part {ps : List Par} (hs : ∀ p ∈ ps, p.fits) : PSized ps :=
  psized_mem.2 fun p hp => ⟨Nat.le_trans (hs p hp).1 (by unfold maxLen; omega), Nat.le_trans (hs p hp).2 (by unfold maxLen; omega)⟩
end Go.Proofs.YtncandoohlndnaaGreat
