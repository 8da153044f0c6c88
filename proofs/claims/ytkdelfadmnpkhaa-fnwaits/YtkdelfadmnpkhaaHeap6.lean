/-
  Plain facts of a heap whose first is the next one: what going up and down leaves, and that the first has the least key.
-/
import Derived.Test.YtkdelfadmnpkhaaWaitF
namespace Go.Proofs.Ytkdelfadmnpkhaa
open Go.ChangeShapes Go.WideShapes Go.ChangeAt Go.RowKit

/-- One that waits, and when it came. -/
structure Tur where
  w : Wai
  came : Int
def Tur.cs (t : Tur) : List Value := [.string t.w.who, .string t.w.mill, .int .i64 t.w.amount, .int .i64 t.w.ripe, .int .i64 t.came]
theorem Tur.len (t : Tur) : t.cs.length = 5 := rfl
theorem Tur.one (t : Tur) : ∀ v ∈ t.cs, v.oneCell' = true := by
  intro v hv
  simp only [Tur.cs, List.mem_cons, List.not_mem_nil, or_false] at hv
  rcases hv with rfl | rfl | rfl | rfl | rfl <;> rfl
/-- Sooner ripe first, then who came first. -/
def Tur.key (t : Tur) : Int := t.w.ripe * 100 + t.came
def tur0 : Tur := ⟨wai0, 0⟩
def tatn (ts : List Tur) (j : Nat) : Tur := ts.getD j tur0
theorem tatn_eq {ts : List Tur} {j : Nat} (h : j < ts.length) : tatn ts j = ts[j] := by simp [tatn, h]
def kat (ts : List Tur) (j : Nat) : Int := (tatn ts j).key
/-- When they came, as a number below 100. -/
def Fine (ts : List Tur) : Prop := ∀ t ∈ ts, 0 ≤ t.came ∧ t.came < 100
theorem Fine.at {ts : List Tur} (h : Fine ts) {j : Nat} (hj : j < ts.length) : 0 ≤ ts[j].came ∧ ts[j].came < 100 := h _ (List.getElem_mem hj)
theorem Fine.perm {ts us : List Tur} (h : Fine ts) (hp : us.Perm ts) : Fine us := fun t ht => h t (hp.mem_iff.1 ht)

/-- Two change places. -/
def swapT (ts : List Tur) (i j : Nat) : List Tur := (ts.set i (tatn ts j)).set j (tatn ts i)
theorem swapT_len (ts : List Tur) (i j : Nat) : (swapT ts i j).length = ts.length := by simp [swapT]
theorem swapT_at {ts : List Tur} {i j : Nat} (hi : i < ts.length) (hj : j < ts.length) (x : Nat) : tatn (swapT ts i j) x = if x = j then tatn ts i else if x = i then tatn ts j else tatn ts x := by
  unfold swapT
  simp only [tatn, List.getD_eq_getElem?_getD, List.getElem?_set, List.length_set]
  by_cases e1 : j = x
  · subst e1; simp [hj]
  · by_cases e2 : i = x
    · subst e2; simp [e1, hi, Ne.symm e1]
    · simp [e1, e2, Ne.symm e1, Ne.symm e2]
theorem swapT_key {ts : List Tur} {i j : Nat} (hi : i < ts.length) (hj : j < ts.length) (x : Nat) : kat (swapT ts i j) x = if x = j then kat ts i else if x = i then kat ts j else kat ts x := by
  unfold kat
  rw [swapT_at hi hj]
  split
  · rfl
  · split <;> rfl
theorem swapT_perm {ts : List Tur} {i j : Nat} (hi : i < ts.length) (hj : j < ts.length) : (swapT ts i j).Perm ts := by
  unfold swapT
  rw [tatn_eq hi, tatn_eq hj]
  exact List.set_set_perm hi hj
theorem swapT_cells {ts : List Tur} {i j : Nat} (hi : i < ts.length) (hj : j < ts.length) : ∀ x, x < ts.length → (swapT ts i j)[x]? = some (if x = j then ts[i] else if x = i then ts[j] else tatn ts x) := by
  intro x hx
  have h := swapT_at hi hj x
  have hl : x < (swapT ts i j).length := by rw [swapT_len]; exact hx
  rw [tatn_eq hl, tatn_eq hi, tatn_eq hj] at h
  rw [List.getElem?_eq_getElem hl, h]

/-- None has a lesser key than the one above it. -/
def Heaped (ts : List Tur) (n : Nat) : Prop := ∀ x, 0 < x → x < n → kat ts ((x - 1) / 2) ≤ kat ts x
theorem heap_first {ts : List Tur} {n : Nat} (h : Heaped ts n) : ∀ m x, x ≤ m → x < n → kat ts 0 ≤ kat ts x := by
  intro m
  induction m with
  | zero => intro x hx _; obtain rfl : x = 0 := by omega
            exact Int.le_refl _
  | succ m ih =>
    intro x hx hn
    by_cases e : x = 0
    · subst e; exact Int.le_refl _
    · have h1 := h x (by omega) hn
      have h2 := ih ((x - 1) / 2) (by omega) (by omega)
      omega
/-- Heaped but for number j, which may have to go up. -/
def UpAt (ts : List Tur) (n j : Nat) : Prop := (∀ x, 0 < x → x < n → x ≠ j → kat ts ((x - 1) / 2) ≤ kat ts x) ∧ (0 < j → ∀ x, 0 < x → x < n → (x - 1) / 2 = j → kat ts ((j - 1) / 2) ≤ kat ts x)
theorem up_top {ts : List Tur} {n : Nat} (h : UpAt ts n 0) : Heaped ts n := fun x h0 hn => h.1 x h0 hn (by omega)
theorem up_done {ts : List Tur} {n j : Nat} (h : UpAt ts n j) (hk : kat ts ((j - 1) / 2) ≤ kat ts j) : Heaped ts n := by
  intro x h0 hn
  by_cases e : x = j
  · subst e; exact hk
  · exact h.1 x h0 hn e
theorem up_step {ts : List Tur} {n j : Nat} (h : UpAt ts n j) (h0 : 0 < j) (hj : j < n) (hn : n ≤ ts.length) (hk : kat ts j < kat ts ((j - 1) / 2)) : UpAt (swapT ts ((j - 1) / 2) j) n ((j - 1) / 2) := by
  obtain ⟨i, hi⟩ : ∃ i, (j - 1) / 2 = i := ⟨_, rfl⟩
  rw [hi] at hk ⊢
  have hij : i < j := by omega
  have K := swapT_key (ts := ts) (i := i) (j := j) (by omega) (by omega)
  constructor
  · intro x hx0 hxn hxi
    rw [K, K]
    by_cases e1 : x = j
    · subst e1
      rw [if_neg (by omega), if_pos hi, if_pos rfl]; omega
    · have g1 := h.1 x hx0 hxn e1
      by_cases e2 : (x - 1) / 2 = j
      · have g2 := h.2 h0 x hx0 hxn e2
        rw [hi] at g2
        rw [if_pos e2, if_neg e1, if_neg hxi]; exact g2
      · by_cases e3 : (x - 1) / 2 = i
        · rw [e3] at g1
          rw [if_neg e2, if_pos e3, if_neg e1, if_neg hxi]; omega
        · rw [if_neg e2, if_neg e3, if_neg e1, if_neg hxi]; exact g1
  · intro hi0 x hx0 hxn hxi
    have g0 := h.1 i hi0 (by omega) (by omega)
    rw [K, K]
    rw [if_neg (by omega), if_neg (by omega)]
    by_cases e1 : x = j
    · rw [if_pos e1]; exact g0
    · have g1 := h.1 x hx0 hxn e1
      rw [hxi] at g1
      rw [if_neg e1, if_neg (by omega)]; omega
theorem kat_left {ts us : List Tur} {j : Nat} (h : j < ts.length) : kat (ts ++ us) j = kat ts j := by
  unfold kat tatn; simp [List.getElem?_append_left h]
theorem up_start {ts : List Tur} (h : Heaped ts ts.length) (t : Tur) : UpAt (ts ++ [t]) (ts.length + 1) ts.length := by
  constructor
  · intro x h0 hn hx
    rw [kat_left (by omega), kat_left (by omega)]
    exact h x h0 (by omega)
  · intro _ x _ hn hx; omega
/-- Heaped but for number i, which may have to go down. -/
def DownAt (ts : List Tur) (n i : Nat) : Prop := (∀ x, 0 < x → x < n → (x - 1) / 2 ≠ i → kat ts ((x - 1) / 2) ≤ kat ts x) ∧ (0 < i → ∀ x, 0 < x → x < n → (x - 1) / 2 = i → kat ts ((i - 1) / 2) ≤ kat ts x)
theorem down_done {ts : List Tur} {n i : Nat} (h : DownAt ts n i) (hk : ∀ x, x < n → (x = 2 * i + 1 ∨ x = 2 * i + 2) → kat ts i ≤ kat ts x) : Heaped ts n := by
  intro x h0 hn
  by_cases e : (x - 1) / 2 = i
  · rw [e]; exact hk x hn (by omega)
  · exact h.1 x h0 hn e
theorem down_step {ts : List Tur} {n i j : Nat} (h : DownAt ts n i) (hj : j < n) (hn : n ≤ ts.length) (hc : j = 2 * i + 1 ∨ j = 2 * i + 2) (hk : kat ts j < kat ts i) (hm : ∀ x, x < n → (x = 2 * i + 1 ∨ x = 2 * i + 2) → kat ts j ≤ kat ts x) : DownAt (swapT ts i j) n j := by
  have hij : i < j := by omega
  have K := swapT_key (ts := ts) (i := i) (j := j) (by omega) (by omega)
  constructor
  · intro x hx0 hxn hxj
    rw [K, K]
    rw [if_neg hxj]
    by_cases e1 : (x - 1) / 2 = i
    · rw [if_pos e1]
      by_cases e2 : x = j
      · rw [if_pos e2]; omega
      · rw [if_neg e2, if_neg (by omega)]
        exact hm x hxn (by omega)
    · have g1 := h.1 x hx0 hxn e1
      rw [if_neg e1]
      by_cases e2 : x = j
      · omega
      · rw [if_neg e2]
        by_cases e3 : x = i
        · subst e3
          rw [if_pos rfl]
          exact h.2 hx0 j (by omega) hj (by omega)
        · rw [if_neg e3]; exact g1
  · intro _ x hx0 hxn hxj
    rw [K, K]
    rw [show (j - 1) / 2 = i by omega, if_neg (by omega), if_pos rfl, if_neg (by omega), if_neg (by omega)]
    have g1 := h.1 x hx0 hxn (by omega)
    rw [hxj] at g1; exact g1
theorem down_start {ts : List Tur} {n : Nat} (h : Heaped ts (n + 1)) (hn : n + 1 ≤ ts.length) : DownAt (swapT ts 0 n) n 0 := by
  have K := swapT_key (ts := ts) (i := 0) (j := n) (by omega) (by omega)
  constructor
  · intro x hx0 hxn hx
    rw [K, K, if_neg (by omega), if_neg hx, if_neg (by omega), if_neg (by omega)]
    exact h x hx0 (by omega)
  · intro h0; omega

/-- How they come out: each has a greater key than the one ahead of it. -/
def Rowed (ss : List Tur) : Prop := ss.Pairwise fun a b => a.key < b.key
theorem first_is {ts : List Tur} {s : Tur} {ss : List Tur} (h : Heaped ts ts.length) (hp : ts.Perm (s :: ss)) (hr : Rowed (s :: ss)) : 0 < ts.length ∧ tatn ts 0 = s := by
  have hl : ts.length = ss.length + 1 := by have := hp.length_eq; simpa using this
  refine ⟨by omega, ?_⟩
  have hs : s ∈ ts := hp.mem_iff.2 (by simp)
  obtain ⟨x, hx, rfl⟩ := List.getElem_of_mem hs
  have h1 := heap_first h x x (Nat.le_refl _) hx
  have hm : tatn ts 0 ∈ ts[x] :: ss := by
    rw [tatn_eq (show 0 < ts.length by omega)]; exact hp.mem_iff.1 (List.getElem_mem _)
  rcases List.mem_cons.1 hm with e | e
  · exact e
  · have := (List.pairwise_cons.1 hr).1 _ e
    unfold kat at h1
    rw [tatn_eq hx] at h1; omega
theorem rest_is {ts : List Tur} {s : Tur} {ss : List Tur} {n : Nat} (hl : ts.length = n + 1) (hp : ts.Perm (s :: ss)) (hs : tatn ts n = s) : (ts.take n).Perm ss := by
  have e : ts = ts.take n ++ [s] := by
    rw [tatn_eq (by omega)] at hs
    have := List.take_succ_eq_append_getElem (l := ts) (i := n) (by omega)
    rw [List.take_of_length_le (by omega), hs] at this; exact this
  have h1 : (ts.take n ++ [s]).Perm (s :: ss) := by rw [← e]; exact hp
  exact ((List.perm_append_singleton s (ts.take n)).symm.trans h1).cons_inv
theorem heaped_take {ts : List Tur} {n : Nat} (h : Heaped ts n) (hl : n ≤ ts.length) : Heaped (ts.take n) (ts.take n).length := by
  have e : (ts.take n).length = n := by simp; omega
  intro x h0 hx
  rw [e] at hx
  have k : ∀ j, j < n → kat (ts.take n) j = kat ts j := fun j hj => by unfold kat tatn; simp [hj]
  rw [k _ (by omega), k _ hx]; exact h x h0 hx
theorem less_key {a b : Tur} (ha : 0 ≤ a.came ∧ a.came < 100) (hb : 0 ≤ b.came ∧ b.came < 100) : decide ((if (if a.w.ripe < b.w.ripe then (-1 : Int) else if b.w.ripe < a.w.ripe then 1 else 0) = 0 then (if a.came < b.came then (-1 : Int) else if b.came < a.came then 1 else 0) else (if a.w.ripe < b.w.ripe then (-1 : Int) else if b.w.ripe < a.w.ripe then 1 else 0)) < 0) = decide (a.key < b.key) := by
  rw [Bool.eq_iff_iff, decide_eq_true_eq, decide_eq_true_eq]
  unfold Tur.key
  by_cases h1 : a.w.ripe < b.w.ripe
  · rw [if_pos h1, if_neg (by omega)]; omega
  · rw [if_neg h1]
    by_cases h2 : b.w.ripe < a.w.ripe
    · rw [if_pos h2, if_neg (by omega)]; omega
    · rw [if_neg h2, if_pos rfl]
      by_cases h3 : a.came < b.came
      · rw [if_pos h3]; omega
      · rw [if_neg h3]
        by_cases h4 : b.came < a.came
        · rw [if_pos h4]; omega
        · rw [if_neg h4]; omega
end Go.Proofs.Ytkdelfadmnpkhaa
