/-
  Texts joined: Heap6, CmpI, WaitJ, WaitK, WaitL, QTail, QueA, QueB, QueC, QueD, QueE.
-/
import Derived.Test.YtncandoohlndnaaGreatJ4
import Derived.StillTail
import Derived.Deep.MidRow
namespace Go.Proofs.YtncandoohlndnaaGreat
open Go.ChangeShapes Go.WideShapes Go.ChangeAt Go.RowKit

/-- One that waits, and when it came. -/
structure Tur where
  w : Wai
  came : Int
def Tur.cs (t : Tur) : List Value := [.string t.w.who, .string t.w.mill, .int .i64 t.w.amount, .int .i64 t.w.ripe, .int .i64 t.came]
theorem Tur.len (t : Tur) : t.cs.length = 5 := rfl
theorem Tur.one (t : Tur) : ∀ v ∈ t.cs, v.oneCell' = true := by
  intro v hv
  simp only [Tur.cs, List.mem_cons, List.not_mem_nil, or_false] at hv
  rcases hv with rfl | rfl | rfl | rfl | rfl <;> rfl
/-- Sooner ripe first, then who came first. -/
def Tur.key (t : Tur) : Int := t.w.ripe * 100 + t.came
def tur0 : Tur := ⟨wai0, 0⟩
def tatn (ts : List Tur) (j : Nat) : Tur := ts.getD j tur0
theorem tatn_eq {ts : List Tur} {j : Nat} (h : j < ts.length) : tatn ts j = ts[j] := by simp [tatn, h]
def kat (ts : List Tur) (j : Nat) : Int := (tatn ts j).key
/-- When they came, as a number below 100. -/
def Fine (ts : List Tur) : Prop := ∀ t ∈ ts, 0 ≤ t.came ∧ t.came < 100
theorem Fine.at {ts : List Tur} (h : Fine ts) {j : Nat} (hj : j < ts.length) : 0 ≤ ts[j].came ∧ ts[j].came < 100 := h _ (List.getElem_mem hj)
theorem Fine.perm {ts us : List Tur} (h : Fine ts) (hp : us.Perm ts) : Fine us := fun t ht => h t (hp.mem_iff.1 ht)

/-- Two change places. -/
def swapT (ts : List Tur) (i j : Nat) : List Tur := (ts.set i (tatn ts j)).set j (tatn ts i)
theorem swapT_len (ts : List Tur) (i j : Nat) : (swapT ts i j).length = ts.length := by simp [swapT]
theorem swapT_at {ts : List Tur} {i j : Nat} (hi : i < ts.length) (hj : j < ts.length) (x : Nat) : tatn (swapT ts i j) x = if x = j then tatn ts i else if x = i then tatn ts j else tatn ts x := by
  unfold swapT
  simp only [tatn, List.getD_eq_getElem?_getD, List.getElem?_set, List.length_set]
  by_cases e1 : j = x
  · subst e1; simp [hj]
  · by_cases e2 : i = x
    · subst e2; simp [e1, hi, Ne.symm e1]
    · simp [e1, e2, Ne.symm e1, Ne.symm e2]
theorem swapT_key {ts : List Tur} {i j : Nat} (hi : i < ts.length) (hj : j < ts.length) (x : Nat) : kat (swapT ts i j) x = if x = j then kat ts i else if x = i then kat ts j else kat ts x := by
  unfold kat
  rw [swapT_at hi hj]
  split
  · rfl
  · split <;> rfl
theorem swapT_perm {ts : List Tur} {i j : Nat} (hi : i < ts.length) (hj : j < ts.length) : (swapT ts i j).Perm ts := by
  unfold swapT
  rw [tatn_eq hi, tatn_eq hj]
  exact List.set_set_perm hi hj
theorem swapT_cells {ts : List Tur} {i j : Nat} (hi : i < ts.length) (hj : j < ts.length) : ∀ x, x < ts.length → (swapT ts i j)[x]? = some (if x = j then ts[i] else if x = i then ts[j] else tatn ts x) := by
  intro x hx
  have h := swapT_at hi hj x
  have hl : x < (swapT ts i j).length := by rw [swapT_len]; exact hx
  rw [tatn_eq hl, tatn_eq hi, tatn_eq hj] at h
  rw [List.getElem?_eq_getElem hl, h]

/-- None has a lesser key than the one above it. -/
def Heaped (ts : List Tur) (n : Nat) : Prop := ∀ x, 0 < x → x < n → kat ts ((x - 1) / 2) ≤ kat ts x
theorem heap_first {ts : List Tur} {n : Nat} (h : Heaped ts n) : ∀ m x, x ≤ m → x < n → kat ts 0 ≤ kat ts x := by
  intro m
  induction m with
  | zero => intro x hx _; obtain rfl : x = 0 := by omega
            exact Int.le_refl _
  | succ m ih =>
    intro x hx hn
    by_cases e : x = 0
    · subst e; exact Int.le_refl _
    · have h1 := h x (by omega) hn
      have h2 := ih ((x - 1) / 2) (by omega) (by omega)
      omega
/-- Heaped but for number j, which may have to go up. -/
def UpAt (ts : List Tur) (n j : Nat) : Prop := (∀ x, 0 < x → x < n → x ≠ j → kat ts ((x - 1) / 2) ≤ kat ts x) ∧ (0 < j → ∀ x, 0 < x → x < n → (x - 1) / 2 = j → kat ts ((j - 1) / 2) ≤ kat ts x)
theorem up_top {ts : List Tur} {n : Nat} (h : UpAt ts n 0) : Heaped ts n := fun x h0 hn => h.1 x h0 hn (by omega)
theorem up_done {ts : List Tur} {n j : Nat} (h : UpAt ts n j) (hk : kat ts ((j - 1) / 2) ≤ kat ts j) : Heaped ts n := by
  intro x h0 hn
  by_cases e : x = j
  · subst e; exact hk
  · exact h.1 x h0 hn e
theorem up_step {ts : List Tur} {n j : Nat} (h : UpAt ts n j) (h0 : 0 < j) (hj : j < n) (hn : n ≤ ts.length) (hk : kat ts j < kat ts ((j - 1) / 2)) : UpAt (swapT ts ((j - 1) / 2) j) n ((j - 1) / 2) := by
  obtain ⟨i, hi⟩ : ∃ i, (j - 1) / 2 = i := ⟨_, rfl⟩
  rw [hi] at hk ⊢
  have hij : i < j := by omega
  have K := swapT_key (ts := ts) (i := i) (j := j) (by omega) (by omega)
  constructor
  · intro x hx0 hxn hxi
    rw [K, K]
    by_cases e1 : x = j
    · subst e1
      rw [if_neg (by omega), if_pos hi, if_pos rfl]; omega
    · have g1 := h.1 x hx0 hxn e1
      by_cases e2 : (x - 1) / 2 = j
      · have g2 := h.2 h0 x hx0 hxn e2
        rw [hi] at g2
        rw [if_pos e2, if_neg e1, if_neg hxi]; exact g2
      · by_cases e3 : (x - 1) / 2 = i
        · rw [e3] at g1
          rw [if_neg e2, if_pos e3, if_neg e1, if_neg hxi]; omega
        · rw [if_neg e2, if_neg e3, if_neg e1, if_neg hxi]; exact g1
  · intro hi0 x hx0 hxn hxi
    have g0 := h.1 i hi0 (by omega) (by omega)
    rw [K, K]
    rw [if_neg (by omega), if_neg (by omega)]
    by_cases e1 : x = j
    · rw [if_pos e1]; exact g0
    · have g1 := h.1 x hx0 hxn e1
      rw [hxi] at g1
      rw [if_neg e1, if_neg (by omega)]; omega
theorem kat_left {ts us : List Tur} {j : Nat} (h : j < ts.length) : kat (ts ++ us) j = kat ts j := by
  unfold kat tatn; simp [List.getElem?_append_left h]
theorem up_start {ts : List Tur} (h : Heaped ts ts.length) (t : Tur) : UpAt (ts ++ [t]) (ts.length + 1) ts.length := by
  constructor
  · intro x h0 hn hx
    rw [kat_left (by omega), kat_left (by omega)]
    exact h x h0 (by omega)
  · intro _ x _ hn hx; omega
/-- Heaped but for number i, which may have to go down. -/
def DownAt (ts : List Tur) (n i : Nat) : Prop := (∀ x, 0 < x → x < n → (x - 1) / 2 ≠ i → kat ts ((x - 1) / 2) ≤ kat ts x) ∧ (0 < i → ∀ x, 0 < x → x < n → (x - 1) / 2 = i → kat ts ((i - 1) / 2) ≤ kat ts x)
theorem down_done {ts : List Tur} {n i : Nat} (h : DownAt ts n i) (hk : ∀ x, x < n → (x = 2 * i + 1 ∨ x = 2 * i + 2) → kat ts i ≤ kat ts x) : Heaped ts n := by
  intro x h0 hn
  by_cases e : (x - 1) / 2 = i
  · rw [e]; exact hk x hn (by omega)
  · exact h.1 x h0 hn e
theorem down_step {ts : List Tur} {n i j : Nat} (h : DownAt ts n i) (hj : j < n) (hn : n ≤ ts.length) (hc : j = 2 * i + 1 ∨ j = 2 * i + 2) (hk : kat ts j < kat ts i) (hm : ∀ x, x < n → (x = 2 * i + 1 ∨ x = 2 * i + 2) → kat ts j ≤ kat ts x) : DownAt (swapT ts i j) n j := by
  have hij : i < j := by omega
  have K := swapT_key (ts := ts) (i := i) (j := j) (by omega) (by omega)
  constructor
  · intro x hx0 hxn hxj
    rw [K, K]
    rw [if_neg hxj]
    by_cases e1 : (x - 1) / 2 = i
    · rw [if_pos e1]
      by_cases e2 : x = j
      · rw [if_pos e2]; omega
      · rw [if_neg e2, if_neg (by omega)]
        exact hm x hxn (by omega)
    · have g1 := h.1 x hx0 hxn e1
      rw [if_neg e1]
      by_cases e2 : x = j
      · omega
      · rw [if_neg e2]
        by_cases e3 : x = i
        · subst e3
          rw [if_pos rfl]
          exact h.2 hx0 j (by omega) hj (by omega)
        · rw [if_neg e3]; exact g1
  · intro _ x hx0 hxn hxj
    rw [K, K]
    rw [show (j - 1) / 2 = i by omega, if_neg (by omega), if_pos rfl, if_neg (by omega), if_neg (by omega)]
    have g1 := h.1 x hx0 hxn (by omega)
    rw [hxj] at g1; exact g1
theorem down_start {ts : List Tur} {n : Nat} (h : Heaped ts (n + 1)) (hn : n + 1 ≤ ts.length) : DownAt (swapT ts 0 n) n 0 := by
  have K := swapT_key (ts := ts) (i := 0) (j := n) (by omega) (by omega)
  constructor
  · intro x hx0 hxn hx
    rw [K, K, if_neg (by omega), if_neg hx, if_neg (by omega), if_neg (by omega)]
    exact h x hx0 (by omega)
  · intro h0; omega

/-- How they come out: each has a greater key than the one ahead of it. -/
def Rowed (ss : List Tur) : Prop := ss.Pairwise fun a b => a.key < b.key
theorem first_is {ts : List Tur} {s : Tur} {ss : List Tur} (h : Heaped ts ts.length) (hp : ts.Perm (s :: ss)) (hr : Rowed (s :: ss)) : 0 < ts.length ∧ tatn ts 0 = s := by
  have hl : ts.length = ss.length + 1 := by have := hp.length_eq; simpa using this
  refine ⟨by omega, ?_⟩
  have hs : s ∈ ts := hp.mem_iff.2 (by simp)
  obtain ⟨x, hx, rfl⟩ := List.getElem_of_mem hs
  have h1 := heap_first h x x (Nat.le_refl _) hx
  have hm : tatn ts 0 ∈ ts[x] :: ss := by
    rw [tatn_eq (show 0 < ts.length by omega)]; exact hp.mem_iff.1 (List.getElem_mem _)
  rcases List.mem_cons.1 hm with e | e
  · exact e
  · have := (List.pairwise_cons.1 hr).1 _ e
    unfold kat at h1
    rw [tatn_eq hx] at h1; omega
theorem rest_is {ts : List Tur} {s : Tur} {ss : List Tur} {n : Nat} (hl : ts.length = n + 1) (hp : ts.Perm (s :: ss)) (hs : tatn ts n = s) : (ts.take n).Perm ss := by
  have e : ts = ts.take n ++ [s] := by
    rw [tatn_eq (by omega)] at hs
    have := List.take_succ_eq_append_getElem (l := ts) (i := n) (by omega)
    rw [List.take_of_length_le (by omega), hs] at this; exact this
  have h1 : (ts.take n ++ [s]).Perm (s :: ss) := by rw [← e]; exact hp
  exact ((List.perm_append_singleton s (ts.take n)).symm.trans h1).cons_inv
theorem heaped_take {ts : List Tur} {n : Nat} (h : Heaped ts n) (hl : n ≤ ts.length) : Heaped (ts.take n) (ts.take n).length := by
  have e : (ts.take n).length = n := by simp; omega
  intro x h0 hx
  rw [e] at hx
  have k : ∀ j, j < n → kat (ts.take n) j = kat ts j := fun j hj => by unfold kat tatn; simp [hj]
  rw [k _ (by omega), k _ hx]; exact h x h0 hx
theorem less_key {a b : Tur} (ha : 0 ≤ a.came ∧ a.came < 100) (hb : 0 ≤ b.came ∧ b.came < 100) : decide ((if (if a.w.ripe < b.w.ripe then (-1 : Int) else if b.w.ripe < a.w.ripe then 1 else 0) = 0 then (if a.came < b.came then (-1 : Int) else if b.came < a.came then 1 else 0) else (if a.w.ripe < b.w.ripe then (-1 : Int) else if b.w.ripe < a.w.ripe then 1 else 0)) < 0) = decide (a.key < b.key) := by
  rw [Bool.eq_iff_iff, decide_eq_true_eq, decide_eq_true_eq]
  unfold Tur.key
  by_cases h1 : a.w.ripe < b.w.ripe
  · rw [if_pos h1, if_neg (by omega)]; omega
  · rw [if_neg h1]
    by_cases h2 : b.w.ripe < a.w.ripe
    · rw [if_pos h2, if_neg (by omega)]; omega
    · rw [if_neg h2, if_pos rfl]
      by_cases h3 : a.came < b.came
      · rw [if_pos h3]; omega
      · rw [if_neg h3]
        by_cases h4 : b.came < a.came
        · rw [if_pos h4]; omega
        · rw [if_neg h4]; omega
end Go.Proofs.YtncandoohlndnaaGreat
namespace Go.Proofs.YtncandoohlndnaaGreat
open Go.ChangeShapes Go.WideShapes Go.ChangeAt Go.RowKit

/-- Three ways. -/
def cmpN (a b : Int) : Int := if a < b then -1 else if b < a then 1 else 0
theorem cmpN_lt {a b : Int} (h : a < b) : cmpN a b = -1 := by simp [cmpN, h]
theorem cmpN_gt {a b : Int} (h : b < a) : cmpN a b = 1 := by unfold cmpN; rw [if_neg (by omega), if_pos h]
theorem cmpN_eq {a b : Int} (h : ¬ a < b) (h' : ¬ b < a) : cmpN a b = 0 := by unfold cmpN; rw [if_neg h, if_neg h']

set_option maxHeartbeats 1000000 in
set_option maxRecDepth 100000 in
theorem iCmpL_any (a b : Int) (w : World) :
    Calls Tryz.prog 96 #[.int .i64 a, .int .i64 b] w fun e w' => e = .returned (.int .i64 (cmpN a b)) ∧ w = w' := by
  by_cases h1 : a < b
  · have HN := Lib.hid (cmpN_lt h1)
    go_enter Tryz.func96, Tryz.ntmps96
    go_wp2
    go_ret
    exact ⟨by rw [HN.out]; rfl, rfl⟩
  · by_cases h2 : b < a
    · have HN := Lib.hid (cmpN_gt h2)
      go_enter Tryz.func96, Tryz.ntmps96
      go_wp2
      go_ret
      exact ⟨by rw [HN.out]; rfl, rfl⟩
    · have HN := Lib.hid (cmpN_eq h1 h2)
      go_enter Tryz.func96, Tryz.ntmps96
      go_wp2
      go_ret
      exact ⟨by rw [HN.out]; rfl, rfl⟩

set_option maxHeartbeats 1000000 in
set_option maxRecDepth 100000 in
theorem iCmpI_any (a b : Int) (w : World) :
    Calls Tryz.prog 163 #[.int .i64 a, .int .i64 b] w fun e w' => e = .returned (.int .i64 (cmpN a b)) ∧ w = w' := by
  by_cases h1 : a < b
  · have HN := Lib.hid (cmpN_lt h1)
    go_enter Tryz.func163, Tryz.ntmps163
    go_wp2
    go_ret
    exact ⟨by rw [HN.out]; rfl, rfl⟩
  · by_cases h2 : b < a
    · have HN := Lib.hid (cmpN_gt h2)
      go_enter Tryz.func163, Tryz.ntmps163
      go_wp2
      go_ret
      exact ⟨by rw [HN.out]; rfl, rfl⟩
    · have HN := Lib.hid (cmpN_eq h1 h2)
      go_enter Tryz.func163, Tryz.ntmps163
      go_wp2
      go_ret
      exact ⟨by rw [HN.out]; rfl, rfl⟩

/-- The first that is not 0. -/
def orN (x y : Int) : Int := if x = 0 then y else x
set_option maxHeartbeats 1000000 in
set_option maxRecDepth 100000 in
theorem iOrN_any {w : World} {b : Nat} (x y : Int) (h0 : w.cell? ⟨b, 0, none⟩ = some (.int .i64 x)) (h1 : w.cell? ⟨b, 1, none⟩ = some (.int .i64 y)) :
    Calls Tryz.prog 118 #[.slice (some ⟨b, 0, none⟩) 2 2] w fun e w' => e = .returned (.int .i64 (orN x y)) ∧ w = w' := by
  go_enter Tryz.func118, Tryz.ntmps118
  go_wp2
  go_loop [8] (fun i => ∃ k : Nat, k ≤ 2 ∧ i = .int .i64 k ∧ (1 ≤ k → x = 0) ∧ (2 ≤ k → y = 0)) (fun i => 2 - (intOf i).toNat)
  case atStart => exact ⟨0, Nat.zero_le _, rfl, fun h => by omega, fun h => by omega⟩
  case round =>
    obtain ⟨k, hk, rfl, hx, hy⟩ := hrel
    match k, hk, hx, hy with
    | 0, _, _, _ =>
      by_cases hx : x = 0
      · subst hx
        go_wp2
        go_round
        case rel => exact ⟨1, by omega, by go_num, by simp, by simp⟩
        case measure => simp [intOf]
      · have HN := Lib.hid (show orN x y = x by simp [orN, hx])
        go_wp2
        go_ret
        exact ⟨by rw [HN.out]; rfl, rfl⟩
    | 1, _, hx, _ =>
      obtain rfl : x = 0 := hx (by omega)
      by_cases hy : y = 0
      · subst hy
        go_wp2
        go_round
        case rel => exact ⟨2, by omega, by go_num, by simp, by simp⟩
        case measure => simp [intOf]
      · have HN := Lib.hid (show orN 0 y = y by simp [orN])
        go_wp2
        go_ret
        exact ⟨by rw [HN.out]; rfl, rfl⟩
    | 2, _, hx, hy =>
      obtain rfl : x = 0 := hx (by omega)
      obtain rfl : y = 0 := hy (by omega)
      go_wp2
      go_ret
      exact ⟨rfl, rfl⟩

set_option maxHeartbeats 1000000 in
set_option maxRecDepth 100000 in
theorem iByRipe_any (p q : Wai) (w : World) :
    Calls Tryz.prog 79 #[.agg #[.string p.who, .string p.mill, .int .i64 p.amount, .int .i64 p.ripe], .agg #[.string q.who, .string q.mill, .int .i64 q.amount, .int .i64 q.ripe]] w fun e w' => e = .returned (.int .i64 (cmpN p.ripe q.ripe)) ∧ Below w.heap.size w w' := by
  go_enter Tryz.func79, Tryz.ntmps79
  go_wp2_with (go_at_call 96; refine (iCmpL_any _ _ _).mono ?_; rintro e w' ⟨rfl, rfl⟩)
  go_ret
  exact ⟨rfl, ((Below.refl _ _).alloc (Nat.le_refl _) _).alloc (by simp) _⟩
end Go.Proofs.YtncandoohlndnaaGreat
namespace Go.Proofs.YtncandoohlndnaaGreat
open Go.ChangeShapes Go.WideShapes Go.ChangeAt Go.RowKit

theorem wait_split (p : Wai) : waitB p = (nameB p.who && (nameB p.mill && (decide (1 ≤ p.amount) && (inB 0 1000000 p.amount && inB 0 1000 p.ripe)))) := by
  unfold waitB
  congr 1; congr 1
  rw [← Bool.and_assoc]; congr 1
  simp only [inB]
  rw [Bool.eq_iff_iff]; simp; omega

set_option maxHeartbeats 4000000 in
set_option maxRecDepth 100000 in
theorem iWaitRight_any (p : Wai) (w : World) (h1 : p.who.size ≤ maxLen) (h2 : p.mill.size ≤ maxLen) :
    Calls Tryz.prog 77 #[.agg #[.string p.who, .string p.mill, .int .i64 p.amount, .int .i64 p.ripe]] w fun e w' => e = .returned (.bool (waitB p)) ∧ Below w.heap.size w w' := by
  have HS1 := Lib.hid h1
  have HS2 := Lib.hid h2
  clear h1 h2
  have HN := Lib.hid (wait_split p)
  cases q1 : nameB p.who
  · go_enter Tryz.func77, Tryz.ntmps77
    go_wp2_with fail
    refine (iNameOk_any p.who _ HS1.out).mono ?_
    rintro e w' ⟨rfl, rfl⟩
    rw [q1]
    go_wp2
    go_ret
    exact ⟨by rw [HN.out, q1]; rfl, below_new _ _⟩
  cases q2 : nameB p.mill
  · go_enter Tryz.func77, Tryz.ntmps77
    go_wp2_with fail
    refine (iNameOk_any p.who _ HS1.out).mono ?_
    rintro e w' ⟨rfl, rfl⟩
    rw [q1]
    go_wp2_with fail
    refine (iNameOk_any p.mill _ HS2.out).mono ?_
    rintro e w' ⟨rfl, rfl⟩
    rw [q2]
    go_wp2
    go_ret
    exact ⟨by rw [HN.out, q1, q2]; rfl, below_new _ _⟩
  cases q3 : decide (1 ≤ p.amount)
  · go_enter Tryz.func77, Tryz.ntmps77
    go_wp2_with fail
    refine (iNameOk_any p.who _ HS1.out).mono ?_
    rintro e w' ⟨rfl, rfl⟩
    rw [q1]
    go_wp2_with fail
    refine (iNameOk_any p.mill _ HS2.out).mono ?_
    rintro e w' ⟨rfl, rfl⟩
    rw [q2]
    go_wp2
    go_ret
    exact ⟨by rw [HN.out, q1, q2, q3]; rfl, below_new _ _⟩
  cases q4 : inB 0 1000000 p.amount
  · go_enter Tryz.func77, Tryz.ntmps77
    go_wp2_with fail
    refine (iNameOk_any p.who _ HS1.out).mono ?_
    rintro e w' ⟨rfl, rfl⟩
    rw [q1]
    go_wp2_with fail
    refine (iNameOk_any p.mill _ HS2.out).mono ?_
    rintro e w' ⟨rfl, rfl⟩
    rw [q2]
    go_wp2_with fail
    refine (iAmountOk_any _ _).mono ?_
    rintro e w' ⟨rfl, rfl⟩
    rw [q4]
    go_wp2
    go_ret
    exact ⟨by rw [HN.out, q1, q2, q3, q4]; rfl, below_new _ _⟩
  cases q5 : inB 0 1000 p.ripe
  all_goals
    go_enter Tryz.func77, Tryz.ntmps77
    go_wp2_with fail
    refine (iNameOk_any p.who _ HS1.out).mono ?_
    rintro e w' ⟨rfl, rfl⟩
    rw [q1]
    go_wp2_with fail
    refine (iNameOk_any p.mill _ HS2.out).mono ?_
    rintro e w' ⟨rfl, rfl⟩
    rw [q2]
    go_wp2_with fail
    refine (iAmountOk_any _ _).mono ?_
    rintro e w' ⟨rfl, rfl⟩
    rw [q4]
    go_wp2_with fail
    refine (within_any _ _ _).mono ?_
    rintro e w' ⟨rfl, rfl⟩
    rw [q5]
    go_wp2
    go_ret
    exact ⟨by rw [HN.out, q1, q2, q3, q4, q5]; rfl, below_new _ _⟩

/-- From number k on none is ripe sooner than the one ahead of it. -/
def WFrom (ps : List Wai) (k : Nat) : Prop := ∀ j (h : j + 1 < ps.length), k ≤ j → ps[j].ripe ≤ ps[j + 1].ripe
noncomputable instance (ps : List Wai) : Decidable (WFrom ps 0) := Classical.propDecidable _
noncomputable def wsortB (ps : List Wai) : Bool := decide (WFrom ps 0)
theorem wsort_no {ps : List Wai} {k : Nat} (h : k + 1 < ps.length) (hq : ps[k + 1].ripe < ps[k].ripe) : wsortB ps = false := by
  simp only [wsortB, decide_eq_false_iff_not]
  intro hc; have := hc k h (Nat.zero_le _); omega
theorem wsort_yes {ps : List Wai} (h : WFrom ps 0) : wsortB ps = true := by simpa [wsortB] using h

set_option maxHeartbeats 4000000 in
set_option maxRecDepth 100000 in
theorem iSorted_any {w : World} {a : Option Addr} {ps : List Wai} (cap : Nat) (h : Recs Wai.cs w a ps) (hl : ps.length ≤ 1048576) :
    Calls Tryz.prog 78 #[.slice a ps.length cap, .func (Fn.func 79) #[] #[]] w fun e w' => e = .returned (.bool (wsortB ps)) ∧ Below w.heap.size w w' := by
  have H := Lib.hid h
  clear h
  go_enter Tryz.func78, Tryz.ntmps78
  go_wp2
  go_loopw [5] (fun i w' => ∃ (k : Int), -1 ≤ k ∧ k < ps.length ∧ i = .int .i64 k ∧ Below w.heap.size w w' ∧ WFrom ps k.toNat) (fun i _ => (intOf i).toNat)
  case atStart => exact ⟨(ps.length : Int) - 1, by omega, by omega, by go_num, Below.refl _ _, fun j hj hk => by omega⟩
  case round =>
    obtain ⟨k, hk0, hk, rfl, hb, hu⟩ := hrel
    have HB := Lib.hid hb
    have HU := Lib.hid hu
    clear hb hu
    by_cases h0 : 0 < k
    · obtain ⟨m, rfl⟩ : ∃ m : Nat, k = (m : Int) + 1 := ⟨k.toNat - 1, by omega⟩
      have hlt : m + 1 < ps.length := by omega
      obtain ⟨b, off, rfl, hlb, c0, c1, c2, c3⟩ := Wai.at (H.out.below HB.out) (m + 1) hlt
      obtain ⟨b', off', e', _, d0, d1, d2, d3⟩ := Wai.at (H.out.below HB.out) m (by omega)
      obtain ⟨rfl, rfl⟩ : b' = b ∧ off' = off := by injection e' with e'; injection e' with e1 e2; exact ⟨e1.symm, e2.symm⟩
      clear e'
      have e0 := Grow.cell c0
      have e1 := Grow.cell c1
      have e2 := Grow.cell c2
      have e3 := Grow.cell c3
      have f0 := Grow.cell d0
      have f1 := Grow.cell d1
      have f2 := Grow.cell d2
      have f3 := Grow.cell d3
      have ht : ((m : Int) + 1).toNat = m + 1 := by omega
      have hs1 : (m : Int) + 1 - 1 = m := by omega
      obtain ⟨x, HX⟩ : ∃ x, Hid (cmpN ps[m + 1].ripe ps[m].ripe = x) := ⟨_, Lib.hid rfl⟩
      go_wp2
      refine wp_region_grow (by kernel_rfl) (by kernel_rfl) ?_
      repeat (go_big_quiet_step ((go_at_call 79; exact grow_call (int_is HX.out) (iByRipe_any ps[m + 1] ps[m] _))))
      refine wpQuiet_nil ?_
      intro _ hw'
      obtain ⟨gq, rfl⟩ := hw'
      have HB2 := Lib.hid (below_trans HB.out gq.ok)
      by_cases hq : ps[m + 1].ripe < ps[m].ripe
      · have HN := Lib.hid (wsort_no hlt hq)
        have hx : x = -1 := by rw [← HX.out]; exact cmpN_lt hq
        subst hx
        go_wp2
        go_ret
        exact ⟨by rw [HN.out]; rfl, HB2.out⟩
      · have hx : ¬ x < 0 := by rw [← HX.out]; unfold cmpN; rw [if_neg hq]; split <;> omega
        have HN : Hid (WFrom ps m) := by
          intro j hj hmj
          by_cases e : j = m
          · subst e; omega
          · exact HU.out j hj (by omega)
        go_wp2
        go_roundw
        case rel => exact ⟨m, by omega, by omega, by go_num, HB2.out, HN.out⟩
        case measure => simp [intOf]
    · have HN := Lib.hid (wsort_yes (ps := ps) (fun j hj _ => HU.out j hj (by omega)))
      go_wp2
      go_ret
      exact ⟨by rw [HN.out]; rfl, HB.out⟩
end Go.Proofs.YtncandoohlndnaaGreat
namespace Go.Proofs.YtncandoohlndnaaGreat
open Go.ChangeShapes Go.WideShapes Go.ChangeAt Go.RowKit

theorem waits_all {ps : List Wai} (h20 : ps.length ≤ 20) (h : ∀ j (h : j < ps.length), waitB ps[j] = true) : waitsB ps = wsortB ps := by
  rw [Bool.eq_iff_iff]
  constructor
  · intro hw
    exact wsort_yes fun j hj _ => (waits_true hw).2.2 j hj hj
  · intro hs
    have hs' : WFrom ps 0 := by simpa [wsortB] using hs
    exact waits_yes h20 ⟨fun j hj _ => h j hj, fun j hj _ => hs' j hj (Nat.zero_le _)⟩

set_option maxHeartbeats 4000000 in
set_option maxRecDepth 100000 in
theorem iWaitsOk_any {w : World} {a : Option Addr} {ps : List Wai} (cap : Nat) (h : Recs Wai.cs w a ps) (hl : ps.length ≤ 9223372036854775807) (hs : WSized ps) :
    Calls Tryz.prog 47 #[.slice a ps.length cap] w fun e w' => e = .returned (.bool (waitsB ps)) ∧ Below w.heap.size w w' := by
  have H := Lib.hid h
  have HS := Lib.hid hs
  clear h hs
  by_cases h20 : ps.length ≤ 20
  case neg =>
    have HN := Lib.hid (waits_long h20)
    have hd : decide ((20 : Int) < (ps.length : Int)) = true := by simp; omega
    go_enter Tryz.func47, Tryz.ntmps47
    go_wp2
    go_ret
    exact ⟨by rw [HN.out]; rfl, Below.refl _ _⟩
  have hd : decide ((20 : Int) < (ps.length : Int)) = false := by simp; omega
  go_enter Tryz.func47, Tryz.ntmps47
  go_wp2
  go_loopw [10] (fun i w' => ∃ k : Nat, k ≤ ps.length ∧ i = .int .i64 k ∧ Below w.heap.size w w' ∧ ∀ j (h : j < ps.length), j < k → waitB ps[j] = true) (fun i _ => ps.length - (intOf i).toNat)
  case atStart => exact ⟨0, Nat.zero_le _, rfl, Below.refl _ _, fun _ _ h => by omega⟩
  case round =>
    obtain ⟨k, hk, rfl, hb, hu⟩ := hrel
    have HB := Lib.hid hb
    have HU := Lib.hid hu
    clear hb hu
    by_cases hlt : k < ps.length
    · obtain ⟨b, off, rfl, hlb, c0, c1, c2, c3⟩ := Wai.at (H.out.below HB.out) k hlt
      have hz1 := Lib.hid (HS.out k hlt).1
      have hz2 := Lib.hid (HS.out k hlt).2
      have HBN := Lib.hid (below_trans HB.out (below_new wr (.cells #[.string ps[k].who, .string ps[k].mill, .int .i64 ps[k].amount, .int .i64 ps[k].ripe] 46)))
      go_wp2_with fail
      refine (iWaitRight_any ps[k] _ hz1.out hz2.out).mono ?_
      rintro e w2 ⟨rfl, hb2⟩
      have HB2 := Lib.hid (below_trans HBN.out hb2)
      clear hb2 HBN
      cases hn : waitB ps[k]
      · have HN := Lib.hid (waits_not hlt hn)
        go_wp2
        go_ret
        exact ⟨by rw [HN.out]; rfl, HB2.out⟩
      · have HUN : Hid (∀ j (h : j < ps.length), j < k + 1 → waitB ps[j] = true) := by
          intro j h hj
          by_cases e : j = k
          · subst e; exact hn
          · exact HU.out j h (by omega)
        go_wp2
        go_roundw
        case rel => exact ⟨k + 1, by omega, by go_num, HB2.out, HUN.out⟩
        case measure => simp [intOf]; omega
    · obtain rfl : k = ps.length := by omega
      have HN := Lib.hid (waits_all h20 (fun j hj => HU.out j hj hj))
      go_wp2_with fail
      refine (iSorted_any _ (H.out.below HB.out) (by omega)).mono ?_
      rintro e w2 ⟨rfl, hb2⟩
      have HB2 := Lib.hid (below_trans HB.out hb2)
      clear hb2
      go_wp2
      go_ret
      exact ⟨by rw [HN.out]; rfl, HB2.out⟩

set_option maxHeartbeats 4000000 in
set_option maxRecDepth 100000 in
theorem iAmountIn_any {w : World} {a : Option Addr} {ps : List Wai} (cap : Nat) (h : Recs Wai.cs w a ps) (hl : ps.length ≤ 9223372036854775807) (hs : WSized ps) :
    Calls Tryz.prog 24 #[.slice a ps.length cap] w fun e w' => e = .returned (.int .i64 (amountInV ps)) ∧ Below w.heap.size w w' := by
  have H := Lib.hid h
  have HS := Lib.hid hs
  clear h hs
  go_enter Tryz.func24, Tryz.ntmps24
  go_wp2_with fail
  refine (iWaitsOk_any _ H.out hl HS.out).mono ?_
  rintro e w1 ⟨rfl, hb1⟩
  have HB1 := Lib.hid hb1
  clear hb1
  cases hf : waitsB ps
  · have HN := Lib.hid (show amountInV ps = -1 by simp [amountInV, hf])
    go_wp2
    go_ret
    exact ⟨by rw [HN.out]; rfl, HB1.out⟩
  · have HNN := Lib.hid (show amountInV ps = sumA ps ps.length by simp [amountInV, hf])
    obtain ⟨h20, hm⟩ := waits_true hf
    have HM := Lib.hid hm
    clear hm hf
    go_wp2_with fail
    go_loopw [3, 11] (fun t i w' => ∃ k : Nat, k ≤ ps.length ∧ i = .int .i64 k ∧ t = .int .i64 (sumA ps k) ∧ Below w.heap.size w w') (fun _ i _ => ps.length - (intOf i).toNat)
    case atStart => exact ⟨0, Nat.zero_le _, rfl, rfl, HB1.out⟩
    case round =>
      obtain ⟨k, hk, rfl, rfl, hb⟩ := hrel
      have HB := Lib.hid hb
      clear hb
      have hsb := sumA_bd HM.out k hk
      by_cases hlt : k < ps.length
      · obtain ⟨b, off, rfl, _, c0, c1, c2, c3⟩ := Wai.at (H.out.below HB.out) k hlt
        have HN := Lib.hid (show sumA ps (k + 1) = sumA ps k + ps[k].amount by simp only [sumA, watn_eq hlt])
        have hb3 := wait_bd (HM.out.1 k hlt hlt)
        have HBN := Lib.hid (below_trans HB.out (below_new wr (.cells #[.string ps[k].who, .string ps[k].mill, .int .i64 ps[k].amount, .int .i64 ps[k].ripe] 46)))
        go_wp2
        go_roundw
        case rel => exact ⟨k + 1, by omega, by go_num, by rw [HN.out], HBN.out⟩
        case measure => simp [intOf]; omega
      · obtain rfl : k = ps.length := by omega
        go_wp2
        go_ret
        exact ⟨by rw [HNN.out]; rfl, HB.out⟩

set_option maxHeartbeats 4000000 in
set_option maxRecDepth 100000 in
theorem iWaitsFor_any {w : World} {a : Option Addr} {ps : List Wai} (cap : Nat) (who : ByteArray) (h : Recs Wai.cs w a ps) (hl : ps.length ≤ 1048576) (hs : WSized ps) :
    Calls Tryz.prog 23 #[.slice a ps.length cap, .string who] w (ResW (waitsForV ps who) w) := by
  have H := Lib.hid h
  have HS := Lib.hid hs
  clear h hs
  obtain ⟨i0, hi, hz0, hz1, hz2⟩ := info_parts info_Wait
  have HI := Lib.hid hi
  have HZ0 := Lib.hid hz0
  have HZ1 := Lib.hid hz1
  have HZ2 := Lib.hid hz2
  clear hi hz0 hz1 hz2
  go_enter Tryz.func23, Tryz.ntmps23
  go_wp2_with fail
  refine (iWaitsOk_any _ H.out (by omega) HS.out).mono ?_
  rintro e w1 ⟨rfl, hb1⟩
  have HB1 := Lib.hid hb1
  clear hb1
  cases hf : waitsB ps
  · have HN := Lib.hid (show ResW (waitsForV ps who) w (.returned (.slice none 0 0)) w1 from by
      rw [show waitsForV ps who = [] by simp [waitsForV, hf]]
      exact ⟨none, 0, rfl, ⟨Lies.nil _ _, .inl rfl⟩, HB1.out⟩)
    go_wp2
    go_ret
    exact HN.out
  have hle1 : w.heap.size ≤ w1.heap.size := HB1.out.size
  have HR0 : Hid (ForRelW w ps who (.slice (some ⟨w1.heap.size, 0, none⟩) 0 0) (.int .i64 0) (w1.alloc (.cells #[] 46))) :=
    ⟨0, Nat.zero_le _, rfl, ⟨by simp [ofWhoW], .inr ⟨w1.heap.size, 0, #[], by simp [ofWhoW], hle1, heap_alloc_new _ _, by simp [ofWhoW], Nat.zero_le _, by simp, by simp [ofWhoW]⟩⟩, below_trans HB1.out (below_new _ _), .inl rfl⟩
  go_wp2_with fail
  go_loopw [5, 14] (fun v i wr => ForRelW w ps who v i wr) (fun _ i _ => ps.length - (intOf i).toNat)
  case atStart => exact HR0.out
  case round =>
    clear HR0
    obtain ⟨k, hk, rfl, hown, hb, hor⟩ := hrel
    have HW := Lib.hid hown
    have HB := Lib.hid hb
    clear hown hb hor
    by_cases hlt : k < ps.length
    · obtain ⟨b, off, rfl, hlb, c0, c1, c2, c3⟩ := Wai.at (H.out.below HB.out) k hlt
      have HOW1 := Lib.hid (HW.out.alloc (.cells #[.string ps[k].who, .string ps[k].mill, .int .i64 ps[k].amount, .int .i64 ps[k].ripe] 46))
      have HBN := Lib.hid (below_trans HB.out (below_new wr (.cells #[.string ps[k].who, .string ps[k].mill, .int .i64 ps[k].amount, .int .i64 ps[k].ripe] 46)))
      cases hq : (ps[k].who.toList == who.toList)
      · have HR : Hid (∀ v, wr.ownsRow w.heap.size 46 4 v (ofWhoW who (ps.take k)).length ((ofWhoW who (ps.take k)).flatMap Wai.cs) → ForRelW w ps who v (.int .i64 ((k : Int) + 1)) (wr.alloc (.cells #[.string ps[k].who, .string ps[k].mill, .int .i64 ps[k].amount, .int .i64 ps[k].ripe] 46))) :=
          fun v hv => ⟨k + 1, by omega, by go_num, by rw [ofWhoW_no hlt hq]; exact hv.alloc _, HBN.out, .inr hf⟩
        go_wp2
        go_roundw
        case rel => exact HR.out _ HW.out
        case measure => simp [intOf]; omega
      · have HLE := ofWhoW_le who (ps.take k)
        have hlk : (ps.take k).length = k := by simp; omega
        have HBL := Lib.hid (own_lo HW.out)
        have HYS := Lib.hid (ofWhoW_yes hlt hq)
        have HOW := Lib.hid (HOW1.out.alloc (.cells #[.string ps[k].who, .string ps[k].mill, .int .i64 ps[k].amount, .int .i64 ps[k].ripe] 46))
        have hle2 : w.heap.size ≤ wr.heap.size := HB.out.size
        rw [hlk] at HLE
        clear hlk
        have HN1 := Lib.hid (rec_new ps[k] (wr.alloc (.cells #[.string ps[k].who, .string ps[k].mill, .int .i64 ps[k].amount, .int .i64 ps[k].ripe] 46)))
        have HN2 := Lib.hid (show ∀ j u, ([ps[k]].flatMap Wai.cs)[j]? = some u → ((wr.alloc (.cells #[.string ps[k].who, .string ps[k].mill, .int .i64 ps[k].amount, .int .i64 ps[k].ripe] 46)).alloc (.cells #[.string ps[k].who, .string ps[k].mill, .int .i64 ps[k].amount, .int .i64 ps[k].ripe] 46)).cell? ((⟨wr.heap.size + 1, 0, none⟩ : Addr).add j) = some u by simpa using HN1.out)
        go_wp2_with (at_builtin; refine wpList_append_lies _ rfl _ _ 33 rfl w.heap.size 46 i0 (.agg #[.string ByteArray.empty, .string ByteArray.empty, .int .i64 0, .int .i64 0]) 4 48 Tryz.underlying33 HI.out HZ0.out HZ1.out HZ2.out rfl (by decide) _ _ _ rfl HOW.out ⟨wr.heap.size + 1, 0, none⟩ 1 1 ([ps[k]].flatMap Wai.cs) rfl ?c0 HN2.out (flat_one Wai.one _) (by decide) ?c3 ?c4 ?c5 _ rfl ?_)
        case c0 => rfl
        case c3 => unfold maxLen; omega
        case c4 => omega
        case c5 => simp; omega
        intro g6 c6 w6 hown6 hgrow hat hlt6
        have HR : Hid (ForRelW w ps who (.slice (some ⟨g6, 0, none⟩) ((ofWhoW who (ps.take k)).length + 1) c6) (.int .i64 ((k : Int) + 1)) w6) :=
          ⟨k + 1, by omega, by go_num, by rw [HYS.out, List.length_append, List.flatMap_append]; exact hown6, bgrown (below_trans HBN.out (below_new _ _)) (by simp; omega) hgrow HBL.out, .inr hf⟩
        clear hown6 hgrow hat hlt6
        go_wp2
        go_roundw
        case rel => first | exact HR.out | (have := HR.out; simpa using this)
        case measure => simp [intOf]; omega
    · obtain rfl : k = ps.length := by omega
      have HD : Hid (∀ v, wr.ownsRow w.heap.size 46 4 v (ofWhoW who (ps.take ps.length)).length ((ofWhoW who (ps.take ps.length)).flatMap Wai.cs) → ResW (waitsForV ps who) w (.returned v) wr) := by
        intro v hv
        rw [List.take_length] at hv
        rw [show waitsForV ps who = ofWhoW who ps by simp [waitsForV, hf]]
        obtain ⟨a', c', rfl, ho, -⟩ := ownR_of Wai.len hv
        exact ⟨a', c', rfl, ho, HB.out⟩
      go_wp2
      go_ret
      exact HD.out _ HW.out
end Go.Proofs.YtncandoohlndnaaGreat
namespace Go.Proofs.YtncandoohlndnaaGreat
open Go.ChangeShapes Go.WideShapes Go.ChangeAt Go.RowKit

/-- Number 2 of a record's cells is written over. -/
theorem set_amount {w : World} {B : Nat} {p : Wai} (h : RecAt Wai.cs w B p) (x : Int) : RecAt Wai.cs (w.setCell ⟨B, 2, none⟩ (.int .i64 x)) B ⟨p.who, p.mill, x, p.ripe⟩ := by
  intro j v hj
  match j, hj with
  | 0, hj => rw [World.cell?_setCell_other _ _ _ _ (by intro q; injection q with _ q; omega)]; exact h 0 v hj
  | 1, hj => rw [World.cell?_setCell_other _ _ _ _ (by intro q; injection q with _ q; omega)]; exact h 1 v hj
  | 2, hj => rw [World.cell?_setCell_same _ _ _ (h 2 _ rfl)]; exact hj
  | 3, hj => rw [World.cell?_setCell_other _ _ _ _ (by intro q; injection q with _ q; omega)]; exact h 3 v hj
  | j + 4, hj => simp [Wai.cs] at hj

end Go.Proofs.YtncandoohlndnaaGreat
namespace Go.Proofs.YtncandoohlndnaaGreat
open Go.ChangeShapes Go.WideShapes Go.ChangeAt Go.RowKit

section
variable {P : Program} {ops : Array Oper} {md : Region.Mode} {C : World → Prop} {n : Nat}

/-- f operations of the head are still to come, whichever order is drawn; then L. -/
def ToTail (P : Program) (md : Region.Mode) (ops : Array Oper) (C : World → Prop) (n : Nat) (L : Array Bool → Act → Prop) : Nat → Array Bool → Act → Prop
  | 0, done, a => L done a
  | f + 1, done, a => Region.ready md ops done ≠ [] ∧ ∀ i ∈ Region.ready md ops done, i < n ∧ qOp P ops C i (ToTail P md ops C n L f (done.setIfInBounds i true)) a

theorem any_of_tail {g : Nat} {L : Array Bool → Act → Prop} {Q : Exit → Act → World → Prop} (hL : ∀ done a w, C w → L done a → wpAny P md ops Q g done a w) (f : Nat) :
    ∀ (done : Array Bool) (a : Act) (w : World), C w → ToTail P md ops C n L f done a → wpAny P md ops Q (f + g) done a w := by
  induction f with
  | zero => intro done a w hw h; rw [Nat.zero_add]; exact hL _ _ _ hw h
  | succ f ih =>
    intro done a w hw h
    rw [Nat.add_right_comm]
    exact ⟨fun h0 => absurd h0 h.1, fun i hi => wpOp_of_qOp hw (fun a' w' hw' h' => ih _ a' w' hw' h') (h.2 i hi).2⟩

/-- One that may come up now may be taken first. -/
theorem tail_first {i : Nat} {oi : Oper} {v : Value} {L : Array Bool → Act → Prop} (hi : ops[i]? = some oi) (hsel : ∀ (j : Nat) (o : Oper) cs b, ops[j]? = some o → o.op ≠ .select cs b)
    (hs : Region.sinkB md ops n = true) (hc : Region.chainB md ops n = true) (hn : n < ops.size) (hin : i < n) (hdone : ∀ done a, L done a → ∀ j ∈ Region.ready md ops done, n ≤ j) (f : Nat) :
    ∀ (done : Array Bool) (a : Act), HeadInv md ops n done →
      (∀ j oj, ops[j]? = some oj → j ≠ i → done.getD j true = false → (∀ e ∈ oj.after, Region.binds md e = true → e.on ≠ i) → oi.apart ops oj = true) →
      i ∈ Region.ready md ops done → YieldsIn P ops C oi v a → ToTail P md ops C n L f (done.setIfInBounds i true) (a.put oi.dst v) → ToTail P md ops C n L (f + 1) done a := by
  induction f with
  | zero =>
    intro done a inv _ hr hy H
    refine ⟨List.ne_nil_of_mem hr, fun j hj => ?_⟩
    have hjn : j < n := Nat.lt_of_not_le fun h => tail_waits hs hc hn inv _ i rfl hin (mem_ready.1 hr).1 j h hj
    refine ⟨hjn, ?_⟩
    rcases Nat.decEq j i with hji | rfl
    · have := hdone _ _ H j (ready_mono hj hji)
      omega
    · exact hy.qOp hi H
  | succ f ih =>
    intro done a inv hfree hr hy H
    refine ⟨List.ne_nil_of_mem hr, fun j hj => ?_⟩
    have hun := (mem_ready.1 hr).1
    have hjn : j < n := Nat.lt_of_not_le fun h => tail_waits hs hc hn inv _ i rfl hin hun j h hj
    refine ⟨hjn, ?_⟩
    rcases Nat.decEq j i with hji | rfl
    · obtain ⟨hjun, oj, hoj, hall⟩ := mem_ready.1 hj
      have hnot : ∀ e ∈ oj.after, Region.binds md e = true → e.on ≠ i := by
        intro e he hb heq
        have := hall e he hb
        rw [heq, getD_both hun] at this
        cases this
      refine qOp_mono (fun a' h3 => ih _ a' (inv.set hj hjn) ?_ (ready_mono hr (Ne.symm hji)) h3.1 ?_) (qOp_put hoj (hfree j oj hoj hji hjun hnot) (fun cs b => hsel i oi cs b hi) (fun cs b => hsel j oj cs b hoj) hy (H.2 j (ready_mono hj hji)).2)
      · intro k ok hk hki hku hno
        refine hfree k ok hk hki ?_ hno
        rcases Nat.decEq j k with hjk | rfl
        · rwa [getD_set_ne true hjk] at hku
        · exact hjun
      · rw [Array.setIfInBounds_comm _ _ hji]; exact h3.2
    · exact hy.qOp hi H

theorem tail_lex {g : Nat} {Lq : Act → Prop} (hsel : Region.noSelect ops = true) (hs : Region.sinkB md ops n = true) (hc : Region.chainB md ops n = true) (hn : n < ops.size) :
    ∀ (l : List Oper) (k : Nat) (done : Array Bool) (a : Act), (∀ j, j < l.length → l[j]? = ops[k + j]?) → k + l.length = n → HeadInv md ops n done →
    Region.lexHead md ops g l.length k done = true → wpQuiet P ops C Lq l a → ToTail P md ops C n (fun done' a' => Region.seqB md ops g n done' = true ∧ Lq a') l.length done a := by
  intro l
  induction l with
  | nil =>
    intro k done a _ hk _ hB h
    have hkn : k = n := by simpa using hk
    exact ⟨by rw [← hkn]; simpa [Region.lexHead] using hB, h⟩
  | cons o l ih =>
    intro k done a hl hk inv hB h
    have h0 : ops[k]? = some o := (hl 0 (Nat.succ_pos _)).symm
    simp only [List.length_cons, Region.lexHead, Bool.and_eq_true] at hB
    have hkn : k < n := by rw [List.length_cons] at hk; omega
    have hr : k ∈ Region.ready md ops done := by simpa using hB.1.1
    obtain ⟨v, hy, hK⟩ := yieldsIn_of_qOp (P := P) (C := C) (K := wpQuiet P ops C Lq l) h0 (by unfold qOp; simp only [h0]; exact h)
    refine tail_first h0 (Region.noSelect_spec hsel) hs hc hn hkn (fun done' a' hL => seqB_ready hL.1) _ done a inv (Region.free_spec h0 hB.1.2) hr hy (ih (k + 1) _ _ ?_ ?_ (inv.set hr hkn) hB.2 hK)
    · intro j hj
      have := hl (j + 1) (by rw [List.length_cons]; omega)
      rw [show k + 1 + j = k + (j + 1) by omega, ← this]; rfl
    · rw [List.length_cons] at hk; omega
end

/-- The region's law. -/
theorem wp_region_grow_tail {P : Program} {id : Nat} {Q : Exit → Act → World → Prop} {a : Act} {w : World} {l : List Oper} (n : Nat) (hm : P.follows .mixedOrders = true) (hB : Region.lexTailB .any l.toArray n = true)
    (h : wpQuiet P l.toArray (fun w' => ∃ g : Grow w, w' = g.to) (fun a' => ∀ g : Grow w, wpList P l.toArray Q (l.drop n) a' g.to) (l.take n) a) : (Code.region id l.toArray true).wp P Q a w := by
  simp only [Region.lexTailB, Bool.and_eq_true, decide_eq_true_eq] at hB
  obtain ⟨⟨⟨⟨hsel, hn⟩, hs⟩, hc⟩, hlex⟩ := hB
  have hn' : n < l.length := by simpa using hn
  have htl : (l.take n).length = n := by simp; omega
  have hdl : (l.drop n).length = l.toArray.size - n := by simp
  have inv0 : HeadInv .any l.toArray n (Array.replicate l.toArray.size false) :=
    ⟨by simp, fun j oj _ hl => (by rw [getD_replicate_false] at hl; cases hl), fun t _ ht => getD_in (by simpa using ht) (getD_replicate_false _ _)⟩
  have H := tail_lex (md := .any) (C := fun w' => ∃ g : Grow w, w' = g.to) (g := l.toArray.size - n) hsel hs hc hn (l.take n) 0 _ a (fun j hj => by
    have hj' : j < n := by rw [htl] at hj; exact hj
    simp [hj']) (by simpa using htl) inv0 (by rw [htl]; exact hlex) h
  refine wp_region_any hm ?_
  have := any_of_tail (Q := Q) (g := l.toArray.size - n) (fun done a' w' hw hL => by
    obtain ⟨gr, rfl⟩ := hw
    have := wpAny_of_seq (md := .any) (Q' := Q) (l.drop n) n done a' gr.to (fun j => by simp [List.getElem?_drop]) (by rw [hdl]; exact hL.1) (hL.2 gr)
    rwa [hdl] at this) _ _ _ { w with drawn := w.drawn + 1 } ⟨⟨{ w with drawn := w.drawn + 1 }, below_draws (Below.refl _ _) 1⟩, rfl⟩ H
  rw [htl, show n + (l.toArray.size - n) = l.toArray.size by omega] at this
  exact this
end Go.Proofs.YtncandoohlndnaaGreat
namespace Go.Proofs.YtncandoohlndnaaGreat
open Go.ChangeShapes Go.WideShapes Go.ChangeAt Go.RowKit

theorem m_Len {w : World} {q : Nat} {v : Value} (h : w.cell? ⟨q, 0, none⟩ = some v) : (method 301 88 (.pointer (some ⟨q, 0, none⟩)) "Len").run Tryz.prog w = .ok (75, v) w := by
  have e : (method 301 88 (.pointer (some ⟨q, 0, none⟩)) "Len").run Tryz.prog w = ((do let x ← load ⟨q, 0, none⟩; pure (75, x)) : Sem (FuncId × Value)).run Tryz.prog w := by kernel_rfl
  rw [e]
  go_simp

theorem m_Less {w : World} {q : Nat} {v : Value} (h : w.cell? ⟨q, 0, none⟩ = some v) : (method 301 88 (.pointer (some ⟨q, 0, none⟩)) "Less").run Tryz.prog w = .ok (159, v) w := by
  have e : (method 301 88 (.pointer (some ⟨q, 0, none⟩)) "Less").run Tryz.prog w = ((do let x ← load ⟨q, 0, none⟩; pure (159, x)) : Sem (FuncId × Value)).run Tryz.prog w := by kernel_rfl
  rw [e]
  go_simp

theorem m_Swap {w : World} {q : Nat} {v : Value} (h : w.cell? ⟨q, 0, none⟩ = some v) : (method 301 88 (.pointer (some ⟨q, 0, none⟩)) "Swap").run Tryz.prog w = .ok (162, v) w := by
  have e : (method 301 88 (.pointer (some ⟨q, 0, none⟩)) "Swap").run Tryz.prog w = ((do let x ← load ⟨q, 0, none⟩; pure (162, x)) : Sem (FuncId × Value)).run Tryz.prog w := by kernel_rfl
  rw [e]
  go_simp

theorem m_Push {w : World} {q : Nat} : (method 301 88 (.pointer (some ⟨q, 0, none⟩)) "Push").run Tryz.prog w = .ok (161, .pointer (some ⟨q, 0, none⟩)) w := by kernel_rfl

theorem m_Pop {w : World} {q : Nat} : (method 301 88 (.pointer (some ⟨q, 0, none⟩)) "Pop").run Tryz.prog w = .ok (160, .pointer (some ⟨q, 0, none⟩)) w := by kernel_rfl

theorem Tur.at {w : World} {g : Nat} {ts : List Tur} (h : Recs Tur.cs w (some ⟨g, 0, none⟩) ts) (k : Nat) (hk : k < ts.length) :
    g < w.heap.size ∧ w.cell? ⟨g, k * 5, none⟩ = some (.string ts[k].w.who) ∧ w.cell? ⟨g, k * 5 + 1, none⟩ = some (.string ts[k].w.mill) ∧ w.cell? ⟨g, k * 5 + 2, none⟩ = some (.int .i64 ts[k].w.amount) ∧ w.cell? ⟨g, k * 5 + 3, none⟩ = some (.int .i64 ts[k].w.ripe) ∧ w.cell? ⟨g, k * 5 + 4, none⟩ = some (.int .i64 ts[k].came) := by
  obtain ⟨b, off, e, hb, hc⟩ := h.cell Tur.len (by omega) k hk
  injection e with e; injection e with e1 e2; subst e1; subst e2
  have h0 := hc 0 _ rfl
  have h1 := hc 1 _ rfl
  have h2 := hc 2 _ rfl
  have h3 := hc 3 _ rfl
  have h4 := hc 4 _ rfl
  simp only [Nat.zero_add, Nat.add_zero] at h0 h1 h2 h3 h4
  exact ⟨hb, h0, h1, h2, h3, h4⟩

set_option maxHeartbeats 1000000 in
set_option maxRecDepth 100000 in
theorem qLen_any (a : Option Addr) (n cap : Nat) (w : World) : Calls Tryz.prog 75 #[.slice a n cap] w fun e w' => e = .returned (.int .i64 (n : Int)) ∧ w = w' := by
  go_enter Tryz.func75, Tryz.ntmps75
  go_wp2
  go_ret
  exact ⟨rfl, rfl⟩

theorem less_is {a b : Tur} (ha : 0 ≤ a.came ∧ a.came < 100) (hb : 0 ≤ b.came ∧ b.came < 100) : decide (orN (cmpN a.w.ripe b.w.ripe) (cmpN a.came b.came) < 0) = decide (a.key < b.key) := by
  unfold orN cmpN; exact less_key ha hb

set_option maxHeartbeats 8000000 in
set_option maxRecDepth 100000 in
theorem qLess_any {w : World} {g i j : Nat} {ts : List Tur} (cap : Nat) (h : Recs Tur.cs w (some ⟨g, 0, none⟩) ts) (hi : i < ts.length) (hj : j < ts.length) (hf : Fine ts) :
    Calls Tryz.prog 159 #[.slice (some ⟨g, 0, none⟩) ts.length cap, .int .i64 i, .int .i64 j] w fun e w' => e = .returned (.bool (decide (kat ts i < kat ts j))) ∧ Below w.heap.size w w' := by
  obtain ⟨hg, c0, c1, c2, c3, c4⟩ := Tur.at h i hi
  obtain ⟨-, d0, d1, d2, d3, d4⟩ := Tur.at h j hj
  have HN := Lib.hid (show decide (kat ts i < kat ts j) = decide (orN (cmpN ts[i].w.ripe ts[j].w.ripe) (cmpN ts[i].came ts[j].came) < 0) by rw [less_is (hf.at hi) (hf.at hj)]; unfold kat; rw [tatn_eq hi, tatn_eq hj])
  have e0 := Grow.cell c0
  have e1 := Grow.cell c1
  have e2 := Grow.cell c2
  have e3 := Grow.cell c3
  have e4 := Grow.cell c4
  have f0 := Grow.cell d0
  have f1 := Grow.cell d1
  have f2 := Grow.cell d2
  have f3 := Grow.cell d3
  have f4 := Grow.cell d4
  obtain ⟨x, HX⟩ : ∃ x, Hid (cmpN ts[i].w.ripe ts[j].w.ripe = x) := ⟨_, Lib.hid rfl⟩
  obtain ⟨y, HY⟩ : ∃ y, Hid (cmpN ts[i].came ts[j].came = y) := ⟨_, Lib.hid rfl⟩
  rw [HX.out, HY.out] at HN
  clear h hf
  go_enter Tryz.func159, Tryz.ntmps159
  go_wp2_with fail
  refine wp_region_grow_tail 22 (by kernel_rfl) (by kernel_rfl) ?_
  simp only [List.take_succ_cons, List.take_zero, List.drop_succ_cons, List.drop_zero]
  repeat (go_big_quiet_step (first | (go_at_call 79; exact grow_call (int_is HX.out) (iByRipe_any ts[i].w ts[j].w _)) | (go_at_call 163; exact grow_same (int_is HY.out) (iCmpI_any _ _ _))))
  refine wpQuiet_nil ?_
  intro gq
  have HB := Lib.hid gq.ok
  go_wp2_with (go_at_call 118; refine (iOrN_any x y (by go_simp) (by go_simp)).mono ?_; rintro e w' ⟨rfl, rfl⟩)
  go_ret
  exact ⟨by rw [HN.out]; rfl, below_trans HB.out (below_new _ _)⟩
end Go.Proofs.YtncandoohlndnaaGreat
namespace Go.Proofs.YtncandoohlndnaaGreat
open Go.ChangeShapes Go.WideShapes Go.ChangeAt Go.RowKit

/-- A queue: block q holds where the row is, block g the row; both are the call's own, from block B on. -/
structure Que (w : World) (B q g : Nat) (ts : List Tur) (cap : Nat) : Prop where
  ref : w.cell? ⟨q, 0, none⟩ = some (.slice (some ⟨g, 0, none⟩) ts.length cap)
  free : w.frozen? ⟨q, 0, none⟩ = false
  row : w.ownsRow B 117 5 (.slice (some ⟨g, 0, none⟩) ts.length cap) ts.length (ts.flatMap Tur.cs)
  lo : B ≤ q
  hi : q < w.heap.size
  ne : q ≠ g

/-- Nothing has turned but what lies in these two blocks. -/
structure But (q g : Nat) (w w' : World) : Prop where
  os : w'.os = w.os
  tape : w'.tape = w.tape
  output : w'.output = w.output
  size : w.heap.size ≤ w'.heap.size
  block : ∀ k, k < w.heap.size → k ≠ q → k ≠ g → w'.heap[k]? = w.heap[k]?
theorem But.refl (q g : Nat) (w : World) : But q g w w := ⟨rfl, rfl, rfl, Nat.le_refl _, fun _ _ _ _ => rfl⟩
theorem But.trans {q g : Nat} {a b c : World} (h : But q g a b) (k : But q g b c) : But q g a c :=
  ⟨k.os.trans h.os, k.tape.trans h.tape, k.output.trans h.output, Nat.le_trans h.size k.size, fun i hi h1 h2 => (k.block i (Nat.lt_of_lt_of_le hi h.size) h1 h2).trans (h.block i hi h1 h2)⟩
theorem But.of {q g : Nat} {w w' : World} (h : Below w.heap.size w w') : But q g w w' := ⟨h.os, h.tape, h.output, h.size, fun i hi _ _ => h.block i hi⟩
theorem But.row {q g : Nat} {w w' : World} (h : w.grownBy w' (some g)) : But q g w w' := ⟨h.os, h.tape, h.output, h.size, fun i hi _ h2 => h.block i hi (by intro e; injection e with e; exact h2 e)⟩
theorem But.below {q g B : Nat} {w w' : World} (h : But q g w w') (hB : B ≤ w.heap.size) (hq : B ≤ q) (hg : B ≤ g) : Below B w w' :=
  ⟨h.os, h.tape, h.output, h.size, fun i hi => h.block i (by omega) (by omega) (by omega)⟩
theorem But.own {q g : Nat} {w w' : World} {base : Nat} {e : TypeId} {c : Nat} {v : Value} {n : Nat} {xs : List Value} (h : But q g w w') (ho : w.ownsRow base e c v n xs) (hq : ∀ b, v.ownBlock = some b → b ≠ q ∧ b ≠ g) : w'.ownsRow base e c v n xs := by
  refine ⟨ho.1, ?_⟩
  rcases ho.2 with h0 | ⟨b, cap, cur, hv, hb, hh, hr⟩
  · exact .inl h0
  · have := hq b (by rw [hv]; rfl)
    exact .inr ⟨b, cap, cur, hv, hb, by rw [h.block b (Array.getElem?_eq_some_iff.1 hh).1 this.1 this.2]; exact hh, hr⟩
theorem But.ownR {α : Type} {f : α → List Value} {c q g B : Nat} {w w' : World} {a : Option Addr} {xs : List α} (h : But q g w w') (ho : OwnR f c w B a xs) (hq : q < B) (hg : g < B) : OwnR f c w' B a xs := by
  rcases ho.2 with rfl | ⟨b, rfl, h1, h2, hm⟩
  · exact ⟨Lies.nil _ _, .inl rfl⟩
  · have hk := h.block b h2 (by omega) (by omega)
    have hc : ∀ o, w'.cell? ⟨b, o, none⟩ = w.cell? ⟨b, o, none⟩ := fun o => World.cell?_of_block hk
    have hz : ∀ o, w'.frozen? ⟨b, o, none⟩ = w.frozen? ⟨b, o, none⟩ := fun o => World.frozen?_of_block hk
    refine ⟨?_, .inr ⟨b, rfl, h1, Nat.lt_of_lt_of_le h2 h.size, ⟨fun j hj => ?_, fun o => ?_⟩⟩⟩
    · intro k v hk
      obtain ⟨b', off, e, hcc⟩ := ho.1 k v hk
      injection e with e; injection e with e1 e2; subst e1; subst e2
      exact ⟨b, 0, rfl, by rw [hc]; exact hcc⟩
    · obtain ⟨v, hv⟩ := hm.all j hj
      exact ⟨v, by rw [hc]; exact hv⟩
    · rw [hz]; exact hm.free o

section
variable {w w' : World} {B q g cap : Nat} {ts : List Tur}
theorem Que.recs (h : Que w B q g ts cap) : Recs Tur.cs w (some ⟨g, 0, none⟩) ts := by
  obtain ⟨a, c', e, hr, -⟩ := ownR_of Tur.len h.row
  injection e with e1
  subst e1
  exact hr.1
theorem Que.below (h : Que w B q g ts cap) (hb : Below w.heap.size w w') : Que w' B q g ts cap :=
  ⟨(hb.cell (p := ⟨q, 0, none⟩) h.hi).trans h.ref, (hb.frozen (p := ⟨q, 0, none⟩) h.hi).trans h.free, own_below h.row hb, h.lo, Nat.lt_of_lt_of_le h.hi hb.size, h.ne⟩
theorem Que.glo (h : Que w B q g ts cap) : B ≤ g ∧ g < w.heap.size := ⟨(own_some h.row).2.2.2.1, (own_some h.row).2.2.2.2⟩
theorem Que.open (h : Que w B q g ts cap) : ∀ o, w.frozen? ⟨g, o, none⟩ = false := by
  rcases h.row.2 with ⟨h0, -⟩ | ⟨g', cap', cur, hv, hg, hh, -⟩
  · simp at h0
  · injection hv with e1
    injection e1 with e1
    injection e1 with e1
    subst e1
    intro o; simp [World.frozen?, hh]
/-- The row is written over, where it is. -/
theorem Que.turned {us : List Tur} (h : Que w B q g ts cap) (hg : w.grownBy w' (some g)) (hl : us.length = ts.length) (ho : w'.ownsRow B 117 5 (.slice (some ⟨g, 0, none⟩) ts.length cap) ts.length (us.flatMap Tur.cs)) : Que w' B q g us cap := by
  have hb := hg.block q h.hi (by intro e; injection e with e; exact h.ne e)
  exact ⟨by rw [World.cell?_of_block hb, hl]; exact h.ref, by rw [World.frozen?_of_block hb]; exact h.free, by rw [hl]; exact ho, h.lo, Nat.lt_of_lt_of_le h.hi hg.size, h.ne⟩
end

/-- Five cells of a row are written: one of its records is another one. -/
theorem flat_set5 (t : Tur) : ∀ (ts : List Tur) (i : Nat), i < ts.length → (((((ts.flatMap Tur.cs).set (i * 5) (.string t.w.who)).set (i * 5 + 1) (.string t.w.mill)).set (i * 5 + 2) (.int .i64 t.w.amount)).set (i * 5 + 3) (.int .i64 t.w.ripe)).set (i * 5 + 4) (.int .i64 t.came) = (ts.set i t).flatMap Tur.cs
  | x :: r, 0, _ => by simp [Tur.cs]
  | x :: r, i + 1, h => by
    have ih := flat_set5 t r i (by simpa using h)
    have key : ∀ (l : List Value) (m : Nat) (v : Value), (x.cs ++ l).set (m + 5) v = x.cs ++ l.set m v := by
      intro l m v
      rw [List.set_append_right _ _ (by rw [Tur.len]; omega), Tur.len, show m + 5 - 5 = m by omega]
    rw [List.flatMap_cons, List.set_cons_succ, List.flatMap_cons, ← ih]
    rw [show (i + 1) * 5 = i * 5 + 5 by omega, show i * 5 + 5 + 1 = i * 5 + 1 + 5 by omega, show i * 5 + 5 + 2 = i * 5 + 2 + 5 by omega, show i * 5 + 5 + 3 = i * 5 + 3 + 5 by omega, show i * 5 + 5 + 4 = i * 5 + 4 + 5 by omega]
    rw [key, key, key, key, key]
/-- The world behind a record that was written into a row. -/
def put5 (w : World) (g i : Nat) (t : Tur) : World := ((((w.setCell ⟨g, i * 5, none⟩ (.string t.w.who)).setCell ⟨g, i * 5 + 1, none⟩ (.string t.w.mill)).setCell ⟨g, i * 5 + 2, none⟩ (.int .i64 t.w.amount)).setCell ⟨g, i * 5 + 3, none⟩ (.int .i64 t.w.ripe)).setCell ⟨g, i * 5 + 4, none⟩ (.int .i64 t.came)
theorem put5_own {w : World} {B g cap i : Nat} {ts : List Tur} (t : Tur) (h : w.ownsRow B 117 5 (.slice (some ⟨g, 0, none⟩) ts.length cap) ts.length (ts.flatMap Tur.cs)) (hi : i < ts.length) :
    (put5 w g i t).ownsRow B 117 5 (.slice (some ⟨g, 0, none⟩) ts.length cap) ts.length ((ts.set i t).flatMap Tur.cs) := by
  rw [← flat_set5 t ts i hi]
  exact own_set (own_set (own_set (own_set (own_set h _) _) _) _) _
theorem put5_grown (w : World) (g i : Nat) (t : Tur) : w.grownBy (put5 w g i t) (some g) := gset (gset (gset (gset (gset (gid w _) _) _) _) _) _
theorem put5_is (w : World) (g i : Nat) (t : Tur) : w.setCells g (i * 5) t.cs = put5 w g i t := rfl
theorem own_there {w : World} {B g cap i : Nat} {ts : List Tur} (h : w.ownsRow B 117 5 (.slice (some ⟨g, 0, none⟩) ts.length cap) ts.length (ts.flatMap Tur.cs)) (hi : i < ts.length) : w.there g (i * 5) 5 := by
  rcases h.2 with ⟨h0, -⟩ | ⟨g', cap', cur, hv, hg, hh, hle, hm, hs, ht⟩
  · simp at h0
  · injection hv with e1 _ e3
    injection e1 with e1
    injection e1 with e1
    subst e1; subst e3
    intro j hj
    have hlt : i * 5 + j < cur.size := by omega
    exact ⟨by simp [World.cell?, hh, hlt], by simp [World.frozen?, hh]⟩
theorem size_turn : (Tryz.prog.info? 117).map (·.size) = some 5 := by kernel_rfl

theorem put5_keeps {w w1 : World} {g : Nat} (h : w.grownBy w1 (some g)) (i : Nat) (t : Tur) : w.grownBy (put5 w1 g i t) (some g) := gset (gset (gset (gset (gset h _) _) _) _) _

set_option maxHeartbeats 2000000 in
set_option maxRecDepth 100000 in
theorem qSwap_any {w : World} {B q g i j cap : Nat} {ts : List Tur} (h : Que w B q g ts cap) (hi : i < ts.length) (hj : j < ts.length) :
    Calls Tryz.prog 162 #[.slice (some ⟨g, 0, none⟩) ts.length cap, .int .i64 i, .int .i64 j] w fun e w' => e = .returned (.tuple #[]) ∧ Que w' B q g (swapT ts i j) cap ∧ w.grownBy w' (some g) := by
  obtain ⟨hg, c0, c1, c2, c3, c4⟩ := Tur.at h.recs i hi
  obtain ⟨-, d0, d1, d2, d3, d4⟩ := Tur.at h.recs j hj
  have HR : Hid (Que (put5 (put5 w g i ts[j]) g j ts[i]).drew B q g (swapT ts i j) cap ∧ w.grownBy (put5 (put5 w g i ts[j]) g j ts[i]).drew (some g)) := by
    have ho1 := put5_own ts[j] h.row hi
    have ho2 := put5_own (ts := ts.set i ts[j]) (i := j) (cap := cap) ts[i] (by simpa using ho1) (by simpa using hj)
    have hgr := put5_keeps (put5_keeps (gid w (some g)) i ts[j]) j ts[i]
    refine ⟨(h.turned hgr (swapT_len ts i j) ?_).below (below_draws (Below.refl _ _) 1), gbelow hgr (below_draws (Below.refl _ _) 1)⟩
    unfold swapT
    rw [tatn_eq hi, tatn_eq hj]
    simpa using ho2
  have hz : ∀ o, w.frozen? ⟨g, o, none⟩ = false := h.open
  clear h
  obtain ⟨oi, hoi⟩ : ∃ o, i * 5 = o := ⟨_, rfl⟩
  obtain ⟨oj, hoj⟩ : ∃ o, j * 5 = o := ⟨_, rfl⟩
  rw [hoi] at c0 c1 c2 c3 c4
  rw [hoj] at d0 d1 d2 d3 d4
  rcases Nat.lt_trichotomy i j with hij | hij | hij
  · have hoij : oi + 5 ≤ oj := by omega
    go_enter Tryz.func162, Tryz.ntmps162
    go_wp2_with fail
    go_region
    subst hoi; subst hoj
    exact bodyPost_end (v := .tuple #[]) (by simp [results, Tryz.results162, go_sem]) rfl ⟨rfl, HR.out⟩
  · subst hij
    subst hoj
    clear d0 d1 d2 d3 d4
    go_enter Tryz.func162, Tryz.ntmps162
    go_wp2_with fail
    go_region
    subst hoi
    exact bodyPost_end (v := .tuple #[]) (by simp [results, Tryz.results162, go_sem]) rfl ⟨rfl, HR.out⟩
  · have hoij : oj + 5 ≤ oi := by omega
    go_enter Tryz.func162, Tryz.ntmps162
    go_wp2_with fail
    go_region
    subst hoi; subst hoj
    exact bodyPost_end (v := .tuple #[]) (by simp [results, Tryz.results162, go_sem]) rfl ⟨rfl, HR.out⟩
end Go.Proofs.YtncandoohlndnaaGreat
namespace Go.Proofs.YtncandoohlndnaaGreat
open Go.ChangeShapes Go.WideShapes Go.ChangeAt Go.RowKit

theorem info_turn : (Tryz.prog.info? 117).map (fun i => (i.zero, i.size, i.bytes)) = some (some (.agg #[.string ByteArray.empty, .string ByteArray.empty, .int .i64 0, .int .i64 0, .int .i64 0]), 5, 56) := by kernel_rfl

/-- A turn as a value. -/
def Tur.val (t : Tur) : Value := .agg #[.string t.w.who, .string t.w.mill, .int .i64 t.w.amount, .int .i64 t.w.ripe, .int .i64 t.came]

theorem assert_turn (t : Tur) (w : World) : (Instr.typeAssert (.iface 117 (.agg #[.string t.w.who, .string t.w.mill, .int .i64 t.w.amount, .int .i64 t.w.ripe, .int .i64 t.came])) 20 117 false).run Tryz.prog w = .ok (.agg #[.string t.w.who, .string t.w.mill, .int .i64 t.w.amount, .int .i64 t.w.ripe, .int .i64 t.came]) w := by kernel_rfl

theorem field_turn (t : Tur) (w : World) : (Instr.field 117 (.agg #[.string t.w.who, .string t.w.mill, .int .i64 t.w.amount, .int .i64 t.w.ripe, .int .i64 t.came]) 0).run Tryz.prog w = .ok (.agg #[.string t.w.who, .string t.w.mill, .int .i64 t.w.amount, .int .i64 t.w.ripe]) w := by kernel_rfl

section
variable {w w' : World} {B q g cap : Nat} {ts : List Tur}
/-- Where the row is, is written over. -/
theorem Que.refSet {g' cap' : Nat} {us : List Tur} (hc : ∃ v, w.cell? ⟨q, 0, none⟩ = some v) (hf : w.frozen? ⟨q, 0, none⟩ = false) (ho : w.ownsRow B 117 5 (.slice (some ⟨g', 0, none⟩) us.length cap') us.length (us.flatMap Tur.cs)) (hlo : B ≤ q) (hhi : q < w.heap.size) (hne : q ≠ g') :
    Que (w.setCell ⟨q, 0, none⟩ (.slice (some ⟨g', 0, none⟩) us.length cap')) B q g' us cap' := by
  obtain ⟨v, hv⟩ := hc
  refine ⟨World.cell?_setCell_same _ _ _ hv, by go_simp, ?_, hlo, by simpa [World.setCell] using hhi, hne⟩
  exact ho.kept (gset (gid w (some q)) (o := 0) _) (.inr (by intro e; injection e with e; exact hne e.symm))
theorem But.setRef (q g : Nat) (w : World) (v : Value) : But q g w (w.setCell ⟨q, 0, none⟩ v) := by
  have h := gset (gid w (some q)) (o := 0) v
  exact ⟨h.os, h.tape, h.output, h.size, fun i hi h1 _ => h.block i hi (by intro e; injection e with e; exact h1 e)⟩
/-- The row's first n alone. -/
theorem own_take {n : Nat} (h : w.ownsRow B 117 5 (.slice (some ⟨g, 0, none⟩) ts.length cap) ts.length (ts.flatMap Tur.cs)) (hn : n ≤ ts.length) : w.ownsRow B 117 5 (.slice (some ⟨g, 0, none⟩) (ts.take n).length cap) (ts.take n).length ((ts.take n).flatMap Tur.cs) := by
  have e : (ts.take n).length = n := by simp; omega
  refine ⟨flat_length Tur.len _, ?_⟩
  rcases h.2 with ⟨h0, -⟩ | ⟨g', cap', cur, hv, hg, hh, hle, hm, hs, ht⟩
  · simp at h0
  · injection hv with e1 _ e3
    injection e1 with e1
    injection e1 with e1
    subst e1; subst e3
    refine .inr ⟨g, cap, cur, rfl, hg, hh, by omega, hm, hs, ?_⟩
    rw [e, flat_take Tur.len, ← ht, List.take_take, Nat.min_eq_left (by omega)]
end

set_option maxHeartbeats 4000000 in
set_option maxRecDepth 100000 in
theorem qPop_any {w : World} {B q g n cap : Nat} {ts : List Tur} (h : Que w B q g ts cap) (hn : ts.length = n + 1) (hl : n ≤ 100) :
    Calls Tryz.prog 160 #[.pointer (some ⟨q, 0, none⟩)] w fun e w' => e = .returned (.iface 117 (tatn ts n).val) ∧ Que w' B q g (ts.take n) cap ∧ But q g w w' := by
  have hlt : n < ts.length := by omega
  obtain ⟨hg, c0, c1, c2, c3, c4⟩ := Tur.at h.recs n hlt
  have hr := h.ref
  have hf := h.free
  have hq := h.hi
  have hne := h.ne
  have hcap := (own_some h.row).2.1
  have HT := Lib.hid (tatn_eq hlt)
  have HR : Hid (Que ((w.setCell ⟨q, 0, none⟩ (.slice (some ⟨g, 0, none⟩) n cap)).alloc (.cells #[.string ts[n].w.who, .string ts[n].w.mill, .int .i64 ts[n].w.amount, .int .i64 ts[n].w.ripe, .int .i64 ts[n].came] 117)) B q g (ts.take n) cap ∧ But q g w ((w.setCell ⟨q, 0, none⟩ (.slice (some ⟨g, 0, none⟩) n cap)).alloc (.cells #[.string ts[n].w.who, .string ts[n].w.mill, .int .i64 ts[n].w.amount, .int .i64 ts[n].w.ripe, .int .i64 ts[n].came] 117))) := by
    have e : (ts.take n).length = n := by simp; omega
    have := Que.refSet (us := ts.take n) ⟨_, h.ref⟩ h.free (own_take h.row (by omega)) h.lo h.hi h.ne
    rw [e] at this
    exact ⟨this.below (below_new _ _), (But.setRef q g w _).trans (But.of (below_new _ _))⟩
  rw [hn] at hr
  clear h
  go_enter Tryz.func160, Tryz.ntmps160
  go_wp2
  go_ret
  exact ⟨by rw [HT.out]; rfl, HR.out⟩

/-- What Push and join leave. -/
def Pushed (w : World) (B q : Nat) (us : List Tur) (e : Ending) (w' : World) : Prop := e = .returned (.tuple #[]) ∧ (∃ g cap, Que w' B q g us cap) ∧ Below B w w'

set_option maxHeartbeats 2000000 in
set_option maxRecDepth 100000 in
theorem qPush_any {w : World} {B q g cap : Nat} {ts : List Tur} (t : Tur) (h : Que w B q g ts cap) (hB : B ≤ w.heap.size) (hl : ts.length ≤ 100) :
    Calls Tryz.prog 161 #[.pointer (some ⟨q, 0, none⟩), .iface 117 t.val] w (Pushed w B q (ts ++ [t])) := by
  obtain ⟨i0, hi, hz0, hz1, hz2⟩ := info_parts info_turn
  have HI := Lib.hid hi
  have HZ0 := Lib.hid hz0
  have HZ1 := Lib.hid hz1
  have HZ2 := Lib.hid hz2
  clear hi hz0 hz1 hz2
  have hr := h.ref
  have hf := h.free
  have hq := h.hi
  have hne := h.ne
  obtain ⟨hg1, hg2⟩ := h.glo
  have hqlo := h.lo
  have HO := Lib.hid (show (w.drew.alloc (.cells #[.string t.w.who, .string t.w.mill, .int .i64 t.w.amount, .int .i64 t.w.ripe, .int .i64 t.came] 117)).ownsRow B 117 5 (.slice (some ⟨g, 0, none⟩) ts.length cap) ts.length (ts.flatMap Tur.cs) from (own_below h.row (below_draws (Below.refl _ _) 1)).alloc _)
  have HBA := Lib.hid (show Below B w (w.drew.alloc (.cells #[.string t.w.who, .string t.w.mill, .int .i64 t.w.amount, .int .i64 t.w.ripe, .int .i64 t.came] 117)) from ((below_draws (Below.refl B w) 1).alloc hB _))
  have HN := Lib.hid (show ∀ j u, t.cs[j]? = some u → (w.drew.alloc (.cells #[.string t.w.who, .string t.w.mill, .int .i64 t.w.amount, .int .i64 t.w.ripe, .int .i64 t.came] 117)).cell? ((⟨w.heap.size, 0, none⟩ : Addr).add j) = some u from by
    intro j u hj
    rw [add_plain, Nat.zero_add]
    exact RecAt.new Tur.cs w.drew t 117 j u hj)
  have hrA : (w.drew.alloc (.cells #[.string t.w.who, .string t.w.mill, .int .i64 t.w.amount, .int .i64 t.w.ripe, .int .i64 t.came] 117)).cell? ⟨q, 0, none⟩ = some (.slice (some ⟨g, 0, none⟩) ts.length cap) := by
    have := (below_new w.drew (.cells #[.string t.w.who, .string t.w.mill, .int .i64 t.w.amount, .int .i64 t.w.ripe, .int .i64 t.came] 117)).cell (p := ⟨q, 0, none⟩) hq
    rw [this]; exact hr
  have hfA : (w.drew.alloc (.cells #[.string t.w.who, .string t.w.mill, .int .i64 t.w.amount, .int .i64 t.w.ripe, .int .i64 t.came] 117)).frozen? ⟨q, 0, none⟩ = false := by
    have := (below_new w.drew (.cells #[.string t.w.who, .string t.w.mill, .int .i64 t.w.amount, .int .i64 t.w.ripe, .int .i64 t.came] 117)).frozen (p := ⟨q, 0, none⟩) hq
    rw [this]; exact hf
  have HRA := Lib.hid hrA
  have HFA := Lib.hid hfA
  have HD : Hid (∀ g6 c6 w6, Appended (w.drew.alloc (.cells #[.string t.w.who, .string t.w.mill, .int .i64 t.w.amount, .int .i64 t.w.ripe, .int .i64 t.came] 117)) B 117 5 g (ts.length + 1) (ts.flatMap Tur.cs ++ t.cs) g6 c6 w6 →
      w6.cell? ⟨q, 0, none⟩ = some (.slice (some ⟨g, 0, none⟩) ts.length cap) ∧ w6.frozen? ⟨q, 0, none⟩ = false ∧ Pushed w B q (ts ++ [t]) (.returned (.tuple #[])) (w6.setCell ⟨q, 0, none⟩ (.slice (some ⟨g6, 0, none⟩) (ts.length + 1) c6))) := by
    rintro g6 c6 w6 ⟨h6, h6g, h6b, h6l, h6x, h6y⟩
    have hsz : q < (w.drew.alloc (.cells #[.string t.w.who, .string t.w.mill, .int .i64 t.w.amount, .int .i64 t.w.ripe, .int .i64 t.came] 117)).heap.size := by simp; exact Nat.lt_succ_of_lt hq
    have hbk := h6g.block q hsz (by intro e; injection e with e; exact hne e)
    have hr6 := (World.cell?_of_block (a := ⟨q, 0, none⟩) hbk).trans HRA.out
    have hf6 := (World.frozen?_of_block (a := ⟨q, 0, none⟩) hbk).trans HFA.out
    refine ⟨hr6, hf6, rfl, ⟨g6, c6, ?_⟩, ?_⟩
    · have hne6 : q ≠ g6 := by
        rcases h6y with e | e
        · rw [e]; exact hne
        · simp at e; omega
      have := Que.refSet (us := ts ++ [t]) (g' := g6) (cap' := c6) (B := B) (w := w6) ⟨_, hr6⟩ hf6 (by rw [List.length_append, List.flatMap_append, List.flatMap_singleton]; exact h6) hqlo (Nat.lt_of_lt_of_le hsz h6g.size) hne6
      rw [List.length_append] at this; exact this
    · exact below_set (bgrown HBA.out (by simp; omega) h6g (by intro z hz; injection hz with hz; omega)) hqlo _
  clear h hrA hfA
  unfold Tur.val
  have hta := assert_turn t
  go_enter Tryz.func161, Tryz.ntmps161
  go_wp2_with fail
  go_region_law (
    (refine step_append_some rfl (.tmp 7) (.tmp 10) 113 rfl B 117 i0 (.agg #[.string ByteArray.empty, .string ByteArray.empty, .int .i64 0, .int .i64 0, .int .i64 0]) 5 56 Tryz.underlying113 HI.out HZ0.out HZ1.out HZ2.out rfl (by decide) g cap ts.length (ts.flatMap Tur.cs) (by simp [Act.eval]) HO.out ⟨w.heap.size, 0, none⟩ 1 1 t.cs (by simp [Act.eval]) rfl HN.out (Tur.one _) (by unfold maxLen; omega) (by omega) ?_; intro g6 c6 w6 h6; obtain ⟨k1, k2, k3⟩ := HD.out g6 c6 w6 h6; have HE := Lib.hid k3; clear k3 h6))
  all_goals
    exact bodyPost_end (v := .tuple #[]) (by simp [results, Tryz.results161, go_sem]) rfl HE.out
end Go.Proofs.YtncandoohlndnaaGreat
namespace Go.Proofs.YtncandoohlndnaaGreat
open Go.ChangeShapes Go.WideShapes Go.ChangeAt Go.RowKit

/-- A queue as an interface. -/
def qif (q : Nat) : Value := .iface 88 (.pointer (some ⟨q, 0, none⟩))

/-- What is known of a queue while it is turned. -/
structure Turn (w w' : World) (B q g cap : Nat) (ts us : List Tur) : Prop where
  que : Que w' B q g us cap
  perm : us.Perm ts
  but : But q g w w'
theorem Turn.len {w w' : World} {B q g cap : Nat} {ts us : List Tur} (h : Turn w w' B q g cap ts us) : us.length = ts.length := h.perm.length_eq

set_option maxHeartbeats 2000000 in
set_option maxRecDepth 100000 in
theorem hUp_any {w : World} {B q g cap j : Nat} {ts : List Tur} (h : Que w B q g ts cap) (hj : j < ts.length) (hl : ts.length ≤ 100) (hf : Fine ts) (hu : UpAt ts ts.length j) :
    Calls Tryz.prog 103 #[.iface 88 (.pointer (some ⟨q, 0, none⟩)), .int .i64 j] w fun e w' => e = .returned (.tuple #[]) ∧ ∃ us, Turn w w' B q g cap ts us ∧ Heaped us us.length := by
  have H := Lib.hid h
  have HF := Lib.hid hf
  have HU := Lib.hid hu
  clear h hf hu
  go_enter Tryz.func103, Tryz.ntmps103
  go_wp2_with fail
  go_loopw [1] (fun i w' => ∃ (k : Nat) (us : List Tur), k < ts.length ∧ i = .int .i64 k ∧ Turn w w' B q g cap ts us ∧ UpAt us us.length k) (fun i _ => (intOf i).toNat)
  case atStart => exact ⟨j, ts, hj, rfl, ⟨H.out, List.Perm.refl _, But.refl _ _ _⟩, HU.out⟩
  case round =>
    clear H HU
    obtain ⟨k, us, hk, rfl, ht, hu⟩ := hrel
    have hlen := ht.len
    have HT := Lib.hid ht
    have HU := Lib.hid hu
    have HLEN := Lib.hid hlen
    clear ht hu hlen
    by_cases h0 : k = 0
    · subst h0
      have HE := Lib.hid (up_top HU.out)
      go_wp2
      exact bodyPost_end (v := .tuple #[]) (by simp [results, Tryz.results103, go_sem]) rfl ⟨rfl, us, HT.out, HE.out⟩
    · obtain ⟨p, hp⟩ : ∃ p, (k - 1) / 2 = p := ⟨_, rfl⟩
      have hpk : p < k := by omega
      have hq : ((k : Int) - 1).tdiv 2 = (p : Int) := by rw [Int.tdiv_eq_ediv_of_nonneg (by omega)]; omega
      have hne : ((p : Int) == (k : Int)) = false := by simp; omega
      have hku : k < us.length := by rw [HLEN.out]; exact hk
      have hpu : p < us.length := by omega
      have hm := m_Less HT.out.que.ref
      have HFU := Lib.hid (HF.out.perm HT.out.perm)
      have HP := Lib.hid hp
      clear hp
      go_wp2_with fail
      refine (qLess_any cap HT.out.que.recs hku hpu HFU.out).mono ?_
      rintro e w2 ⟨rfl, hb2⟩
      have HQ2 := Lib.hid (HT.out.que.below hb2)
      have HB2 := Lib.hid (HT.out.but.trans (But.of hb2))
      clear hb2 hm
      cases hc : decide (kat us k < kat us p)
      · have HE := Lib.hid (up_done HU.out (show kat us ((k - 1) / 2) ≤ kat us k by rw [HP.out]; simpa using hc))
        go_wp2
        exact bodyPost_end (v := .tuple #[]) (by simp [results, Tryz.results103, go_sem]) rfl ⟨rfl, us, ⟨HQ2.out, HT.out.perm, HB2.out⟩, HE.out⟩
      · have HE := Lib.hid (up_step HU.out (by omega) hku (Nat.le_refl _) (show kat us k < kat us ((k - 1) / 2) by rw [HP.out]; simpa using hc))
        have hm2 := m_Swap HQ2.out.ref
        go_wp2_with fail
        refine (qSwap_any HQ2.out hpu hku).mono ?_
        rintro e w3 ⟨rfl, hq3, hg3⟩
        have HR : Hid (∃ (k' : Nat) (us' : List Tur), k' < ts.length ∧ Value.int .i64 (p : Int) = .int .i64 k' ∧ Turn w w3 B q g cap ts us' ∧ UpAt us' us'.length k') := by
          refine ⟨p, swapT us p k, by omega, rfl, ⟨hq3, (swapT_perm hpu hku).trans HT.out.perm, HB2.out.trans (But.row hg3)⟩, ?_⟩
          have := HE.out
          rw [HP.out] at this
          rw [swapT_len]; exact this
        clear hq3 hg3 hm2
        go_wp2
        go_roundw
        case rel => exact HR.out
        case measure => simp [intOf]; omega

set_option maxHeartbeats 2000000 in
set_option maxRecDepth 100000 in
theorem hPush_any {w : World} {B q g cap : Nat} {ts : List Tur} (t : Tur) (h : Que w B q g ts cap) (hB : B ≤ w.heap.size) (hl : ts.length ≤ 90) (hf : Fine (ts ++ [t])) (hh : Heaped ts ts.length) :
    Calls Tryz.prog 93 #[.iface 88 (.pointer (some ⟨q, 0, none⟩)), .iface 117 t.val] w fun e w' => e = .returned (.tuple #[]) ∧ (∃ g' cap' us, Que w' B q g' us cap' ∧ us.Perm (ts ++ [t]) ∧ Heaped us us.length) ∧ Below B w w' := by
  have H := Lib.hid h
  have HF := Lib.hid hf
  have HH := Lib.hid hh
  have hm := m_Push (w := w) (q := q)
  clear h hf hh
  go_enter Tryz.func93, Tryz.ntmps93
  go_wp2_with fail
  refine (qPush_any t H.out hB (by omega)).mono ?_
  rintro e w2 ⟨rfl, ⟨g2, c2, hq2⟩, hb2⟩
  have HQ2 := Lib.hid hq2
  have HB2 := Lib.hid hb2
  have hm2 := m_Len hq2.ref
  have hln : (ts ++ [t]).length = ts.length + 1 := by simp
  have hlo := hq2.lo
  have hglo := hq2.glo.1
  have hB2 : B ≤ w2.heap.size := Nat.le_of_lt (Nat.lt_of_le_of_lt hq2.lo hq2.hi)
  clear hq2 hb2 hm
  go_wp2_with (go_at_call 75; refine (qLen_any _ _ _ _).mono ?_; rintro e w' ⟨rfl, rfl⟩)
  refine (hUp_any (j := ts.length) HQ2.out (by simp) (by rw [hln]; omega) HF.out (by rw [hln]; exact up_start HH.out t)).mono ?_
  rintro e w3 ⟨rfl, us, ht, hh⟩
  have HR : Hid ((∃ g' cap' us, Que w3 B q g' us cap' ∧ us.Perm (ts ++ [t]) ∧ Heaped us us.length) ∧ Below B w w3) :=
    ⟨⟨g2, c2, us, ht.que, ht.perm, hh⟩, HB2.out.trans (ht.but.below hB2 hlo hglo)⟩
  clear ht hh
  go_wp2
  exact bodyPost_end (v := .tuple #[]) (by simp [results, Tryz.results93, go_sem]) rfl ⟨rfl, HR.out⟩
end Go.Proofs.YtncandoohlndnaaGreat
namespace Go.Proofs.YtncandoohlndnaaGreat
open Go.ChangeShapes Go.WideShapes Go.ChangeAt Go.RowKit

/-- The loop's word. -/
def DownRel (w : World) (B q g cap n : Nat) (ts : List Tur) (i : Value) (w' : World) : Prop :=
  ∃ (k : Nat) (us : List Tur), k ≤ n ∧ i = .int .i64 k ∧ Turn w w' B q g cap ts us ∧ DownAt us n k ∧ tatn us n = tatn ts n

set_option maxHeartbeats 4000000 in
set_option maxRecDepth 100000 in
theorem hDown_any {w : World} {B q g cap n : Nat} {ts : List Tur} (h : Que w B q g ts cap) (hn : ts.length = n + 1) (hl : n ≤ 90) (hf : Fine ts) (hu : DownAt ts n 0) :
    Calls Tryz.prog 94 #[.iface 88 (.pointer (some ⟨q, 0, none⟩)), .int .i64 0, .int .i64 n] w fun e w' => (∃ b, e = .returned (.bool b)) ∧ ∃ us, Turn w w' B q g cap ts us ∧ Heaped us n ∧ tatn us n = tatn ts n := by
  have H := Lib.hid h
  have HF := Lib.hid hf
  have HU := Lib.hid hu
  have HLT := Lib.hid hn
  clear h hf hu hn
  have HR0 : Hid (DownRel w B q g cap n ts (.int .i64 0) w) := ⟨0, ts, Nat.zero_le _, rfl, ⟨H.out, List.Perm.refl _, But.refl _ _ _⟩, HU.out, rfl⟩
  clear H HU
  go_enter Tryz.func94, Tryz.ntmps94
  go_wp2_with fail
  go_loopw [7] (fun i w' => DownRel w B q g cap n ts i w') (fun i _ => n - (intOf i).toNat)
  case atStart => exact HR0.out
  case round =>
    clear HR0
    obtain ⟨k, us, hk, rfl, ht, hu, hlast⟩ := hrel
    have HT := Lib.hid ht
    have HU := Lib.hid hu
    have HLAST := Lib.hid hlast
    have HFU := Lib.hid (HF.out.perm ht.perm)
    have HLU := Lib.hid (show us.length = n + 1 by rw [ht.len, HLT.out])
    clear ht hu hlast
    obtain ⟨c, hc⟩ : ∃ c, 2 * k + 1 = c := ⟨_, rfl⟩
    have hci : 2 * (k : Int) + 1 = (c : Int) := by omega
    have HC := Lib.hid hc
    clear hc
    by_cases hcn : c < n
    case neg =>
      have HE := Lib.hid (down_done HU.out (fun x hx hq => by have := HC.out; omega))
      go_wp2
      go_ret
      exact ⟨⟨_, rfl⟩, us, HT.out, HE.out, HLAST.out⟩
    have hcu : c < us.length := by rw [HLU.out]; omega
    have hkc : k < c := by have := HC.out; omega
    have hku : k < us.length := by omega
    obtain ⟨d, hd⟩ : ∃ d, c + 1 = d := ⟨_, rfl⟩
    have hdi : (c : Int) + 1 = (d : Int) := by omega
    have HD := Lib.hid hd
    clear hd
    -- which child
    have HW : Hid (∀ (w2 : World), Que w2 B q g us cap → But q g w w2 → ∀ j, (j = c ∨ j = d) → j < n → (∀ x, x < n → (x = c ∨ x = d) → kat us j ≤ kat us x) → ∀ w3, kat us j < kat us k → Que w3 B q g (swapT us k j) cap → w2.grownBy w3 (some g) → DownRel w B q g cap n ts (.int .i64 (j : Int)) w3) := by
      intro w2 h2 hb2 j hj hjn hmin w3 hlt h3 hg3
      have e1 := HC.out
      have e2 := HD.out
      have hju : j < us.length := by rw [HLU.out]; omega
      refine ⟨j, swapT us k j, by omega, rfl, ⟨h3, (swapT_perm hku hju).trans HT.out.perm, hb2.trans (But.row hg3)⟩, down_step HU.out hjn (by rw [HLU.out]; omega) (by omega) hlt (fun x hx hq => hmin x hx (by omega)), ?_⟩
      rw [swapT_at hku hju, if_neg (by omega), if_neg (by omega)]; exact HLAST.out
    have HX : Hid (∀ (w2 : World), Que w2 B q g us cap → But q g w w2 → ∀ j, (∀ x, x < n → (x = c ∨ x = d) → kat us j ≤ kat us x) → ¬ kat us j < kat us k → ∃ us, Turn w w2 B q g cap ts us ∧ Heaped us n ∧ tatn us n = tatn ts n) := by
      intro w2 h2 hb2 j hmin hlt
      have e1 := HC.out
      have e2 := HD.out
      refine ⟨us, ⟨h2, HT.out.perm, hb2⟩, down_done HU.out (fun x hx hq => ?_), HLAST.out⟩
      have := hmin x hx (by omega)
      omega
    have hm := m_Less HT.out.que.ref
    by_cases hdn : d < n
    · have hdu : d < us.length := by rw [HLU.out]; omega
      go_wp2_with fail
      refine (qLess_any cap HT.out.que.recs hdu hcu HFU.out).mono ?_
      rintro e w2 ⟨rfl, hb2⟩
      have HQ2 := Lib.hid (HT.out.que.below hb2)
      have HB2 := Lib.hid (HT.out.but.trans (But.of hb2))
      clear hb2 hm
      have hm2 := m_Less HQ2.out.ref
      cases hdc : decide (kat us d < kat us c)
      · have HMIN : Hid (∀ x, x < n → (x = c ∨ x = d) → kat us c ≤ kat us x) := by
          intro x _ hx
          have : ¬ kat us d < kat us c := by simpa using hdc
          rcases hx with rfl | rfl <;> omega
        go_wp2_with fail
        refine (qLess_any cap HQ2.out.recs hcu hku HFU.out).mono ?_
        rintro e w3 ⟨rfl, hb3⟩
        have HQ3 := Lib.hid (HQ2.out.below hb3)
        have HB3 := Lib.hid (HB2.out.trans (But.of hb3))
        clear hb3 hm2
        cases hck : decide (kat us c < kat us k)
        · have HE := Lib.hid (HX.out w3 HQ3.out HB3.out c HMIN.out (by simpa using hck))
          go_wp2
          go_ret
          exact ⟨⟨_, rfl⟩, HE.out⟩
        · have hm3 := m_Swap HQ3.out.ref
          go_wp2_with fail
          refine (qSwap_any HQ3.out hku hcu).mono ?_
          rintro e w4 ⟨rfl, hq4, hg4⟩
          have HR := Lib.hid (HW.out w3 HQ3.out HB3.out c (.inl rfl) hcn HMIN.out w4 (by simpa using hck) hq4 hg4)
          clear hq4 hg4 hm3
          go_wp2
          go_roundw
          case rel => exact HR.out
          case measure => simp [intOf]; omega
      · have HMIN : Hid (∀ x, x < n → (x = c ∨ x = d) → kat us d ≤ kat us x) := by
          intro x _ hx
          have : kat us d < kat us c := by simpa using hdc
          rcases hx with rfl | rfl <;> omega
        go_wp2_with fail
        refine (qLess_any cap HQ2.out.recs hdu hku HFU.out).mono ?_
        rintro e w3 ⟨rfl, hb3⟩
        have HQ3 := Lib.hid (HQ2.out.below hb3)
        have HB3 := Lib.hid (HB2.out.trans (But.of hb3))
        clear hb3 hm2
        cases hck : decide (kat us d < kat us k)
        · have HE := Lib.hid (HX.out w3 HQ3.out HB3.out d HMIN.out (by simpa using hck))
          go_wp2
          go_ret
          exact ⟨⟨_, rfl⟩, HE.out⟩
        · have hm3 := m_Swap HQ3.out.ref
          go_wp2_with fail
          refine (qSwap_any HQ3.out hku hdu).mono ?_
          rintro e w4 ⟨rfl, hq4, hg4⟩
          have HR := Lib.hid (HW.out w3 HQ3.out HB3.out d (.inr rfl) hdn HMIN.out w4 (by simpa using hck) hq4 hg4)
          clear hq4 hg4 hm3
          go_wp2
          go_roundw
          case rel => exact HR.out
          case measure => simp [intOf]; omega
    · have HMIN : Hid (∀ x, x < n → (x = c ∨ x = d) → kat us c ≤ kat us x) := by
        intro x hxn hx
        rcases hx with rfl | rfl <;> omega
      go_wp2_with fail
      refine (qLess_any cap HT.out.que.recs hcu hku HFU.out).mono ?_
      rintro e w3 ⟨rfl, hb3⟩
      have HQ3 := Lib.hid (HT.out.que.below hb3)
      have HB3 := Lib.hid (HT.out.but.trans (But.of hb3))
      clear hb3 hm
      cases hck : decide (kat us c < kat us k)
      · have HE := Lib.hid (HX.out w3 HQ3.out HB3.out c HMIN.out (by simpa using hck))
        go_wp2
        go_ret
        exact ⟨⟨_, rfl⟩, HE.out⟩
      · have hm3 := m_Swap HQ3.out.ref
        go_wp2_with fail
        refine (qSwap_any HQ3.out hku hcu).mono ?_
        rintro e w4 ⟨rfl, hq4, hg4⟩
        have HR := Lib.hid (HW.out w3 HQ3.out HB3.out c (.inl rfl) hcn HMIN.out w4 (by simpa using hck) hq4 hg4)
        clear hq4 hg4 hm3
        go_wp2
        go_roundw
        case rel => exact HR.out
        case measure => simp [intOf]; omega

set_option maxHeartbeats 2000000 in
set_option maxRecDepth 100000 in
theorem hPop_any {w : World} {B q g cap n : Nat} {ts : List Tur} {s : Tur} {ss : List Tur} (h : Que w B q g ts cap) (hn : ts.length = n + 1) (hl : n ≤ 90) (hf : Fine ts) (hh : Heaped ts ts.length) (hp : ts.Perm (s :: ss)) (hr : Rowed (s :: ss)) :
    Calls Tryz.prog 76 #[.iface 88 (.pointer (some ⟨q, 0, none⟩))] w fun e w' => e = .returned (.iface 117 s.val) ∧ ∃ us, Que w' B q g us cap ∧ us.Perm ss ∧ Heaped us us.length ∧ But q g w w' := by
  have H := Lib.hid h
  have HF := Lib.hid hf
  have HF0 := Lib.hid (first_is hh hp hr)
  have HP := Lib.hid hp
  have HDS := Lib.hid (down_start (n := n) (by rw [← hn]; exact hh) (by omega))
  have HN := Lib.hid hn
  have h0 : 0 < ts.length := by omega
  have hnl : n < ts.length := by omega
  have hlen : (ts.length : Int) = (n : Int) + 1 := by omega
  have HLEN := Lib.hid hlen
  have hr0 := h.ref
  rw [hn] at hr0
  have hm := m_Len hr0
  have hm2 := m_Swap hr0
  clear h hf hh hp hr hn hlen hr0
  have HSW := Lib.hid (show Calls Tryz.prog 162 #[.slice (some ⟨g, 0, none⟩) (n + 1) cap, .int .i64 0, .int .i64 n] w fun e w' => e = .returned (.tuple #[]) ∧ Que w' B q g (swapT ts 0 n) cap ∧ w.grownBy w' (some g) by
    have := qSwap_any (i := 0) (j := n) H.out h0 hnl
    rw [HN.out] at this; exact this)
  clear h0 hnl
  go_enter Tryz.func76, Tryz.ntmps76
  go_wp2_with (go_at_call 75; refine (qLen_any _ _ _ _).mono ?_; rintro e w' ⟨rfl, rfl⟩)
  refine (HSW.out).mono ?_
  rintro e w2 ⟨rfl, hq2, hg2⟩
  have HQ2 := Lib.hid hq2
  have HB2 := Lib.hid (But.row (q := q) hg2)
  clear hq2 hg2 hm hm2 HSW
  go_wp2_with fail
  refine (hDown_any HQ2.out (by rw [swapT_len]; exact HN.out) hl (HF.out.perm (swapT_perm (by rw [HN.out]; omega) (by rw [HN.out]; omega))) HDS.out).mono ?_
  rintro e w3 ⟨⟨b, rfl⟩, us, ht, hh, hlast⟩
  have HT := Lib.hid ht
  have HH := Lib.hid hh
  have HLU := Lib.hid (show us.length = n + 1 by rw [ht.len, swapT_len, HN.out])
  have HL := Lib.hid (show tatn us n = s from by
    have h0 : 0 < ts.length := by rw [HN.out]; omega
    have h1 : n < ts.length := by rw [HN.out]; omega
    rw [hlast, swapT_at h0 h1, if_pos rfl]; exact HF0.out.2)
  have HPM := Lib.hid (show us.Perm (s :: ss) from (ht.perm.trans (swapT_perm (by rw [HN.out]; omega) (by rw [HN.out]; omega))).trans HP.out)
  have hm3 := m_Pop (w := w3) (q := q)
  clear ht hh hlast
  go_wp2_with fail
  refine (qPop_any HT.out.que HLU.out (by omega)).mono ?_
  rintro e w4 ⟨rfl, hq4, hb4⟩
  have HR : Hid (∃ us, Que w4 B q g us cap ∧ us.Perm ss ∧ Heaped us us.length ∧ But q g w w4) :=
    ⟨us.take n, hq4, rest_is HLU.out HPM.out HL.out, heaped_take HH.out (by rw [HLU.out]; omega), (HB2.out.trans HT.out.but).trans hb4⟩
  clear hq4 hb4 hm3
  rw [HL.out]
  go_wp2
  go_ret
  exact ⟨rfl, HR.out⟩
end Go.Proofs.YtncandoohlndnaaGreat
