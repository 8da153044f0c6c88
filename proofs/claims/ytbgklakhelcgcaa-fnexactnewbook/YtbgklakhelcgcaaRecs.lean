/-
  Records in memory, whatever they are made of: 'f' lists a record's cells, 'c' of them; lists of them that lie, that a call owns, that are marked.
-/
import Derived.Test.YtbgklakhelcgcaaMany
namespace Go.Proofs.Ytbgklakhelcgcaa
open Go.ChangeShapes Go.WideShapes Go.ChangeAt Go.RowKit

section
variable {α : Type} {f : α → List Value} {c : Nat}

/-- These records lie one behind the other from a on. -/
def Recs (f : α → List Value) (w : World) (a : Option Addr) (xs : List α) : Prop := Lies w a (xs.flatMap f)

theorem flat_length (hc : ∀ x, (f x).length = c) : ∀ xs : List α, (xs.flatMap f).length = xs.length * c
  | [] => by simp
  | x :: r => by
    rw [List.flatMap_cons, List.length_append, hc x, flat_length hc r, List.length_cons, Nat.add_mul, Nat.one_mul, Nat.add_comm]
theorem flat_at (hc : ∀ x, (f x).length = c) : ∀ (xs : List α) (k j : Nat) (hk : k < xs.length), j < c → (xs.flatMap f)[k * c + j]? = (f xs[k])[j]?
  | x :: r, 0, j, _, hj => by
    rw [List.flatMap_cons, Nat.zero_mul, Nat.zero_add, List.getElem?_append_left (by rw [hc]; exact hj)]; rfl
  | x :: r, k + 1, j, hk, hj => by
    have := flat_at hc r k j (by simpa using hk) hj
    rw [List.flatMap_cons, Nat.add_mul, Nat.one_mul, List.getElem?_append_right (by rw [hc]; omega), hc, show k * c + c + j - c = k * c + j by omega, this]; rfl
theorem flat_cases (hc : ∀ x, (f x).length = c) {xs : List α} {i : Nat} {v : Value} (h : (xs.flatMap f)[i]? = some v) : ∃ k j, ∃ hk : k < xs.length, j < c ∧ i = k * c + j ∧ (f xs[k])[j]? = some v := by
  have hlt := (List.getElem?_eq_some_iff.1 h).1
  rw [flat_length hc] at hlt
  have hc0 : 0 < c := by
    rcases Nat.eq_zero_or_pos c with e | e
    · subst e; simp at hlt
    · exact e
  have hk : i / c < xs.length := Nat.div_lt_of_lt_mul (by rw [Nat.mul_comm]; exact hlt)
  have hj : i % c < c := Nat.mod_lt _ hc0
  have he : i = i / c * c + i % c := by rw [Nat.mul_comm]; exact (Nat.div_add_mod i c).symm
  refine ⟨i / c, i % c, hk, hj, he, ?_⟩
  rw [← flat_at hc xs _ _ hk hj, ← he]; exact h
theorem flat_take (hc : ∀ x, (f x).length = c) : ∀ (xs : List α) (n : Nat), (xs.take n).flatMap f = (xs.flatMap f).take (n * c)
  | [], n => by simp
  | x :: r, 0 => by simp
  | x :: r, n + 1 => by
    rw [List.take_succ_cons, List.flatMap_cons, List.flatMap_cons, flat_take hc r n, Nat.add_mul, Nat.one_mul, Nat.add_comm (n * c) c, ← hc x, List.take_length_add_append]
theorem flat_drop (hc : ∀ x, (f x).length = c) : ∀ (xs : List α) (n : Nat), (xs.drop n).flatMap f = (xs.flatMap f).drop (n * c)
  | [], n => by simp
  | x :: r, 0 => by simp
  | x :: r, n + 1 => by
    rw [List.drop_succ_cons, List.flatMap_cons, flat_drop hc r n, Nat.add_mul, Nat.one_mul, Nat.add_comm (n * c) c, ← List.drop_drop, List.drop_left' (hc x)]
theorem flat_one (h1 : ∀ x, ∀ v ∈ f x, v.oneCell' = true) (xs : List α) : ∀ v ∈ xs.flatMap f, v.oneCell' = true := by
  intro v hv
  obtain ⟨x, _, hx⟩ := List.mem_flatMap.1 hv
  exact h1 x v hx

theorem Recs.nil (w : World) (a : Option Addr) : Recs f w a [] := Lies.nil _ _
theorem Recs.below {w w' : World} {a : Option Addr} {xs : List α} (h : Recs f w a xs) (hb : Below w.heap.size w w') : Recs f w' a xs := Lies.below h hb
theorem Recs.takeR (hc : ∀ x, (f x).length = c) {w : World} {a : Option Addr} {xs : List α} (h : Recs f w a xs) (n : Nat) : Recs f w a (xs.take n) := by
  intro k v hk
  rw [flat_take hc, List.getElem?_take] at hk
  split at hk
  · exact h k v hk
  · cases hk
theorem Recs.draws {w : World} {a : Option Addr} {xs : List α} (h : Recs f w a xs) (n : Nat) : Recs f (w.drewN n) a xs := h
theorem Recs.cell {w : World} {a : Option Addr} {xs : List α} (h : Recs f w a xs) (hc : ∀ x, (f x).length = c) (h0 : 0 < c) (k : Nat) (hk : k < xs.length) :
    ∃ b off, a = some ⟨b, off, none⟩ ∧ b < w.heap.size ∧ ∀ j v, (f xs[k])[j]? = some v → w.cell? ⟨b, off + k * c + j, none⟩ = some v := by
  have hl : 0 < (f xs[k]).length := by rw [hc]; exact h0
  obtain ⟨b, off, e, hc0⟩ := h (k * c + 0) ((f xs[k])[0]) (by rw [flat_at hc xs k 0 hk h0]; exact List.getElem?_eq_getElem hl)
  refine ⟨b, off, e, at_lt hc0, fun j v hj => ?_⟩
  have hjc : j < c := by have := (List.getElem?_eq_some_iff.1 hj).1; rwa [hc] at this
  obtain ⟨b', off', e', hv⟩ := h (k * c + j) v (by rw [flat_at hc xs k j hk hjc]; exact hj)
  rw [e] at e'; injection e' with e'; injection e' with e1 e2; subst e1; subst e2
  rw [Nat.add_assoc]; exact hv
theorem Recs.under {w w' : World} {B : Nat} {a : Option Addr} {xs : List α} (hc : ∀ x, (f x).length = c) (h : Recs f w a xs) (hb : Below B w w') (hB : ∀ b off, a = some ⟨b, off, none⟩ → 0 < xs.length → b < B) : Recs f w' a xs :=
  Lies.under h hb (fun b off e hl => hB b off e (by
    rw [flat_length hc] at hl
    rcases Nat.eq_zero_or_pos xs.length with e0 | e0
    · rw [e0, Nat.zero_mul] at hl; omega
    · exact e0))
theorem Recs.old {w : World} {a : Option Addr} {xs : List α} (hc : ∀ x, (f x).length = c) (h0 : 0 < c) (h : Recs f w a xs) : ∀ b off, a = some ⟨b, off, none⟩ → 0 < xs.length → b < w.heap.size :=
  fun b off e hl => Lies.old h b off e (by rw [flat_length hc]; exact Nat.mul_pos hl h0)
theorem Recs.mk {w : World} {b off : Nat} {xs : List α} (hc : ∀ x, (f x).length = c) (h : ∀ k (hk : k < xs.length) j v, (f xs[k])[j]? = some v → w.cell? ⟨b, off + (k * c + j), none⟩ = some v) : Recs f w (some ⟨b, off, none⟩) xs := by
  intro i v hi
  obtain ⟨k, j, hk, hj, rfl, hv⟩ := flat_cases hc hi
  exact ⟨b, off, rfl, h k hk j v hv⟩

/-- The bytes of the first k. -/
def totR (z : α → Nat) (xs : List α) (k : Nat) : Nat := ((xs.take k).map z).sum
theorem totR_zero (z : α → Nat) (xs : List α) : totR z xs 0 = 0 := by simp [totR]
theorem totR_succ {z : α → Nat} {xs : List α} {k : Nat} (h : k < xs.length) : totR z xs (k + 1) = totR z xs k + z xs[k] := by
  unfold totR
  rw [List.take_succ_eq_append_getElem h, List.map_append, List.sum_append]
  simp only [List.map_cons, List.map_nil, List.sum_cons, List.sum_nil, Nat.add_zero]
theorem totR_mono (z : α → Nat) (xs : List α) {j k : Nat} (h : j ≤ k) : totR z xs j ≤ totR z xs k := by
  induction k with
  | zero => have : j = 0 := by omega
            subst this; exact Nat.le_refl _
  | succ k ih =>
    by_cases e : j = k + 1
    · subst e; exact Nat.le_refl _
    · have h1 := ih (by omega)
      by_cases hk : k < xs.length
      · rw [totR_succ hk]; omega
      · have : totR z xs (k + 1) = totR z xs k := by unfold totR; rw [List.take_of_length_le (by omega), List.take_of_length_le (by omega)]
        omega
theorem le_totR {z : α → Nat} {xs : List α} {k : Nat} (h : k < xs.length) : z xs[k] ≤ totR z xs xs.length := by
  have h1 := totR_succ (z := z) h
  have h2 := totR_mono z xs (show k + 1 ≤ xs.length by omega)
  omega
/-- What is left of so many: -1 where they are too many. -/
def szR (z : α → Nat) (xs : List α) (left : Int) : Int := if (xs.length : Int) + totR z xs xs.length ≤ left then left - xs.length - totR z xs xs.length else -1
theorem szR_no {z : α → Nat} {xs : List α} {left : Int} {k : Nat} (hk : k ≤ xs.length) (h : left < xs.length + totR z xs k) : szR z xs left = -1 := by
  have := totR_mono z xs hk
  unfold szR; rw [if_neg (by omega)]
theorem szR_yes {z : α → Nat} {xs : List α} {left : Int} (h : (xs.length : Int) + totR z xs xs.length ≤ left) : szR z xs left = left - xs.length - totR z xs xs.length := by
  unfold szR; rw [if_pos h]
theorem szR_small {z : α → Nat} {xs : List α} {left : Int} (hl : left ≤ 1048576) (h : ¬ szR z xs left < 0) : xs.length ≤ 1048576 ∧ ∀ x ∈ xs, z x ≤ 1048576 := by
  unfold szR at h
  split at h
  · rename_i hle
    refine ⟨by omega, fun x hx => ?_⟩
    obtain ⟨k, hk, rfl⟩ := List.getElem_of_mem hx
    have := le_totR (z := z) hk
    omega
  · omega
theorem szR_bd {z : α → Nat} {xs : List α} {left : Int} (h0 : 0 ≤ left) : -1 ≤ szR z xs left ∧ szR z xs left ≤ left := by
  unfold szR
  split <;> omega

/-- Marks, from k on, c of them a record. -/
def marksR (mk : Nat → α) (c k n : Nat) : List α := (List.range n).map fun i => mk (k + i * c)
theorem marksR_length (mk : Nat → α) (c k n : Nat) : (marksR mk c k n).length = n := by simp [marksR]
theorem marksR_at (mk : Nat → α) (c k n i : Nat) (h : i < n) : (marksR mk c k n)[i]'(by rw [marksR_length]; exact h) = mk (k + i * c) := by simp [marksR]

/-- A list that lies in a block of its own, from block B on, and may be written. -/
def OwnR (f : α → List Value) (c : Nat) (w : World) (B : Nat) (a : Option Addr) (xs : List α) : Prop :=
  Recs f w a xs ∧ (xs = [] ∨ ∃ b, a = some ⟨b, 0, none⟩ ∧ B ≤ b ∧ b < w.heap.size ∧ Mine w b 0 (xs.length * c))
theorem OwnR.below {w w' : World} {B : Nat} {a : Option Addr} {xs : List α} (h : OwnR f c w B a xs) (hb : Below w.heap.size w w') : OwnR f c w' B a xs := by
  refine ⟨h.1.below hb, ?_⟩
  rcases h.2 with h0 | ⟨b, e, h1, h2, hm⟩
  · exact .inl h0
  · exact .inr ⟨b, e, h1, Nat.lt_of_lt_of_le h2 hb.size, hm.below h2 hb⟩
theorem OwnR.grown {w w' : World} {B x : Nat} {a : Option Addr} {xs : List α} (h : OwnR f c w B a xs) (hg : w.grownBy w' (some x)) (hx : x < B) : OwnR f c w' B a xs := by
  rcases h.2 with rfl | ⟨b, rfl, h1, h2, hm⟩
  · exact ⟨Lies.nil _ _, .inl rfl⟩
  · have hne : some b ≠ some x := by intro e; injection e with e; omega
    refine ⟨?_, .inr ⟨b, rfl, h1, Nat.lt_of_lt_of_le h2 hg.size, hm.grown h2 hg hne⟩⟩
    intro k v hk
    obtain ⟨b', off, e, hc⟩ := h.1 k v hk
    injection e with e; injection e with e1 e2; subst e1; subst e2
    exact ⟨b, 0, rfl, by rw [grown_keeps hg h2 hne]; exact hc⟩
theorem OwnR.mono {w : World} {B B' : Nat} {a : Option Addr} {xs : List α} (h : OwnR f c w B a xs) (hB : B' ≤ B) : OwnR f c w B' a xs := by
  refine ⟨h.1, ?_⟩
  rcases h.2 with h0 | ⟨b, e, h1, h2, hm⟩
  · exact .inl h0
  · exact .inr ⟨b, e, by omega, h2, hm⟩
theorem mine_lies {w : World} {b n : Nat} {vs : List Value} (h : Lies w (some ⟨b, 0, none⟩) vs) (hn : vs.length = n) (hf : ∀ o, w.frozen? ⟨b, o, none⟩ = false) : Mine w b 0 n where
  all := fun j hj => by
    obtain ⟨b', off', e, hc⟩ := h j vs[j] (List.getElem?_eq_getElem (by omega))
    injection e with e; injection e with e1 e2; subst e1; subst e2
    exact ⟨_, hc⟩
  free := hf
/-- A row that is new, and what lies in it. -/
theorem ownR_new (hc : ∀ x, (f x).length = c) (w : World) (xs : List α) (t : TypeId) : OwnR f c (w.alloc (.cells (xs.flatMap f).toArray t)) w.heap.size (some ⟨w.heap.size, 0, none⟩) xs := by
  have hl := lies_new w (xs.flatMap f) t
  exact ⟨hl, .inr ⟨_, rfl, Nat.le_refl _, by simp, mine_lies hl (flat_length hc xs) (free_new _ _ _)⟩⟩
/-- One that owns its row. -/
theorem ownR_of {w : World} {base : Nat} {e : TypeId} {v : Value} {xs : List α} (hc : ∀ x, (f x).length = c) (h : w.ownsRow base e c v xs.length (xs.flatMap f)) :
    ∃ a cap, v = .slice a xs.length cap ∧ OwnR f c w base a xs ∧ (v = .slice none 0 0 ∨ ∃ b, a = some ⟨b, 0, none⟩) := by
  rcases h.2 with ⟨rfl, h0⟩ | ⟨g, cap, cur, rfl, hg, hh, hle, hm, hs, ht⟩
  · have : xs = [] := List.eq_nil_of_length_eq_zero h0
    subst this
    exact ⟨none, 0, rfl, ⟨Lies.nil _ _, .inl rfl⟩, .inl rfl⟩
  · have hlies : Lies w (some ⟨g, 0, none⟩) (xs.flatMap f) := by
      intro k v hk
      have hlt := (List.getElem?_eq_some_iff.1 hk).1
      refine ⟨g, 0, rfl, ?_⟩
      rw [← ht, List.getElem?_take_of_lt (by rw [flat_length hc] at hlt; exact hlt)] at hk
      simpa [World.cell?, hh] using hk
    exact ⟨_, cap, rfl, ⟨hlies, .inr ⟨g, rfl, hg, (Array.getElem?_eq_some_iff.1 hh).1, mine_lies hlies (flat_length hc xs) (fun o => by simp [World.frozen?, hh])⟩⟩, .inr ⟨g, rfl⟩⟩
end

theorem own_at0 (n : Nat) : ∀ g, (Value.slice (some ⟨n, 0, none⟩) 0 0).ownBlock = some g → n ≤ g := by
  intro g hg
  have : n = g := by simpa [Value.ownBlock] using hg
  omega
theorem own_lo {w : World} {base : Nat} {e : TypeId} {c : Nat} {v : Value} {n : Nat} {xs : List Value} (h : w.ownsRow base e c v n xs) : ∀ g, v.ownBlock = some g → base ≤ g := by
  intro g hg
  rcases h.2 with ⟨rfl, _⟩ | ⟨g', cap, cur, rfl, hb, _⟩
  · simp [Value.ownBlock] at hg
  · have : g' = g := by simpa [Value.ownBlock] using hg
    omega
theorem own_below {w w' : World} {base : Nat} {e : TypeId} {c : Nat} {v : Value} {n : Nat} {xs : List Value} (h : w.ownsRow base e c v n xs) (hb : Below w.heap.size w w') : w'.ownsRow base e c v n xs := by
  refine ⟨h.1, ?_⟩
  rcases h.2 with h0 | ⟨g, cap, cur, hv, hg, hh, hr⟩
  · exact .inl h0
  · exact .inr ⟨g, cap, cur, hv, hg, by rw [hb.block g (Array.getElem?_eq_some_iff.1 hh).1]; exact hh, hr⟩

/-- One record lies in block B, from its head on. -/
def RecAt {α : Type} (f : α → List Value) (w : World) (B : Nat) (x : α) : Prop := ∀ j v, (f x)[j]? = some v → w.cell? ⟨B, j, none⟩ = some v
theorem RecAt.below {α : Type} {f : α → List Value} {w w' : World} {B : Nat} {x : α} (h : RecAt f w B x) (hb : Below w.heap.size w w') : RecAt f w' B x :=
  fun j v hj => by have hc := h j v hj; rw [hb.cell (p := ⟨B, j, none⟩) (at_lt hc)]; exact hc
theorem RecAt.new {α : Type} (f : α → List Value) (w : World) (x : α) (T : TypeId) : RecAt f (w.alloc (.cells (f x).toArray T)) w.heap.size x :=
  fun j v hj => by simp only [World.cell?, heap_alloc_new]; simpa using hj

/-- The number behind the last mark. -/
def markTo (c n : Nat) : Int := ((1 + n * c : Nat) : Int)
theorem markTo_pos (c n : Nat) : 0 ≤ markTo c n := by unfold markTo; omega
end Go.Proofs.Ytbgklakhelcgcaa
