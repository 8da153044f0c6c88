/-
  What the draws of chapter 2 return, whatever the bytes: strings of at most 7 bytes, lists of at most 3 of them; nothing that was there turns, but for the cursor.
-/
import Derived.Test.YtkdelfadmnpkhaaDrawB
import Derived.Test.YtkdelfadmnpkhaaStrAt
import Derived.Deep.AppendLies
import Derived.OwnWalk
namespace Go.Proofs.Ytkdelfadmnpkhaa
open Go.ChangeShapes Go.WideShapes Go.ChangeAt Go.RowKit

/-- What a draw of a string leaves. -/
def DrawnS (C : Nat) (a : Option Addr) (len cap : Nat) (w : World) (e : Ending) (w' : World) : Prop :=
  ∃ s : ByteArray, s.size ≤ 7 ∧ e = .returned (.string s) ∧ Cur w' C a len cap ∧ w.grownBy w' (some C)

set_option maxHeartbeats 1000000 in
set_option maxRecDepth 100000 in
theorem l2Draw_any {C : Nat} {a : Option Addr} {len cap : Nat} {w : World} (h : Cur w C a len cap) :
    Calls Try.prog 64 #[.pointer (some ⟨C, 0, none⟩)] w (DrawnS C a len cap w) := by
  have hC : C < w.heap.size := lt_of_cell h.c0
  go_enter Try.func64, Try.ntmps64
  go_wp2_with fail
  refine (l1Below_any _ (h.kept ((Below.refl _ _).alloc (Nat.le_refl _) _)) (by omega) (by omega)).mono ?_
  rintro e w2 ⟨x, ⟨hx, hx2⟩, rfl, hc2, hg2⟩
  have hg : w.grownBy w2 (some C) := grown_step (grown_new (grown_refl _ _) _) hg2
  have q0 := kept_cell (b := w.heap.size) (o := 0) hg2 (by go_simp; rfl) (by omega)
  have q1 := kept_cell (b := w.heap.size) (o := 1) hg2 (by go_simp; rfl) (by omega)
  have q2 := kept_cell (b := w.heap.size) (o := 2) hg2 (by go_simp; rfl) (by omega)
  clear hg2
  have hx3 : x = 0 ∨ x = 1 ∨ x = 2 := by omega
  rcases hx3 with rfl | rfl | rfl
  all_goals
    go_wp2
    go_ret
    exact ⟨_, by decide, rfl, hc2, hg⟩

set_option maxHeartbeats 1000000 in
set_option maxRecDepth 100000 in
theorem l2DrawAny_any {C : Nat} {a : Option Addr} {len cap : Nat} {w : World} (h : Cur w C a len cap) :
    Calls Try.prog 45 #[.pointer (some ⟨C, 0, none⟩)] w (DrawnS C a len cap w) := by
  go_enter Try.func45, Try.ntmps45
  go_wp2_with fail
  refine (l1Once_any _ h (by omega) (by omega)).mono ?_
  rintro e w1 ⟨t, rfl, hc1, hg1⟩
  have hC : C < w1.heap.size := lt_of_cell hc1.c0
  cases t
  · go_wp2_with fail
    refine (l2Draw_any hc1).mono ?_
    rintro e w2 ⟨s, hs, rfl, hc2, hg2⟩
    go_wp2
    go_ret
    exact ⟨_, hs, rfl, hc2, grown_step hg1 hg2⟩
  · go_wp2_with fail
    refine (l1Below_any _ (hc1.kept ((Below.refl _ _).alloc (Nat.le_refl _) _)) (by omega) (by omega)).mono ?_
    rintro e w2 ⟨x, ⟨hx, hx2⟩, rfl, hc2, hg2⟩
    have hg : w.grownBy w2 (some C) := grown_step hg1 (grown_step (grown_new (grown_refl _ _) _) hg2)
    have q0 := kept_cell (b := w1.heap.size) (o := 0) hg2 (by go_simp; rfl) (by omega)
    have q1 := kept_cell (b := w1.heap.size) (o := 1) hg2 (by go_simp; rfl) (by omega)
    have q2 := kept_cell (b := w1.heap.size) (o := 2) hg2 (by go_simp; rfl) (by omega)
    have q3 := kept_cell (b := w1.heap.size) (o := 3) hg2 (by go_simp; rfl) (by omega)
    have q4 := kept_cell (b := w1.heap.size) (o := 4) hg2 (by go_simp; rfl) (by omega)
    clear hg1 hg2
    have hx3 : x = 0 ∨ x = 1 ∨ x = 2 ∨ x = 3 ∨ x = 4 := by omega
    rcases hx3 with rfl | rfl | rfl | rfl | rfl
    all_goals
      go_wp2
      go_ret
      exact ⟨_, by decide, rfl, hc2, hg⟩

theorem own_grown {w w' : World} {base : Nat} {e : TypeId} {size : Nat} {v : Value} {n : Nat} {xs : List Value} {row : Option Nat} (h : w.ownsRow base e size v n xs) (hg : w.grownBy w' row)
    (hne : ∀ g, base ≤ g → some g ≠ row) : w'.ownsRow base e size v n xs := by
  refine ⟨h.1, ?_⟩
  rcases h.2 with h0 | ⟨g, cap, cur, hv, hb, hh, hr⟩
  · exact .inl h0
  · refine .inr ⟨g, cap, cur, hv, hb, ?_, hr⟩
    have hlt : g < w.heap.size := by
      rcases Nat.lt_or_ge g w.heap.size with hlt | hge
      · exact hlt
      · rw [Array.getElem?_eq_none hge] at hh; cases hh
    rw [hg.block g hlt (hne g hb)]
    exact hh

/-- A right cursor stays right while a row of the call's own turns. -/
theorem Cur.own {w w' : World} {C B : Nat} {a : Option Addr} {len cap : Nat} {row : Option Nat} (h : Cur w C a len cap) (hg : w.grownBy w' row) (hr : ∀ g, row = some g → B ≤ g) (hC : C < B)
    (ha : ∀ b off, a = some ⟨b, off, none⟩ → 0 < len → b < B) : Cur w' C a len cap := by
  have hb : ∀ b, b < B → b < w.heap.size → w'.heap[b]? = w.heap[b]? := fun b h1 h2 => hg.block b h2 (by intro e; have := hr b e.symm; omega)
  have hCw : C < w.heap.size := lt_of_cell h.c0
  have hcc : ∀ o, w'.cell? ⟨C, o, none⟩ = w.cell? ⟨C, o, none⟩ := fun o => World.cell?_of_block (hb C hC hCw)
  obtain ⟨i, hi, h1⟩ := h.c1
  obtain ⟨q, h2⟩ := h.c2
  refine ⟨by rw [hcc]; exact h.c0, ⟨i, hi, by rw [hcc]; exact h1⟩, ⟨q, by rw [hcc]; exact h2⟩, fun o => by rw [World.frozen?_of_block (hb C hC hCw)]; exact h.fz o, ?_, h.far, h.small⟩
  intro k hk
  obtain ⟨b, off, n, e, h0, h3, hc⟩ := h.row k hk
  exact ⟨b, off, n, e, h0, h3, by rw [World.cell?_of_block (hb b (ha b off e (by omega)) (lt_of_cell hc))]; exact hc⟩

theorem Cur.old {w : World} {C : Nat} {a : Option Addr} {len cap : Nat} (h : Cur w C a len cap) : ∀ b off, a = some ⟨b, off, none⟩ → 0 < len → b < w.heap.size := by
  intro b off e hl
  obtain ⟨b', off', n, e', _, _, hc⟩ := h.row 0 hl
  rw [e] at e'
  injection e' with e'
  injection e' with e1
  subst e1
  exact lt_of_cell hc

/-- What a value that owns strings looks like. -/
theorem own_strs {w : World} {base : Nat} {e : TypeId} {v : Value} {ss : List ByteArray} (h : w.ownsRow base e 1 v ss.length (ss.map .string)) :
    ∃ a cap, v = .slice a ss.length cap ∧ Strs w a ss ∧ ∀ b off, a = some ⟨b, off, none⟩ → base ≤ b := by
  rcases h.2 with ⟨rfl, h0⟩ | ⟨g, cap, cur, rfl, hb, hh, _, _, hs, ht⟩
  · have : ss = [] := List.eq_nil_of_length_eq_zero h0
    subst this
    exact ⟨none, 0, rfl, Lies.nil _ _, fun _ _ e => by cases e⟩
  · refine ⟨_, cap, rfl, ?_, fun b off e => by injection e with e; injection e with e1; omega⟩
    intro k v hk
    have hlt := (List.getElem?_eq_some_iff.1 hk).1
    refine ⟨g, 0, rfl, ?_⟩
    rw [← ht, List.getElem?_take_of_lt (by simpa using hlt)] at hk
    simpa [World.cell?, hh] using hk

theorem own_block {w : World} {base : Nat} {e : TypeId} {size : Nat} {v : Value} {n : Nat} {xs : List Value} (h : w.ownsRow base e size v n xs) : ∀ g, v.ownBlock = some g → base ≤ g := by
  intro g hg
  rcases h.2 with ⟨rfl, _⟩ | ⟨g', cap, cur, rfl, hb, _⟩
  · simp [Value.ownBlock] at hg
  · have : g' = g := by simpa [Value.ownBlock] using hg
    omega
theorem grown_own {a b c : World} {C : Nat} {row : Option Nat} (h : a.grownBy b (some C)) (k : b.grownBy c row) (hr : ∀ g, row = some g → a.heap.size ≤ g) : a.grownBy c (some C) :=
  ⟨k.os.trans h.os, k.tape.trans h.tape, k.output.trans h.output, Nat.le_trans h.size k.size, fun i hi hne => (k.block i (Nat.lt_of_lt_of_le hi h.size) (by intro e; have := hr i e.symm; omega)).trans (h.block i hi hne)⟩
theorem Strs.grown {w w' : World} {C : Nat} {a : Option Addr} {ss : List ByteArray} (h : Strs w a ss) (hg : w.grownBy w' (some C)) (far : ∀ b off, a = some ⟨b, off, none⟩ → b ≠ C) : Strs w' a ss := by
  intro k v hk
  obtain ⟨b, off, rfl, hc⟩ := h k v hk
  exact ⟨b, off, rfl, kept_cell hg hc (far b off rfl)⟩

/-- What a draw of a list of strings leaves. -/
def DrawnL (C : Nat) (a : Option Addr) (len cap : Nat) (w : World) (e : Ending) (w' : World) : Prop :=
  ∃ (b : Option Addr) (c : Nat) (ss : List ByteArray), ss.length ≤ 3 ∧ (∀ s ∈ ss, s.size ≤ 7) ∧ e = .returned (.slice b ss.length c) ∧ Strs w' b ss ∧ (∀ g off, b = some ⟨g, off, none⟩ → w.heap.size ≤ g) ∧ Cur w' C a len cap ∧ w.grownBy w' (some C)

/-- The loop's word: what is drawn so far is the call's own. -/
def ListRel (C : Nat) (a : Option Addr) (len cap : Nat) (w : World) (v i : Value) (wr : World) : Prop :=
  ∃ (k : Nat) (ss : List ByteArray), i = .int .i64 k ∧ ss.length + k ≤ 3 ∧ (∀ s ∈ ss, s.size ≤ 7) ∧ wr.ownsRow w.heap.size 9 1 v ss.length (ss.map .string) ∧ Cur wr C a len cap ∧ w.grownBy wr (some C)

theorem info_str : (Try.prog.info? 9).map (fun i => (i.zero, i.size, i.bytes)) = some (some (.string ByteArray.empty), 1, 16) := by kernel_rfl

theorem strs_lit {w : World} {g : Nat} {xs : List ByteArray} (h : ∀ k v, (xs.map Value.string)[k]? = some v → w.cell? ⟨g, k, none⟩ = some v) : Strs w (some ⟨g, 0, none⟩) xs :=
  fun k v hk => ⟨g, 0, rfl, by rw [Nat.zero_add]; exact h k v hk⟩

def names3 : List ByteArray := [⟨#[97, 110, 110]⟩, ⟨#[98, 111, 98]⟩, ⟨#[109, 105, 97]⟩]
theorem names3_at {w : World} {g : Nat} (q0 : w.cell? ⟨g, 0, none⟩ = some (.string ⟨#[97, 110, 110]⟩)) (q1 : w.cell? ⟨g, 1, none⟩ = some (.string ⟨#[98, 111, 98]⟩)) (q2 : w.cell? ⟨g, 2, none⟩ = some (.string ⟨#[109, 105, 97]⟩)) (n : Nat) :
    Strs w (some ⟨g, 0, none⟩) (names3.take n) := by
  refine strs_lit fun k v hk => ?_
  rw [List.map_take, List.getElem?_take] at hk
  split at hk
  · match k, hk with
    | 0, hk => simp [names3] at hk; subst hk; exact q0
    | 1, hk => simp [names3] at hk; subst hk; exact q1
    | 2, hk => simp [names3] at hk; subst hk; exact q2
    | k + 3, hk => simp [names3] at hk
  · cases hk
theorem names3_small (n : Nat) : ∀ s ∈ names3.take n, s.size ≤ 7 := by
  intro s hs
  have := List.mem_of_mem_take hs
  simp [names3] at this
  rcases this with rfl | rfl | rfl <;> decide

/-- What a draw of a name leaves for a law. -/
def GivesS (w : World) (e : Ending) (w' : World) : Prop := ∃ s : ByteArray, s.size ≤ 7 ∧ e = .returned (.string s) ∧ Below w.heap.size w w'
/-- What a draw of a list of strings leaves for a law. -/
def GivesL (w : World) (e : Ending) (w' : World) : Prop :=
  ∃ (b : Option Addr) (c : Nat) (ss : List ByteArray), ss.length ≤ 3 ∧ (∀ s ∈ ss, s.size ≤ 7) ∧ e = .returned (.slice b ss.length c) ∧ Strs w' b ss ∧ Below w.heap.size w w'
/-- What a draw of a list and a string leaves for a law. -/
def GivesLS (w : World) (e : Ending) (w' : World) : Prop :=
  ∃ (b : Option Addr) (c : Nat) (ss : List ByteArray) (s : ByteArray), ss.length ≤ 3 ∧ (∀ s ∈ ss, s.size ≤ 7) ∧ s.size ≤ 7 ∧ e = .returned (.tuple #[.slice b ss.length c, .string s]) ∧ Strs w' b ss ∧ Below w.heap.size w w'
end Go.Proofs.Ytkdelfadmnpkhaa
