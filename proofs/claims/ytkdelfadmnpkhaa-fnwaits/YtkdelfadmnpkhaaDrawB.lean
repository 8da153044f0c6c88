/-
  The cursor from which the laws draw their inputs: 'l1New' lays it, 'l1Byte', 'l1Below', 'l1Once', 'l1From' read it. Whatever the bytes: each returns a number in its range, only the cursor's own block turns, and the cursor stays right.
-/
import Derived.Test.YtkdelfadmnpkhaaRows
import Derived.WalkKit
import Derived.ProofKit
import Derived.OpenShut
import Derived.Outline
import Derived.WalkLawsBesides
import Derived.Below
import Derived.Lib.Hide
import Derived.Deep.QuietTactic
import Derived.BigQuiet
namespace Go.Proofs.Ytkdelfadmnpkhaa
open Go.ChangeShapes Go.WideShapes Go.ChangeAt Go.RowKit

/-- The bytes that came in: each of the first 'len' is there. -/
def Row (w : World) (a : Option Addr) (len : Nat) : Prop :=
  ∀ k, k < len → ∃ b off n, a = some ⟨b, off, none⟩ ∧ 0 ≤ n ∧ n ≤ 255 ∧ w.cell? ⟨b, off + k, none⟩ = some (.int .u8 n)

/-- A right cursor in block C over the slice (a, len, cap). -/
structure Cur (w : World) (C : Nat) (a : Option Addr) (len cap : Nat) : Prop where
  c0 : w.cell? ⟨C, 0, none⟩ = some (.slice a len cap)
  c1 : ∃ i : Nat, i ≤ len ∧ w.cell? ⟨C, 1, none⟩ = some (.int .i64 i)
  c2 : ∃ h : Int, w.cell? ⟨C, 2, none⟩ = some (.int .i64 h)
  fz : ∀ o, w.frozen? ⟨C, o, none⟩ = false
  row : Row w a len
  far : ∀ b off, a = some ⟨b, off, none⟩ → 0 < len → b ≠ C
  small : len ≤ 4096

/-- What a draw of a number leaves: a number of which P holds; only block C and what is new has turned; the cursor is right. -/
def Drawn (C : Nat) (a : Option Addr) (len cap : Nat) (P : Int → Prop) (w : World) (e : Ending) (w' : World) : Prop :=
  ∃ x : Int, P x ∧ e = .returned (.int .i64 x) ∧ Cur w' C a len cap ∧ w.grownBy w' (some C)

theorem grown_refl (w : World) (row : Option Nat) : w.grownBy w row := ⟨rfl, rfl, rfl, Nat.le_refl _, fun _ _ _ => rfl⟩
theorem grown_step {a b c : World} {row : Option Nat} (h : a.grownBy b row) (k : b.grownBy c row) : a.grownBy c row :=
  ⟨k.os.trans h.os, k.tape.trans h.tape, k.output.trans h.output, Nat.le_trans h.size k.size, fun i hi hne => (k.block i (Nat.lt_of_lt_of_le hi h.size) hne).trans (h.block i hi hne)⟩
theorem grown_draws {a w : World} {row : Option Nat} (h : a.grownBy w row) (n : Nat) : a.grownBy (w.drewN n) row := ⟨h.os, h.tape, h.output, h.size, h.block⟩
theorem grown_set {a w : World} {C : Nat} (h : a.grownBy w (some C)) (o : Nat) (u : Value) : a.grownBy (w.setCell ⟨C, o, none⟩ u) (some C) :=
  ⟨h.os, h.tape, h.output, by simpa [World.setCell] using h.size, fun i hi hne => (Below.heap_setCell w _ u i (by rintro rfl; exact hne rfl)).trans (h.block i hi hne)⟩
theorem grown_new {a w : World} {row : Option Nat} (h : a.grownBy w row) (o : Obj) : a.grownBy (w.alloc o) row :=
  ⟨h.os, h.tape, h.output, Nat.le_trans h.size (by simp), fun i hi hne => (Below.heap_alloc w o i (Nat.lt_of_lt_of_le hi h.size)).trans (h.block i hi hne)⟩
theorem grown_below {a w : World} {C : Nat} (h : a.grownBy w (some C)) {B : Nat} (hB : B ≤ C) (hs : B ≤ a.heap.size) : Below B a w :=
  ⟨h.os, h.tape, h.output, h.size, fun i hi => h.block i (by omega) (by intro e; injection e with e; omega)⟩
theorem below_grown {a w : World} (h : Below a.heap.size a w) (row : Option Nat) : a.grownBy w row := ⟨h.os, h.tape, h.output, h.size, fun i hi _ => h.block i hi⟩

theorem and255 (y : Int) : 0 ≤ bits .and .i64 y 255 ∧ bits .and .i64 y 255 ≤ 255 := by
  have h255 : (BitVec.ofInt 64 255).toNat = 2 ^ 8 - 1 := by decide
  have key : (BitVec.ofInt 64 y &&& BitVec.ofInt 64 255).toNat = (y % ((2 ^ 64 : Nat) : Int)).toNat % 2 ^ 8 := by
    rw [BitVec.toNat_and, BitVec.toNat_ofInt, h255, Nat.and_two_pow_sub_one_eq_mod]
  show 0 ≤ IntKind.i64.wrap ((BitVec.ofInt 64 y &&& BitVec.ofInt 64 255).toNat : Nat) ∧ IntKind.i64.wrap ((BitVec.ofInt 64 y &&& BitVec.ofInt 64 255).toNat : Nat) ≤ 255
  rw [key, IntKind.wrap_i64]
  omega

/-- A cell of another block than the one that was written. -/
theorem cell_far (w : World) (C o : Nat) (v : Value) (p : Addr) (h : p.block ≠ C) : (w.setCell ⟨C, o, none⟩ v).cell? p = w.cell? p :=
  World.cell?_setCell_other _ _ _ _ (by intro e; subst e; exact h rfl)

theorem lt_of_cell {w : World} {b o : Nat} {v : Value} (h : w.cell? ⟨b, o, none⟩ = some v) : b < w.heap.size := by
  by_cases hb : b < w.heap.size
  · exact hb
  · exfalso
    have : w.heap[b]? = none := by simp; omega
    simp [World.cell?, this] at h

theorem Row.grown {w w' : World} {a : Option Addr} {len C : Nat} (h : Row w a len) (hg : w.grownBy w' (some C)) (far : ∀ b off, a = some ⟨b, off, none⟩ → 0 < len → b ≠ C) : Row w' a len := by
  intro k hk
  obtain ⟨b, off, n, rfl, h0, h1, hc⟩ := h k hk
  exact ⟨b, off, n, rfl, h0, h1, hg.cell hc (by intro e; injection e with e; exact far b off rfl (by omega) e)⟩

theorem Row.below {w w' : World} {a : Option Addr} {len : Nat} (h : Row w a len) (hb : Below w.heap.size w w') : Row w' a len := by
  intro k hk
  obtain ⟨b, off, n, rfl, h0, h1, hc⟩ := h k hk
  exact ⟨b, off, n, rfl, h0, h1, by rw [hb.cell (lt_of_cell hc)]; exact hc⟩

/-- A right cursor stays right while blocks other than its own and its slice's are laid or turned. -/
theorem Cur.kept {w w' : World} {C : Nat} {a : Option Addr} {len cap : Nat} (h : Cur w C a len cap) (hb : Below w.heap.size w w') : Cur w' C a len cap := by
  have hC : C < w.heap.size := lt_of_cell h.c0
  obtain ⟨i, hi, h1⟩ := h.c1
  obtain ⟨q, h2⟩ := h.c2
  exact ⟨by rw [hb.cell hC]; exact h.c0, ⟨i, hi, by rw [hb.cell hC]; exact h1⟩, ⟨q, by rw [hb.cell hC]; exact h2⟩, fun o => by rw [hb.frozen hC]; exact h.fz o, h.row.below hb, h.far, h.small⟩

theorem Cur.byte {w w' : World} {C : Nat} {a : Option Addr} {len cap i : Nat} {q : Int} (h : Cur w C a len cap) (hg : w.grownBy w' (some C)) (h0 : w'.cell? ⟨C, 0, none⟩ = some (.slice a len cap))
    (hi : i ≤ len) (h1 : w'.cell? ⟨C, 1, none⟩ = some (.int .i64 i)) (h2 : w'.cell? ⟨C, 2, none⟩ = some (.int .i64 q)) (hf : ∀ o, w'.frozen? ⟨C, o, none⟩ = false) : Cur w' C a len cap :=
  ⟨h0, ⟨i, hi, h1⟩, ⟨q, h2⟩, hf, h.row.grown hg h.far, h.far, h.small⟩

set_option maxHeartbeats 1000000 in
set_option maxRecDepth 100000 in
theorem l1Byte_any {C : Nat} {a : Option Addr} {len cap : Nat} {w : World} (h : Cur w C a len cap) :
    Calls Try.prog 67 #[.pointer (some ⟨C, 0, none⟩)] w (Drawn C a len cap (fun x => 0 ≤ x ∧ x ≤ 255) w) := by
  have H := Lib.hid h
  obtain ⟨c0, ⟨i, hi, c1⟩, ⟨q, c2⟩, fz, row, far, small⟩ := h
  by_cases hlt : i < len
  · obtain ⟨b, off, n, rfl, hn, hn2, hr⟩ := row i hlt
    have hb := far b off rfl (by omega)
    have hr2 : ∀ v, (w.setCell ⟨C, 2, none⟩ v).cell? ⟨b, off + i, none⟩ = some (.int .u8 n) := fun v => by rw [cell_far _ _ _ _ _ hb]; exact hr
    clear row far
    go_enter Try.func67, Try.ntmps67
    go_wp2
    go_quiet (fail)
    go_wp2
    go_quiet (fail)
    go_wp2
    go_quiet (fail)
    go_wp2
    go_ret
    refine ⟨_, and255 _, rfl, H.out.byte (i := i + 1) ?_ ?_ (by omega) ?_ (by go_simp; rfl) ?_, ?_⟩
    · repeat (first | exact grown_refl _ _ | apply grown_draws | apply grown_set)
    · go_simp
    · go_simp
    · intro o; have := fz o; go_simp
    · repeat (first | exact grown_refl _ _ | apply grown_draws | apply grown_set)
  · clear row far
    go_enter Try.func67, Try.ntmps67
    go_wp2
    go_quiet (fail)
    go_wp2
    go_quiet (fail)
    go_wp2
    go_ret
    refine ⟨_, and255 _, rfl, H.out.byte (i := i) ?_ ?_ (by omega) ?_ (by go_simp; rfl) ?_, ?_⟩
    · repeat (first | exact grown_refl _ _ | apply grown_draws | apply grown_set)
    · go_simp
    · go_simp
    · intro o; have := fz o; go_simp
    · repeat (first | exact grown_refl _ _ | apply grown_draws | apply grown_set)

theorem Drawn.mono {C : Nat} {a : Option Addr} {len cap : Nat} {P Q : Int → Prop} {w : World} (h : ∀ x, P x → Q x) : ∀ e w', Drawn C a len cap P w e w' → Drawn C a len cap Q w e w' :=
  fun _ _ ⟨x, hx, he, hc, hg⟩ => ⟨x, h x hx, he, hc, hg⟩

set_option maxHeartbeats 1000000 in
set_option maxRecDepth 100000 in
theorem l1Below_any {C : Nat} {a : Option Addr} {len cap : Nat} {w : World} (n : Int) (h : Cur w C a len cap) (hn : 1 ≤ n) (hn2 : n ≤ 9223372036854775807) :
    Calls Try.prog 51 #[.pointer (some ⟨C, 0, none⟩), .int .i64 n] w (Drawn C a len cap (fun x => 0 ≤ x ∧ x < n) w) := by
  by_cases hs : n ≤ 256
  · go_enter Try.func51, Try.ntmps51
    go_wp2_with fail
    refine (l1Byte_any h).mono ?_
    rintro e w1 ⟨x, ⟨hx, hx2⟩, rfl, hc1, hg1⟩
    go_wp2
    go_ret
    exact ⟨_, ⟨Int.emod_nonneg _ (by omega), Int.emod_lt_of_pos _ (by omega)⟩, rfl, hc1, hg1⟩
  · go_enter Try.func51, Try.ntmps51
    go_wp2_with fail
    refine (l1Byte_any h).mono ?_
    rintro e w1 ⟨x, ⟨hx, hx2⟩, rfl, hc1, hg1⟩
    go_wp2_with fail
    refine (l1Byte_any hc1).mono ?_
    rintro e w2 ⟨y, ⟨hy, hy2⟩, rfl, hc2, hg2⟩
    go_wp2_with fail
    refine (l1Byte_any hc2).mono ?_
    rintro e w3 ⟨z, ⟨hz, hz2⟩, rfl, hc3, hg3⟩
    go_wp2_with fail
    refine (l1Byte_any hc3).mono ?_
    rintro e w4 ⟨t, ⟨ht, ht2⟩, rfl, hc4, hg4⟩
    go_wp2
    go_ret
    exact ⟨_, ⟨Int.emod_nonneg _ (by omega), Int.emod_lt_of_pos _ (by omega)⟩, rfl, hc4, grown_step (grown_step (grown_step hg1 hg2) hg3) hg4⟩

theorem l1Once_any {C : Nat} {a : Option Addr} {len cap : Nat} {w : World} (n : Int) (h : Cur w C a len cap) (hn : 1 ≤ n) (hn2 : n ≤ 9223372036854775807) :
    Calls Try.prog 52 #[.pointer (some ⟨C, 0, none⟩), .int .i64 n] w fun e w' => ∃ t : Bool, e = .returned (.bool t) ∧ Cur w' C a len cap ∧ w.grownBy w' (some C) := by
  go_enter Try.func52, Try.ntmps52
  go_wp2_with fail
  refine (l1Below_any n h hn hn2).mono ?_
  rintro e w1 ⟨x, ⟨hx, hx2⟩, rfl, hc1, hg1⟩
  go_wp2
  go_ret
  exact ⟨_, rfl, hc1, hg1⟩

/-- What 'l1New' leaves: a right cursor in the block behind all that was there. -/
def NewCur (a : Option Addr) (len cap : Nat) (w : World) (e : Ending) (w' : World) : Prop :=
  e = .returned (.pointer (some ⟨w.heap.size, 0, none⟩)) ∧ Cur w' w.heap.size a len cap ∧ Below w.heap.size w w'

theorem new_cur {w : World} {a : Option Addr} {len cap : Nat} (h : Row w a len) (hs : len ≤ 4096) (q : Int) (T : TypeId) :
    Cur (w.alloc (.cells #[.slice a len cap, .int .i64 0, .int .i64 q] T)) w.heap.size a len cap :=
  ⟨by go_simp, ⟨0, by omega, by go_simp⟩, ⟨q, by go_simp⟩, fun o => by go_simp, h.below ((Below.refl _ _).alloc (Nat.le_refl _) _), fun b off e hl => by obtain ⟨b', off', n, e', _, _, hc⟩ := h 0 hl; have := lt_of_cell hc; rw [e] at e'; injection e' with e'; injection e' with e1; omega, hs⟩

set_option maxHeartbeats 1000000 in
set_option maxRecDepth 100000 in
theorem l1New_any {a : Option Addr} {len cap : Nat} {w : World} (h : Row w a len) (hs : len ≤ 4096) :
    Calls Try.prog 36 #[.slice a len cap] w (NewCur a len cap w) := by
  have HR := Lib.hid h
  go_enter Try.func36, Try.ntmps36
  go_wp2
  go_loop [3, 4] (fun t i => ∃ (k : Nat) (q : Int), k ≤ len ∧ i = .int .i64 k ∧ t = .int .i64 q) (fun _ i => len - (intOf i).toNat)
  case atStart => exact ⟨0, _, Nat.zero_le _, rfl, rfl⟩
  case round =>
    obtain ⟨k, q, hk, rfl, rfl⟩ := hrel
    by_cases hlt : k < len
    · obtain ⟨b, off, n, rfl, hn, hn2, hc⟩ := h k hlt
      clear h
      go_wp2
      go_round
      case rel => exact ⟨k + 1, _, by omega, by go_num, rfl⟩
      case measure => simp [intOf]; omega
    · clear h
      go_wp2
      go_ret
      exact ⟨rfl, new_cur HR.out hs _ _, (Below.refl _ _).alloc (Nat.le_refl _) _⟩
theorem big_any (a : Option Addr) (len cap : Nat) (w : World) (h : len ≤ 4096) :
    Calls Try.prog 11 #[.slice a len cap] w fun e w' => e = .returned (.bool false) ∧ w = w' := by
  have hd : decide ((4096 : Int) < (len : Int)) = false := by simp; omega
  go_enter Try.func11, Try.ntmps11
  go_wp2
  go_ret
  exact ⟨rfl, rfl⟩

theorem big_yes (a : Option Addr) (len cap : Nat) (w : World) (h : ¬ len ≤ 4096) :
    Calls Try.prog 11 #[.slice a len cap] w fun e w' => e = .returned (.bool true) ∧ w = w' := by
  have hd : decide ((4096 : Int) < (len : Int)) = true := by simp; omega
  go_enter Try.func11, Try.ntmps11
  go_wp2
  go_ret
  exact ⟨rfl, rfl⟩

/-- A cell of a block that a draw does not turn. -/
theorem kept_cell {w w' : World} {C b o : Nat} {v : Value} (hg : w.grownBy w' (some C)) (h : w.cell? ⟨b, o, none⟩ = some v) (hne : b ≠ C) : w'.cell? ⟨b, o, none⟩ = some v :=
  hg.cell h (by intro e; injection e with e; exact hne e)

/-- What came in can be drawn from. -/
structure Src (w : World) (a : Option Addr) (len : Nat) : Prop where
  row : Row w a len
  small : len ≤ 4096

theorem Src.kept {w w' : World} {a : Option Addr} {len : Nat} (h : Src w a len) (hb : Below w.heap.size w w') : Src w' a len :=
  ⟨h.row.below hb, h.small⟩

theorem below_of {w w1 w2 : World} (hb : Below w.heap.size w w1) (hg : w1.grownBy w2 (some w.heap.size)) : Below w.heap.size w w2 :=
  hb.trans (grown_below hg (Nat.le_refl _) hb.size)

end Go.Proofs.Ytkdelfadmnpkhaa
