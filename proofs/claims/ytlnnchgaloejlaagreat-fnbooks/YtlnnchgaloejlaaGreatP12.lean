/-
  Texts joined: DrawB, Draw2, BoxD, MarkTwo, BookM.
-/
import Derived.Test.YtlnnchgaloejlaaGreatP1
import Derived.Test.YtlnnchgaloejlaaGreatP4
import Derived.WalkKit
import Derived.ProofKit
import Derived.OpenShut
import Derived.Outline
import Derived.WalkLawsBesides
import Derived.Below
import Derived.Lib.Hide
import Derived.Deep.QuietTactic
import Derived.BigQuiet
import Derived.Deep.AppendLies
import Derived.OwnWalk
namespace Go.Proofs.YtlnnchgaloejlaaGreat
open Go.ChangeShapes Go.WideShapes Go.ChangeAt Go.RowKit

/-- The bytes that came in: each of the first 'len' is there. -/
def Row (w : World) (a : Option Addr) (len : Nat) : Prop :=
  ∀ k, k < len → ∃ b off n, a = some ⟨b, off, none⟩ ∧ 0 ≤ n ∧ n ≤ 255 ∧ w.cell? ⟨b, off + k, none⟩ = some (.int .u8 n)

/-- A right cursor in block C over the slice (a, len, cap). -/
structure Cur (w : World) (C : Nat) (a : Option Addr) (len cap : Nat) : Prop where
  c0 : w.cell? ⟨C, 0, none⟩ = some (.slice a len cap)
  c1 : ∃ i : Nat, i ≤ len ∧ w.cell? ⟨C, 1, none⟩ = some (.int .i64 i)
  c2 : ∃ h : Int, w.cell? ⟨C, 2, none⟩ = some (.int .i64 h)
  fz : ∀ o, w.frozen? ⟨C, o, none⟩ = false
  row : Row w a len
  far : ∀ b off, a = some ⟨b, off, none⟩ → 0 < len → b ≠ C
  small : len ≤ 4096

/-- What a draw of a number leaves: a number of which P holds; only block C and what is new has turned; the cursor is right. -/
def Drawn (C : Nat) (a : Option Addr) (len cap : Nat) (P : Int → Prop) (w : World) (e : Ending) (w' : World) : Prop :=
  ∃ x : Int, P x ∧ e = .returned (.int .i64 x) ∧ Cur w' C a len cap ∧ w.grownBy w' (some C)

theorem grown_refl (w : World) (row : Option Nat) : w.grownBy w row := ⟨rfl, rfl, rfl, Nat.le_refl _, fun _ _ _ => rfl⟩
theorem grown_step {a b c : World} {row : Option Nat} (h : a.grownBy b row) (k : b.grownBy c row) : a.grownBy c row :=
  ⟨k.os.trans h.os, k.tape.trans h.tape, k.output.trans h.output, Nat.le_trans h.size k.size, fun i hi hne => (k.block i (Nat.lt_of_lt_of_le hi h.size) hne).trans (h.block i hi hne)⟩
theorem grown_draws {a w : World} {row : Option Nat} (h : a.grownBy w row) (n : Nat) : a.grownBy (w.drewN n) row := ⟨h.os, h.tape, h.output, h.size, h.block⟩
theorem grown_set {a w : World} {C : Nat} (h : a.grownBy w (some C)) (o : Nat) (u : Value) : a.grownBy (w.setCell ⟨C, o, none⟩ u) (some C) :=
  ⟨h.os, h.tape, h.output, by simpa [World.setCell] using h.size, fun i hi hne => (Below.heap_setCell w _ u i (by rintro rfl; exact hne rfl)).trans (h.block i hi hne)⟩
theorem grown_new {a w : World} {row : Option Nat} (h : a.grownBy w row) (o : Obj) : a.grownBy (w.alloc o) row :=
  ⟨h.os, h.tape, h.output, Nat.le_trans h.size (by simp), fun i hi hne => (Below.heap_alloc w o i (Nat.lt_of_lt_of_le hi h.size)).trans (h.block i hi hne)⟩
theorem grown_below {a w : World} {C : Nat} (h : a.grownBy w (some C)) {B : Nat} (hB : B ≤ C) (hs : B ≤ a.heap.size) : Below B a w :=
  ⟨h.os, h.tape, h.output, h.size, fun i hi => h.block i (by omega) (by intro e; injection e with e; omega)⟩
theorem below_grown {a w : World} (h : Below a.heap.size a w) (row : Option Nat) : a.grownBy w row := ⟨h.os, h.tape, h.output, h.size, fun i hi _ => h.block i hi⟩

theorem and255 (y : Int) : 0 ≤ bits .and .i64 y 255 ∧ bits .and .i64 y 255 ≤ 255 := by
  have h255 : (BitVec.ofInt 64 255).toNat = 2 ^ 8 - 1 := by decide
  have key : (BitVec.ofInt 64 y &&& BitVec.ofInt 64 255).toNat = (y % ((2 ^ 64 : Nat) : Int)).toNat % 2 ^ 8 := by
    rw [BitVec.toNat_and, BitVec.toNat_ofInt, h255, Nat.and_two_pow_sub_one_eq_mod]
  show 0 ≤ IntKind.i64.wrap ((BitVec.ofInt 64 y &&& BitVec.ofInt 64 255).toNat : Nat) ∧ IntKind.i64.wrap ((BitVec.ofInt 64 y &&& BitVec.ofInt 64 255).toNat : Nat) ≤ 255
  rw [key, IntKind.wrap_i64]
  omega

/-- A cell of another block than the one that was written. -/
theorem cell_far (w : World) (C o : Nat) (v : Value) (p : Addr) (h : p.block ≠ C) : (w.setCell ⟨C, o, none⟩ v).cell? p = w.cell? p :=
  World.cell?_setCell_other _ _ _ _ (by intro e; subst e; exact h rfl)

theorem lt_of_cell {w : World} {b o : Nat} {v : Value} (h : w.cell? ⟨b, o, none⟩ = some v) : b < w.heap.size := by
  by_cases hb : b < w.heap.size
  · exact hb
  · exfalso
    have : w.heap[b]? = none := by simp; omega
    simp [World.cell?, this] at h

theorem Row.grown {w w' : World} {a : Option Addr} {len C : Nat} (h : Row w a len) (hg : w.grownBy w' (some C)) (far : ∀ b off, a = some ⟨b, off, none⟩ → 0 < len → b ≠ C) : Row w' a len := by
  intro k hk
  obtain ⟨b, off, n, rfl, h0, h1, hc⟩ := h k hk
  exact ⟨b, off, n, rfl, h0, h1, hg.cell hc (by intro e; injection e with e; exact far b off rfl (by omega) e)⟩

theorem Row.below {w w' : World} {a : Option Addr} {len : Nat} (h : Row w a len) (hb : Below w.heap.size w w') : Row w' a len := by
  intro k hk
  obtain ⟨b, off, n, rfl, h0, h1, hc⟩ := h k hk
  exact ⟨b, off, n, rfl, h0, h1, by rw [hb.cell (lt_of_cell hc)]; exact hc⟩

/-- A right cursor stays right while blocks other than its own and its slice's are laid or turned. -/
theorem Cur.kept {w w' : World} {C : Nat} {a : Option Addr} {len cap : Nat} (h : Cur w C a len cap) (hb : Below w.heap.size w w') : Cur w' C a len cap := by
  have hC : C < w.heap.size := lt_of_cell h.c0
  obtain ⟨i, hi, h1⟩ := h.c1
  obtain ⟨q, h2⟩ := h.c2
  exact ⟨by rw [hb.cell hC]; exact h.c0, ⟨i, hi, by rw [hb.cell hC]; exact h1⟩, ⟨q, by rw [hb.cell hC]; exact h2⟩, fun o => by rw [hb.frozen hC]; exact h.fz o, h.row.below hb, h.far, h.small⟩

theorem Cur.byte {w w' : World} {C : Nat} {a : Option Addr} {len cap i : Nat} {q : Int} (h : Cur w C a len cap) (hg : w.grownBy w' (some C)) (h0 : w'.cell? ⟨C, 0, none⟩ = some (.slice a len cap))
    (hi : i ≤ len) (h1 : w'.cell? ⟨C, 1, none⟩ = some (.int .i64 i)) (h2 : w'.cell? ⟨C, 2, none⟩ = some (.int .i64 q)) (hf : ∀ o, w'.frozen? ⟨C, o, none⟩ = false) : Cur w' C a len cap :=
  ⟨h0, ⟨i, hi, h1⟩, ⟨q, h2⟩, hf, h.row.grown hg h.far, h.far, h.small⟩

set_option maxHeartbeats 1000000 in
set_option maxRecDepth 100000 in
theorem l1Byte_any {C : Nat} {a : Option Addr} {len cap : Nat} {w : World} (h : Cur w C a len cap) :
    Calls Tryz.prog 88 #[.pointer (some ⟨C, 0, none⟩)] w (Drawn C a len cap (fun x => 0 ≤ x ∧ x ≤ 255) w) := by
  have H := Lib.hid h
  obtain ⟨c0, ⟨i, hi, c1⟩, ⟨q, c2⟩, fz, row, far, small⟩ := h
  by_cases hlt : i < len
  · obtain ⟨b, off, n, rfl, hn, hn2, hr⟩ := row i hlt
    have hb := far b off rfl (by omega)
    have hr2 : ∀ v, (w.setCell ⟨C, 2, none⟩ v).cell? ⟨b, off + i, none⟩ = some (.int .u8 n) := fun v => by rw [cell_far _ _ _ _ _ hb]; exact hr
    clear row far
    go_enter Tryz.func88, Tryz.ntmps88
    go_wp2
    go_quiet (fail)
    go_wp2
    go_quiet (fail)
    go_wp2
    go_quiet (fail)
    go_wp2
    go_ret
    refine ⟨_, and255 _, rfl, H.out.byte (i := i + 1) ?_ ?_ (by omega) ?_ (by go_simp; rfl) ?_, ?_⟩
    · repeat (first | exact grown_refl _ _ | apply grown_draws | apply grown_set)
    · go_simp
    · go_simp
    · intro o; have := fz o; go_simp
    · repeat (first | exact grown_refl _ _ | apply grown_draws | apply grown_set)
  · clear row far
    go_enter Tryz.func88, Tryz.ntmps88
    go_wp2
    go_quiet (fail)
    go_wp2
    go_quiet (fail)
    go_wp2
    go_ret
    refine ⟨_, and255 _, rfl, H.out.byte (i := i) ?_ ?_ (by omega) ?_ (by go_simp; rfl) ?_, ?_⟩
    · repeat (first | exact grown_refl _ _ | apply grown_draws | apply grown_set)
    · go_simp
    · go_simp
    · intro o; have := fz o; go_simp
    · repeat (first | exact grown_refl _ _ | apply grown_draws | apply grown_set)

theorem Drawn.mono {C : Nat} {a : Option Addr} {len cap : Nat} {P Q : Int → Prop} {w : World} (h : ∀ x, P x → Q x) : ∀ e w', Drawn C a len cap P w e w' → Drawn C a len cap Q w e w' :=
  fun _ _ ⟨x, hx, he, hc, hg⟩ => ⟨x, h x hx, he, hc, hg⟩

set_option maxHeartbeats 1000000 in
set_option maxRecDepth 100000 in
theorem l1Below_any {C : Nat} {a : Option Addr} {len cap : Nat} {w : World} (n : Int) (h : Cur w C a len cap) (hn : 1 ≤ n) (hn2 : n ≤ 9223372036854775807) :
    Calls Tryz.prog 51 #[.pointer (some ⟨C, 0, none⟩), .int .i64 n] w (Drawn C a len cap (fun x => 0 ≤ x ∧ x < n) w) := by
  by_cases hs : n ≤ 256
  · go_enter Tryz.func51, Tryz.ntmps51
    go_wp2_with fail
    refine (l1Byte_any h).mono ?_
    rintro e w1 ⟨x, ⟨hx, hx2⟩, rfl, hc1, hg1⟩
    go_wp2
    go_ret
    exact ⟨_, ⟨Int.emod_nonneg _ (by omega), Int.emod_lt_of_pos _ (by omega)⟩, rfl, hc1, hg1⟩
  · go_enter Tryz.func51, Tryz.ntmps51
    go_wp2_with fail
    refine (l1Byte_any h).mono ?_
    rintro e w1 ⟨x, ⟨hx, hx2⟩, rfl, hc1, hg1⟩
    go_wp2_with fail
    refine (l1Byte_any hc1).mono ?_
    rintro e w2 ⟨y, ⟨hy, hy2⟩, rfl, hc2, hg2⟩
    go_wp2_with fail
    refine (l1Byte_any hc2).mono ?_
    rintro e w3 ⟨z, ⟨hz, hz2⟩, rfl, hc3, hg3⟩
    go_wp2_with fail
    refine (l1Byte_any hc3).mono ?_
    rintro e w4 ⟨t, ⟨ht, ht2⟩, rfl, hc4, hg4⟩
    go_wp2
    go_ret
    exact ⟨_, ⟨Int.emod_nonneg _ (by omega), Int.emod_lt_of_pos _ (by omega)⟩, rfl, hc4, grown_step (grown_step (grown_step hg1 hg2) hg3) hg4⟩

theorem l1Once_any {C : Nat} {a : Option Addr} {len cap : Nat} {w : World} (n : Int) (h : Cur w C a len cap) (hn : 1 ≤ n) (hn2 : n ≤ 9223372036854775807) :
    Calls Tryz.prog 50 #[.pointer (some ⟨C, 0, none⟩), .int .i64 n] w fun e w' => ∃ t : Bool, e = .returned (.bool t) ∧ Cur w' C a len cap ∧ w.grownBy w' (some C) := by
  go_enter Tryz.func50, Tryz.ntmps50
  go_wp2_with fail
  refine (l1Below_any n h hn hn2).mono ?_
  rintro e w1 ⟨x, ⟨hx, hx2⟩, rfl, hc1, hg1⟩
  go_wp2
  go_ret
  exact ⟨_, rfl, hc1, hg1⟩

/-- What 'l1New' leaves: a right cursor in the block behind all that was there. -/
def NewCur (a : Option Addr) (len cap : Nat) (w : World) (e : Ending) (w' : World) : Prop :=
  e = .returned (.pointer (some ⟨w.heap.size, 0, none⟩)) ∧ Cur w' w.heap.size a len cap ∧ Below w.heap.size w w'

theorem new_cur {w : World} {a : Option Addr} {len cap : Nat} (h : Row w a len) (hs : len ≤ 4096) (q : Int) (T : TypeId) :
    Cur (w.alloc (.cells #[.slice a len cap, .int .i64 0, .int .i64 q] T)) w.heap.size a len cap :=
  ⟨by go_simp, ⟨0, by omega, by go_simp⟩, ⟨q, by go_simp⟩, fun o => by go_simp, h.below ((Below.refl _ _).alloc (Nat.le_refl _) _), fun b off e hl => by obtain ⟨b', off', n, e', _, _, hc⟩ := h 0 hl; have := lt_of_cell hc; rw [e] at e'; injection e' with e'; injection e' with e1; omega, hs⟩

set_option maxHeartbeats 1000000 in
set_option maxRecDepth 100000 in
theorem l1New_any {a : Option Addr} {len cap : Nat} {w : World} (h : Row w a len) (hs : len ≤ 4096) :
    Calls Tryz.prog 17 #[.slice a len cap] w (NewCur a len cap w) := by
  have HR := Lib.hid h
  go_enter Tryz.func17, Tryz.ntmps17
  go_wp2
  go_loop [3, 4] (fun t i => ∃ (k : Nat) (q : Int), k ≤ len ∧ i = .int .i64 k ∧ t = .int .i64 q) (fun _ i => len - (intOf i).toNat)
  case atStart => exact ⟨0, _, Nat.zero_le _, rfl, rfl⟩
  case round =>
    obtain ⟨k, q, hk, rfl, rfl⟩ := hrel
    by_cases hlt : k < len
    · obtain ⟨b, off, n, rfl, hn, hn2, hc⟩ := h k hlt
      clear h
      go_wp2
      go_round
      case rel => exact ⟨k + 1, _, by omega, by go_num, rfl⟩
      case measure => simp [intOf]; omega
    · clear h
      go_wp2
      go_ret
      exact ⟨rfl, new_cur HR.out hs _ _, (Below.refl _ _).alloc (Nat.le_refl _) _⟩
theorem big_any (a : Option Addr) (len cap : Nat) (w : World) (h : len ≤ 4096) :
    Calls Tryz.prog 4 #[.slice a len cap] w fun e w' => e = .returned (.bool false) ∧ w = w' := by
  have hd : decide ((4096 : Int) < (len : Int)) = false := by simp; omega
  go_enter Tryz.func4, Tryz.ntmps4
  go_wp2
  go_ret
  exact ⟨rfl, rfl⟩

theorem big_yes (a : Option Addr) (len cap : Nat) (w : World) (h : ¬ len ≤ 4096) :
    Calls Tryz.prog 4 #[.slice a len cap] w fun e w' => e = .returned (.bool true) ∧ w = w' := by
  have hd : decide ((4096 : Int) < (len : Int)) = true := by simp; omega
  go_enter Tryz.func4, Tryz.ntmps4
  go_wp2
  go_ret
  exact ⟨rfl, rfl⟩

/-- A cell of a block that a draw does not turn. -/
theorem kept_cell {w w' : World} {C b o : Nat} {v : Value} (hg : w.grownBy w' (some C)) (h : w.cell? ⟨b, o, none⟩ = some v) (hne : b ≠ C) : w'.cell? ⟨b, o, none⟩ = some v :=
  hg.cell h (by intro e; injection e with e; exact hne e)

/-- What came in can be drawn from. -/
structure Src (w : World) (a : Option Addr) (len : Nat) : Prop where
  row : Row w a len
  small : len ≤ 4096

theorem Src.kept {w w' : World} {a : Option Addr} {len : Nat} (h : Src w a len) (hb : Below w.heap.size w w') : Src w' a len :=
  ⟨h.row.below hb, h.small⟩

theorem below_of {w w1 w2 : World} (hb : Below w.heap.size w w1) (hg : w1.grownBy w2 (some w.heap.size)) : Below w.heap.size w w2 :=
  hb.trans (grown_below hg (Nat.le_refl _) hb.size)

end Go.Proofs.YtlnnchgaloejlaaGreat
namespace Go.Proofs.YtlnnchgaloejlaaGreat
open Go.ChangeShapes Go.WideShapes Go.ChangeAt Go.RowKit

/-- What a draw of a string leaves. -/
def DrawnS (C : Nat) (a : Option Addr) (len cap : Nat) (w : World) (e : Ending) (w' : World) : Prop :=
  ∃ s : ByteArray, s.size ≤ 7 ∧ e = .returned (.string s) ∧ Cur w' C a len cap ∧ w.grownBy w' (some C)

set_option maxHeartbeats 1000000 in
set_option maxRecDepth 100000 in
theorem l2Draw_any {C : Nat} {a : Option Addr} {len cap : Nat} {w : World} (h : Cur w C a len cap) :
    Calls Tryz.prog 57 #[.pointer (some ⟨C, 0, none⟩)] w (DrawnS C a len cap w) := by
  have hC : C < w.heap.size := lt_of_cell h.c0
  go_enter Tryz.func57, Tryz.ntmps57
  go_wp2_with fail
  refine (l1Below_any _ (h.kept ((Below.refl _ _).alloc (Nat.le_refl _) _)) (by omega) (by omega)).mono ?_
  rintro e w2 ⟨x, ⟨hx, hx2⟩, rfl, hc2, hg2⟩
  have hg : w.grownBy w2 (some C) := grown_step (grown_new (grown_refl _ _) _) hg2
  have q0 := kept_cell (b := w.heap.size) (o := 0) hg2 (by go_simp; rfl) (by omega)
  have q1 := kept_cell (b := w.heap.size) (o := 1) hg2 (by go_simp; rfl) (by omega)
  have q2 := kept_cell (b := w.heap.size) (o := 2) hg2 (by go_simp; rfl) (by omega)
  clear hg2
  have hx3 : x = 0 ∨ x = 1 ∨ x = 2 := by omega
  rcases hx3 with rfl | rfl | rfl
  all_goals
    go_wp2
    go_ret
    exact ⟨_, by decide, rfl, hc2, hg⟩

set_option maxHeartbeats 1000000 in
set_option maxRecDepth 100000 in
theorem l2DrawAny_any {C : Nat} {a : Option Addr} {len cap : Nat} {w : World} (h : Cur w C a len cap) :
    Calls Tryz.prog 19 #[.pointer (some ⟨C, 0, none⟩)] w (DrawnS C a len cap w) := by
  go_enter Tryz.func19, Tryz.ntmps19
  go_wp2_with fail
  refine (l1Once_any _ h (by omega) (by omega)).mono ?_
  rintro e w1 ⟨t, rfl, hc1, hg1⟩
  have hC : C < w1.heap.size := lt_of_cell hc1.c0
  cases t
  · go_wp2_with fail
    refine (l2Draw_any hc1).mono ?_
    rintro e w2 ⟨s, hs, rfl, hc2, hg2⟩
    go_wp2
    go_ret
    exact ⟨_, hs, rfl, hc2, grown_step hg1 hg2⟩
  · go_wp2_with fail
    refine (l1Below_any _ (hc1.kept ((Below.refl _ _).alloc (Nat.le_refl _) _)) (by omega) (by omega)).mono ?_
    rintro e w2 ⟨x, ⟨hx, hx2⟩, rfl, hc2, hg2⟩
    have hg : w.grownBy w2 (some C) := grown_step hg1 (grown_step (grown_new (grown_refl _ _) _) hg2)
    have q0 := kept_cell (b := w1.heap.size) (o := 0) hg2 (by go_simp; rfl) (by omega)
    have q1 := kept_cell (b := w1.heap.size) (o := 1) hg2 (by go_simp; rfl) (by omega)
    have q2 := kept_cell (b := w1.heap.size) (o := 2) hg2 (by go_simp; rfl) (by omega)
    have q3 := kept_cell (b := w1.heap.size) (o := 3) hg2 (by go_simp; rfl) (by omega)
    have q4 := kept_cell (b := w1.heap.size) (o := 4) hg2 (by go_simp; rfl) (by omega)
    clear hg1 hg2
    have hx3 : x = 0 ∨ x = 1 ∨ x = 2 ∨ x = 3 ∨ x = 4 := by omega
    rcases hx3 with rfl | rfl | rfl | rfl | rfl
    all_goals
      go_wp2
      go_ret
      exact ⟨_, by decide, rfl, hc2, hg⟩

theorem own_grown {w w' : World} {base : Nat} {e : TypeId} {size : Nat} {v : Value} {n : Nat} {xs : List Value} {row : Option Nat} (h : w.ownsRow base e size v n xs) (hg : w.grownBy w' row)
    (hne : ∀ g, base ≤ g → some g ≠ row) : w'.ownsRow base e size v n xs := by
  refine ⟨h.1, ?_⟩
  rcases h.2 with h0 | ⟨g, cap, cur, hv, hb, hh, hr⟩
  · exact .inl h0
  · refine .inr ⟨g, cap, cur, hv, hb, ?_, hr⟩
    have hlt : g < w.heap.size := by
      rcases Nat.lt_or_ge g w.heap.size with hlt | hge
      · exact hlt
      · rw [Array.getElem?_eq_none hge] at hh; cases hh
    rw [hg.block g hlt (hne g hb)]
    exact hh

/-- A right cursor stays right while a row of the call's own turns. -/
theorem Cur.own {w w' : World} {C B : Nat} {a : Option Addr} {len cap : Nat} {row : Option Nat} (h : Cur w C a len cap) (hg : w.grownBy w' row) (hr : ∀ g, row = some g → B ≤ g) (hC : C < B)
    (ha : ∀ b off, a = some ⟨b, off, none⟩ → 0 < len → b < B) : Cur w' C a len cap := by
  have hb : ∀ b, b < B → b < w.heap.size → w'.heap[b]? = w.heap[b]? := fun b h1 h2 => hg.block b h2 (by intro e; have := hr b e.symm; omega)
  have hCw : C < w.heap.size := lt_of_cell h.c0
  have hcc : ∀ o, w'.cell? ⟨C, o, none⟩ = w.cell? ⟨C, o, none⟩ := fun o => World.cell?_of_block (hb C hC hCw)
  obtain ⟨i, hi, h1⟩ := h.c1
  obtain ⟨q, h2⟩ := h.c2
  refine ⟨by rw [hcc]; exact h.c0, ⟨i, hi, by rw [hcc]; exact h1⟩, ⟨q, by rw [hcc]; exact h2⟩, fun o => by rw [World.frozen?_of_block (hb C hC hCw)]; exact h.fz o, ?_, h.far, h.small⟩
  intro k hk
  obtain ⟨b, off, n, e, h0, h3, hc⟩ := h.row k hk
  exact ⟨b, off, n, e, h0, h3, by rw [World.cell?_of_block (hb b (ha b off e (by omega)) (lt_of_cell hc))]; exact hc⟩

theorem Cur.old {w : World} {C : Nat} {a : Option Addr} {len cap : Nat} (h : Cur w C a len cap) : ∀ b off, a = some ⟨b, off, none⟩ → 0 < len → b < w.heap.size := by
  intro b off e hl
  obtain ⟨b', off', n, e', _, _, hc⟩ := h.row 0 hl
  rw [e] at e'
  injection e' with e'
  injection e' with e1
  subst e1
  exact lt_of_cell hc

theorem grown_own {a b c : World} {C : Nat} {row : Option Nat} (h : a.grownBy b (some C)) (k : b.grownBy c row) (hr : ∀ g, row = some g → a.heap.size ≤ g) : a.grownBy c (some C) :=
  ⟨k.os.trans h.os, k.tape.trans h.tape, k.output.trans h.output, Nat.le_trans h.size k.size, fun i hi hne => (k.block i (Nat.lt_of_lt_of_le hi h.size) (by intro e; have := hr i e.symm; omega)).trans (h.block i hi hne)⟩
theorem Strs.grown {w w' : World} {C : Nat} {a : Option Addr} {ss : List ByteArray} (h : Strs w a ss) (hg : w.grownBy w' (some C)) (far : ∀ b off, a = some ⟨b, off, none⟩ → b ≠ C) : Strs w' a ss := by
  intro k v hk
  obtain ⟨b, off, rfl, hc⟩ := h k v hk
  exact ⟨b, off, rfl, kept_cell hg hc (far b off rfl)⟩

end Go.Proofs.YtlnnchgaloejlaaGreat
namespace Go.Proofs.YtlnnchgaloejlaaGreat
open Go.ChangeShapes Go.WideShapes Go.ChangeAt Go.RowKit

theorem undrew {W w2 : World} {row : Option Nat} (h : W.drew.grownBy w2 row) : W.grownBy w2 row := ⟨h.os, h.tape, h.output, h.size, h.block⟩

/-- Block M holds vs, block R has room for the answer; the cursor is right; nothing else has turned. -/
structure Box (w : World) (C : Nat) (a : Option Addr) (len cap : Nat) (R M c : Nat) (vs : List Value) (wk : World) : Prop where
  is : ∀ j v, vs[j]? = some v → wk.cell? ⟨M, j, none⟩ = some v
  fm : ∀ o, wk.frozen? ⟨M, o, none⟩ = false
  room : Mine wk R 0 c
  cur : Cur wk C a len cap
  grown : w.grownBy wk (some C)
  rlo : w.heap.size ≤ R
  rhi : R < wk.heap.size
  mlo : w.heap.size ≤ M
  mhi : M < wk.heap.size
  ne : R ≠ M
section
variable {w wk w2 : World} {C : Nat} {a : Option Addr} {len cap R M c : Nat} {vs : List Value}
theorem Box.draw (h : Box w C a len cap R M c vs wk) (hC : C < w.heap.size) (hc : Cur w2 C a len cap) (hg : wk.grownBy w2 (some C)) : Box w C a len cap R M c vs w2 where
  is := fun j v hj => by
    have := h.mlo
    exact kept_cell hg (h.is j v hj) (by omega)
  fm := fun o => by
    have h1 := h.mlo
    rw [World.frozen?_of_block (hg.block M h.mhi (by intro e; injection e with e; omega))]; exact h.fm o
  room := h.room.grown h.rhi hg (by have := h.rlo; intro e; injection e with e; omega)
  cur := hc
  grown := grown_step h.grown hg
  rlo := h.rlo
  rhi := Nat.lt_of_lt_of_le h.rhi hg.size
  mlo := h.mlo
  mhi := Nat.lt_of_lt_of_le h.mhi hg.size
  ne := h.ne
/-- A block of the call's own turns. -/
theorem cur_set (hcu : Cur wk C a len cap) (hgr : w.grownBy wk (some C)) (hC : C < w.heap.size) (ha : ∀ b off, a = some ⟨b, off, none⟩ → 0 < len → b < w.heap.size) {B o : Nat} (hB : w.heap.size ≤ B) (v : Value) :
    Cur (wk.setCell ⟨B, o, none⟩ v) C a len cap ∧ w.grownBy (wk.setCell ⟨B, o, none⟩ v) (some C) := by
  have hg : wk.grownBy (wk.setCell ⟨B, o, none⟩ v) (some B) := gset (gid _ _) v
  exact ⟨hcu.own (B := w.heap.size) hg (fun g e => by injection e with e; omega) hC ha, grown_own hgr hg (fun g e => by injection e with e; omega)⟩
theorem Box.set (h : Box w C a len cap R M c vs wk) (hC : C < w.heap.size) (ha : ∀ b off, a = some ⟨b, off, none⟩ → 0 < len → b < w.heap.size) (j : Nat) (v : Value) : Box w C a len cap R M c (vs.set j v) (wk.setCell ⟨M, j, none⟩ v) where
  is := fun k u hk => by
    have hkl : k < vs.length := by have := (List.getElem?_eq_some_iff.1 hk).1; simpa using this
    have hc := h.is k vs[k] (List.getElem?_eq_getElem hkl)
    by_cases e : j = k
    · subst e
      rw [List.getElem?_set_self hkl] at hk
      injection hk with hk; subst hk
      rw [World.cell?_setCell_same _ _ _ hc]
    · rw [List.getElem?_set_ne e, List.getElem?_eq_getElem hkl] at hk
      injection hk with hk; subst hk
      rw [World.cell?_setCell_other _ _ _ _ (by intro q; injection q with _ q; exact e (by omega))]
      exact hc
  fm := fun o => by have := h.fm o; go_simp
  room := h.room.grown h.rhi (gset (gid _ _) v) (by have := h.ne; intro e; injection e with e; omega)
  cur := (cur_set h.cur h.grown hC ha h.mlo v).1
  grown := (cur_set h.cur h.grown hC ha h.mlo v).2
  rlo := h.rlo
  rhi := by have := h.rhi; simpa [World.setCell] using this
  mlo := h.mlo
  mhi := by have := h.mhi; simpa [World.setCell] using this
  ne := h.ne
theorem Box.below (h : Box w C a len cap R M c vs wk) (hb : Below wk.heap.size wk w2) : Box w C a len cap R M c vs w2 where
  is := fun j v hj => by rw [hb.cell (p := ⟨M, j, none⟩) h.mhi]; exact h.is j v hj
  fm := fun o => by rw [hb.frozen (p := ⟨M, o, none⟩) h.mhi]; exact h.fm o
  room := h.room.below h.rhi hb
  cur := h.cur.kept hb
  grown := gbelow h.grown hb
  rlo := h.rlo
  rhi := Nat.lt_of_lt_of_le h.rhi hb.size
  mlo := h.mlo
  mhi := Nat.lt_of_lt_of_le h.mhi hb.size
  ne := h.ne
/-- The record is laid. -/
theorem Box.new (hR : Mine wk R 0 c) (hr1 : w.heap.size ≤ R) (hr2 : R < wk.heap.size) (hcu : Cur wk C a len cap) (hgr : w.grownBy wk (some C)) (vs : List Value) (T : TypeId) :
    Box w C a len cap R wk.heap.size c vs (wk.alloc (.cells vs.toArray T)) where
  is := fun j v hj => by simp only [World.cell?, heap_alloc_new]; simpa using hj
  fm := free_new _ _ _
  room := hR.below hr2 (below_new _ _)
  cur := hcu.kept (below_new _ _)
  grown := grown_new hgr _
  rlo := hr1
  rhi := by simp; omega
  mlo := hgr.size
  mhi := by simp
  ne := by omega
end
end Go.Proofs.YtlnnchgaloejlaaGreat
namespace Go.Proofs.YtlnnchgaloejlaaGreat
open Go.ChangeShapes Go.WideShapes Go.ChangeAt Go.RowKit

theorem OwnR.apart {α : Type} {f : α → List Value} {c : Nat} {w w' : World} {B x : Nat} {a : Option Addr} {xs : List α} (h : OwnR f c w B a xs) (hg : w.grownBy w' (some x)) (hne : ∀ b, a = some ⟨b, 0, none⟩ → xs ≠ [] → b ≠ x) : OwnR f c w' B a xs := by
  by_cases h0 : xs = []
  · subst h0; exact ⟨Lies.nil _ _, .inl rfl⟩
  rcases h.2 with e | ⟨b, rfl, h1, h2, hm⟩
  · exact absurd e h0
  · have hbx := hne b rfl h0
    have hn : some b ≠ some x := by intro e; injection e with e; exact hbx e
    refine ⟨?_, .inr ⟨b, rfl, h1, Nat.lt_of_lt_of_le h2 hg.size, hm.grown h2 hg hn⟩⟩
    intro k v hk
    obtain ⟨b', off, e, hc⟩ := h.1 k v hk
    injection e with e; injection e with e1 e2; subst e1; subst e2
    exact ⟨b, 0, rfl, by rw [grown_keeps hg h2 hn]; exact hc⟩
theorem grown_to {w w' : World} {B b : Nat} (hg : w.grownBy w' (some b)) (hB : B ≤ b) (hs : B ≤ w.heap.size) : Below B w w' :=
  ⟨hg.os, hg.tape, hg.output, hg.size, fun i hi => hg.block i (by omega) (by intro e; injection e with e; omega)⟩
end Go.Proofs.YtlnnchgaloejlaaGreat
namespace Go.Proofs.YtlnnchgaloejlaaGreat
open Go.ChangeShapes Go.WideShapes Go.ChangeAt Go.RowKit

/-- Nothing has turned, or just the block in which that list lies. -/
def Touch (B : Nat) (a : Option Addr) (n : Nat) (w w' : World) : Prop :=
  w = w' ∨ ∃ x, a = some ⟨x, 0, none⟩ ∧ 0 < n ∧ B ≤ x ∧ x < w.heap.size ∧ w.grownBy w' (some x)
theorem Touch.below {B : Nat} {a : Option Addr} {n : Nat} {w w' : World} (h : Touch B a n w w') : Below B w w' := by
  rcases h with rfl | ⟨x, -, -, h1, h2, hg⟩
  · exact Below.refl _ _
  · exact grown_to hg h1 (by omega)
theorem Touch.size {B : Nat} {a : Option Addr} {n : Nat} {w w' : World} (h : Touch B a n w w') : w.heap.size ≤ w'.heap.size := h.below.size
theorem length_ne {α : Type} {xs : List α} (h : xs ≠ []) : 0 < xs.length := by
  cases xs with
  | nil => exact absurd rfl h
  | cons y r => simp

theorem Touch.cell {B Bx o n : Nat} {a : Option Addr} {w w' : World} (h : Touch B a n w w') (hne : ∀ x, a = some ⟨x, 0, none⟩ → 0 < n → x ≠ Bx) (hlt : Bx < w.heap.size) : w'.cell? ⟨Bx, o, none⟩ = w.cell? ⟨Bx, o, none⟩ := by
  rcases h with rfl | ⟨x, e, hn, -, -, hg⟩
  · rfl
  · exact grown_keeps hg hlt (by intro q; injection q with q; exact hne x e hn q.symm)

/-- A block holds a book's cells. -/
structure CellB (w : World) (B : Nat) (b : Bok) (s : Spots) : Prop where
  c0 : w.cell? ⟨B, 0, none⟩ = some (.int .i64 b.season)
  c1 : w.cell? ⟨B, 1, none⟩ = some (.int .i64 b.supply)
  c2 : w.cell? ⟨B, 2, none⟩ = some (.int .i64 b.burnt)
  c3 : w.cell? ⟨B, 3, none⟩ = some (.int .i64 b.pot)
  c4 : w.cell? ⟨B, 4, none⟩ = some (.slice s.fa b.folk.length s.fc)
  c5 : w.cell? ⟨B, 5, none⟩ = some (.slice s.ma b.mills.length s.mc)
  c6 : w.cell? ⟨B, 6, none⟩ = some (.slice s.pa b.parts.length s.pc)
  c7 : w.cell? ⟨B, 7, none⟩ = some (.slice s.wa b.waits.length s.wc)
theorem CellB.lt {w : World} {B : Nat} {b : Bok} {s : Spots} (h : CellB w B b s) : B < w.heap.size := at_lt h.c0
theorem CellB.keep {w w' : World} {B : Nat} {b : Bok} {s : Spots} (h : CellB w B b s) (k : ∀ o, w'.cell? ⟨B, o, none⟩ = w.cell? ⟨B, o, none⟩) : CellB w' B b s :=
  ⟨(k 0).trans h.c0, (k 1).trans h.c1, (k 2).trans h.c2, (k 3).trans h.c3, (k 4).trans h.c4, (k 5).trans h.c5, (k 6).trans h.c6, (k 7).trans h.c7⟩
theorem CellB.below {w w' : World} {B : Nat} {b : Bok} {s : Spots} (h : CellB w B b s) (hb : Below w.heap.size w w') : CellB w' B b s := h.keep fun o => hb.cell (p := ⟨B, o, none⟩) h.lt
theorem CellB.under {w w' : World} {B C : Nat} {b : Bok} {s : Spots} (h : CellB w B b s) (hb : Below C w w') (hC : B < C) : CellB w' B b s := h.keep fun o => hb.cell (p := ⟨B, o, none⟩) hC
theorem CellB.grown {w w' : World} {B x : Nat} {b : Bok} {s : Spots} (h : CellB w B b s) (hg : w.grownBy w' (some x)) (hx : x ≠ B) : CellB w' B b s := h.keep fun o => grown_keeps hg h.lt (by intro q; injection q with q; exact hx q.symm)
theorem CellB.new (w : World) (b : Bok) (s : Spots) (T : TypeId) : CellB (w.alloc (.cells #[.int .i64 b.season, .int .i64 b.supply, .int .i64 b.burnt, .int .i64 b.pot, .slice s.fa b.folk.length s.fc, .slice s.ma b.mills.length s.mc, .slice s.pa b.parts.length s.pc, .slice s.wa b.waits.length s.wc] T)) w.heap.size b s := by
  have k : ∀ (o : Nat) v, (#[.int .i64 b.season, .int .i64 b.supply, .int .i64 b.burnt, .int .i64 b.pot, .slice s.fa b.folk.length s.fc, .slice s.ma b.mills.length s.mc, .slice s.pa b.parts.length s.pc, .slice s.wa b.waits.length s.wc] : Array Value)[o]? = some v → (w.alloc (.cells #[.int .i64 b.season, .int .i64 b.supply, .int .i64 b.burnt, .int .i64 b.pot, .slice s.fa b.folk.length s.fc, .slice s.ma b.mills.length s.mc, .slice s.pa b.parts.length s.pc, .slice s.wa b.waits.length s.wc] T)).cell? ⟨w.heap.size, o, none⟩ = some v := fun o v hv => by
    simp only [World.cell?, heap_alloc_new]; exact hv
  exact ⟨k _ _ rfl, k _ _ rfl, k _ _ rfl, k _ _ rfl, k _ _ rfl, k _ _ rfl, k _ _ rfl, k _ _ rfl⟩
/-- Its lists lie below block B. -/
structure BOld (b : Bok) (s : Spots) (B : Nat) : Prop where
  folk : ∀ x off, s.fa = some ⟨x, off, none⟩ → 0 < b.folk.length → x < B
  mills : ∀ x off, s.ma = some ⟨x, off, none⟩ → 0 < b.mills.length → x < B
  parts : ∀ x off, s.pa = some ⟨x, off, none⟩ → 0 < b.parts.length → x < B
  waits : ∀ x off, s.wa = some ⟨x, off, none⟩ → 0 < b.waits.length → x < B
theorem BookAt.bold {w : World} {b : Bok} {s : Spots} (h : BookAt w b s) : BOld b s w.heap.size :=
  ⟨h.folk.old, h.mills.old Mil.len (by omega), h.parts.old Par.len (by omega), h.waits.old Wai.len (by omega)⟩
theorem BOld.mono {b : Bok} {s : Spots} {B B' : Nat} (h : BOld b s B) (hB : B ≤ B') : BOld b s B' :=
  ⟨fun x o e l => Nat.lt_of_lt_of_le (h.folk x o e l) hB, fun x o e l => Nat.lt_of_lt_of_le (h.mills x o e l) hB, fun x o e l => Nat.lt_of_lt_of_le (h.parts x o e l) hB, fun x o e l => Nat.lt_of_lt_of_le (h.waits x o e l) hB⟩
theorem BookAt.under {w w' : World} {B : Nat} {b : Bok} {s : Spots} (h : BookAt w b s) (hb : Below B w w') (ho : BOld b s B) : BookAt w' b s :=
  ⟨h.folk.under hb ho.folk, h.mills.under Mil.len hb ho.mills, h.parts.under Par.len hb ho.parts, h.waits.under Wai.len hb ho.waits⟩
theorem OwnB.grown {w w' : World} {B x : Nat} {b : Bok} {s : Spots} (h : OwnB w B b s) (hg : w.grownBy w' (some x)) (hx : x < B) : OwnB w' B b s :=
  ⟨h.folk.grown hg hx, h.mills.grown hg hx, h.parts.grown hg hx, h.waits.grown hg hx, h.fm, h.fp, h.fw, h.mp, h.mw, h.pw, h.rt⟩
/-- A block in which none of its lists lies. -/
structure NotIn (b : Bok) (s : Spots) (X : Nat) : Prop where
  folk : ∀ x, s.fa = some ⟨x, 0, none⟩ → 0 < b.folk.length → x ≠ X
  mills : ∀ x, s.ma = some ⟨x, 0, none⟩ → 0 < b.mills.length → x ≠ X
  parts : ∀ x, s.pa = some ⟨x, 0, none⟩ → 0 < b.parts.length → x ≠ X
  waits : ∀ x, s.wa = some ⟨x, 0, none⟩ → 0 < b.waits.length → x ≠ X
theorem BOld.notIn {b : Bok} {s : Spots} {B X : Nat} (h : BOld b s B) (hX : B ≤ X) : NotIn b s X :=
  ⟨fun x e l => by have := h.folk x 0 e l; omega, fun x e l => by have := h.mills x 0 e l; omega, fun x e l => by have := h.parts x 0 e l; omega, fun x e l => by have := h.waits x 0 e l; omega⟩
end Go.Proofs.YtlnnchgaloejlaaGreat
