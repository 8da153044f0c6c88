/-
  Texts joined: DrawB, Mem, StrAt, Draw2, Many, Recs, BoxD, Mark, Grow, RecMill, RecPart, RecWait, L1In.
-/
import Derived.Test.YtoabpbdjffonlaaGreatDoorRows
import Derived.WalkKit
import Derived.ProofKit
import Derived.OpenShut
import Derived.Outline
import Derived.WalkLawsBesides
import Derived.Below
import Derived.Lib.Hide
import Derived.Deep.QuietTactic
import Derived.BigQuiet
import Derived.LoopN
import Derived.Deep.OwnRows
import Derived.Laws.Cover1
import Derived.Deep.AppendLies
import Derived.OwnWalk
import Derived.Laws.CopyRow
import Derived.Laws.CopyOwn
import Derived.Laws.IdiomStrings
import Derived.Deep.Quiet
import Derived.StillTailTactics
import Derived.Deep.RegionHeld3
namespace Go.Proofs.YtoabpbdjffonlaaGreatDoor
open Go.ChangeShapes Go.WideShapes Go.ChangeAt Go.RowKit

/-- The bytes that came in: each of the first 'len' is there. -/
def Row (w : World) (a : Option Addr) (len : Nat) : Prop :=
  ∀ k, k < len → ∃ b off n, a = some ⟨b, off, none⟩ ∧ 0 ≤ n ∧ n ≤ 255 ∧ w.cell? ⟨b, off + k, none⟩ = some (.int .u8 n)

/-- A right cursor in block C over the slice (a, len, cap). -/
structure Cur (w : World) (C : Nat) (a : Option Addr) (len cap : Nat) : Prop where
  c0 : w.cell? ⟨C, 0, none⟩ = some (.slice a len cap)
  c1 : ∃ i : Nat, i ≤ len ∧ w.cell? ⟨C, 1, none⟩ = some (.int .i64 i)
  c2 : ∃ h : Int, w.cell? ⟨C, 2, none⟩ = some (.int .i64 h)
  fz : ∀ o, w.frozen? ⟨C, o, none⟩ = false
  row : Row w a len
  far : ∀ b off, a = some ⟨b, off, none⟩ → 0 < len → b ≠ C
  small : len ≤ 4096

/-- What a draw of a number leaves: a number of which P holds; only block C and what is new has turned; the cursor is right. -/
def Drawn (C : Nat) (a : Option Addr) (len cap : Nat) (P : Int → Prop) (w : World) (e : Ending) (w' : World) : Prop :=
  ∃ x : Int, P x ∧ e = .returned (.int .i64 x) ∧ Cur w' C a len cap ∧ w.grownBy w' (some C)

theorem grown_refl (w : World) (row : Option Nat) : w.grownBy w row := ⟨rfl, rfl, rfl, Nat.le_refl _, fun _ _ _ => rfl⟩
theorem grown_step {a b c : World} {row : Option Nat} (h : a.grownBy b row) (k : b.grownBy c row) : a.grownBy c row :=
  ⟨k.os.trans h.os, k.tape.trans h.tape, k.output.trans h.output, Nat.le_trans h.size k.size, fun i hi hne => (k.block i (Nat.lt_of_lt_of_le hi h.size) hne).trans (h.block i hi hne)⟩
theorem grown_draws {a w : World} {row : Option Nat} (h : a.grownBy w row) (n : Nat) : a.grownBy (w.drewN n) row := ⟨h.os, h.tape, h.output, h.size, h.block⟩
theorem grown_set {a w : World} {C : Nat} (h : a.grownBy w (some C)) (o : Nat) (u : Value) : a.grownBy (w.setCell ⟨C, o, none⟩ u) (some C) :=
  ⟨h.os, h.tape, h.output, by simpa [World.setCell] using h.size, fun i hi hne => (Below.heap_setCell w _ u i (by rintro rfl; exact hne rfl)).trans (h.block i hi hne)⟩
theorem grown_new {a w : World} {row : Option Nat} (h : a.grownBy w row) (o : Obj) : a.grownBy (w.alloc o) row :=
  ⟨h.os, h.tape, h.output, Nat.le_trans h.size (by simp), fun i hi hne => (Below.heap_alloc w o i (Nat.lt_of_lt_of_le hi h.size)).trans (h.block i hi hne)⟩
theorem grown_below {a w : World} {C : Nat} (h : a.grownBy w (some C)) {B : Nat} (hB : B ≤ C) (hs : B ≤ a.heap.size) : Below B a w :=
  ⟨h.os, h.tape, h.output, h.size, fun i hi => h.block i (by omega) (by intro e; injection e with e; omega)⟩
theorem below_grown {a w : World} (h : Below a.heap.size a w) (row : Option Nat) : a.grownBy w row := ⟨h.os, h.tape, h.output, h.size, fun i hi _ => h.block i hi⟩

theorem and255 (y : Int) : 0 ≤ bits .and .i64 y 255 ∧ bits .and .i64 y 255 ≤ 255 := by
  have h255 : (BitVec.ofInt 64 255).toNat = 2 ^ 8 - 1 := by decide
  have key : (BitVec.ofInt 64 y &&& BitVec.ofInt 64 255).toNat = (y % ((2 ^ 64 : Nat) : Int)).toNat % 2 ^ 8 := by
    rw [BitVec.toNat_and, BitVec.toNat_ofInt, h255, Nat.and_two_pow_sub_one_eq_mod]
  show 0 ≤ IntKind.i64.wrap ((BitVec.ofInt 64 y &&& BitVec.ofInt 64 255).toNat : Nat) ∧ IntKind.i64.wrap ((BitVec.ofInt 64 y &&& BitVec.ofInt 64 255).toNat : Nat) ≤ 255
  rw [key, IntKind.wrap_i64]
  omega

/-- A cell of another block than the one that was written. -/
theorem cell_far (w : World) (C o : Nat) (v : Value) (p : Addr) (h : p.block ≠ C) : (w.setCell ⟨C, o, none⟩ v).cell? p = w.cell? p :=
  World.cell?_setCell_other _ _ _ _ (by intro e; subst e; exact h rfl)

theorem lt_of_cell {w : World} {b o : Nat} {v : Value} (h : w.cell? ⟨b, o, none⟩ = some v) : b < w.heap.size := by
  by_cases hb : b < w.heap.size
  · exact hb
  · exfalso
    have : w.heap[b]? = none := by simp; omega
    simp [World.cell?, this] at h

theorem Row.grown {w w' : World} {a : Option Addr} {len C : Nat} (h : Row w a len) (hg : w.grownBy w' (some C)) (far : ∀ b off, a = some ⟨b, off, none⟩ → 0 < len → b ≠ C) : Row w' a len := by
  intro k hk
  obtain ⟨b, off, n, rfl, h0, h1, hc⟩ := h k hk
  exact ⟨b, off, n, rfl, h0, h1, hg.cell hc (by intro e; injection e with e; exact far b off rfl (by omega) e)⟩

theorem Row.below {w w' : World} {a : Option Addr} {len : Nat} (h : Row w a len) (hb : Below w.heap.size w w') : Row w' a len := by
  intro k hk
  obtain ⟨b, off, n, rfl, h0, h1, hc⟩ := h k hk
  exact ⟨b, off, n, rfl, h0, h1, by rw [hb.cell (lt_of_cell hc)]; exact hc⟩

/-- A right cursor stays right while blocks other than its own and its slice's are laid or turned. -/
theorem Cur.kept {w w' : World} {C : Nat} {a : Option Addr} {len cap : Nat} (h : Cur w C a len cap) (hb : Below w.heap.size w w') : Cur w' C a len cap := by
  have hC : C < w.heap.size := lt_of_cell h.c0
  obtain ⟨i, hi, h1⟩ := h.c1
  obtain ⟨q, h2⟩ := h.c2
  exact ⟨by rw [hb.cell hC]; exact h.c0, ⟨i, hi, by rw [hb.cell hC]; exact h1⟩, ⟨q, by rw [hb.cell hC]; exact h2⟩, fun o => by rw [hb.frozen hC]; exact h.fz o, h.row.below hb, h.far, h.small⟩

theorem Cur.byte {w w' : World} {C : Nat} {a : Option Addr} {len cap i : Nat} {q : Int} (h : Cur w C a len cap) (hg : w.grownBy w' (some C)) (h0 : w'.cell? ⟨C, 0, none⟩ = some (.slice a len cap))
    (hi : i ≤ len) (h1 : w'.cell? ⟨C, 1, none⟩ = some (.int .i64 i)) (h2 : w'.cell? ⟨C, 2, none⟩ = some (.int .i64 q)) (hf : ∀ o, w'.frozen? ⟨C, o, none⟩ = false) : Cur w' C a len cap :=
  ⟨h0, ⟨i, hi, h1⟩, ⟨q, h2⟩, hf, h.row.grown hg h.far, h.far, h.small⟩

set_option maxHeartbeats 1000000 in
set_option maxRecDepth 100000 in
theorem l1Byte_any {C : Nat} {a : Option Addr} {len cap : Nat} {w : World} (h : Cur w C a len cap) :
    Calls Tryz.prog 53 #[.pointer (some ⟨C, 0, none⟩)] w (Drawn C a len cap (fun x => 0 ≤ x ∧ x ≤ 255) w) := by
  have H := Lib.hid h
  obtain ⟨c0, ⟨i, hi, c1⟩, ⟨q, c2⟩, fz, row, far, small⟩ := h
  by_cases hlt : i < len
  · obtain ⟨b, off, n, rfl, hn, hn2, hr⟩ := row i hlt
    have hb := far b off rfl (by omega)
    have hr2 : ∀ v, (w.setCell ⟨C, 2, none⟩ v).cell? ⟨b, off + i, none⟩ = some (.int .u8 n) := fun v => by rw [cell_far _ _ _ _ _ hb]; exact hr
    clear row far
    go_enter Tryz.func53, Tryz.ntmps53
    go_wp2
    go_quiet (fail)
    go_wp2
    go_quiet (fail)
    go_wp2
    go_quiet (fail)
    go_wp2
    go_ret
    refine ⟨_, and255 _, rfl, H.out.byte (i := i + 1) ?_ ?_ (by omega) ?_ (by go_simp; rfl) ?_, ?_⟩
    · repeat (first | exact grown_refl _ _ | apply grown_draws | apply grown_set)
    · go_simp
    · go_simp
    · intro o; have := fz o; go_simp
    · repeat (first | exact grown_refl _ _ | apply grown_draws | apply grown_set)
  · clear row far
    go_enter Tryz.func53, Tryz.ntmps53
    go_wp2
    go_quiet (fail)
    go_wp2
    go_quiet (fail)
    go_wp2
    go_ret
    refine ⟨_, and255 _, rfl, H.out.byte (i := i) ?_ ?_ (by omega) ?_ (by go_simp; rfl) ?_, ?_⟩
    · repeat (first | exact grown_refl _ _ | apply grown_draws | apply grown_set)
    · go_simp
    · go_simp
    · intro o; have := fz o; go_simp
    · repeat (first | exact grown_refl _ _ | apply grown_draws | apply grown_set)

theorem Drawn.mono {C : Nat} {a : Option Addr} {len cap : Nat} {P Q : Int → Prop} {w : World} (h : ∀ x, P x → Q x) : ∀ e w', Drawn C a len cap P w e w' → Drawn C a len cap Q w e w' :=
  fun _ _ ⟨x, hx, he, hc, hg⟩ => ⟨x, h x hx, he, hc, hg⟩

set_option maxHeartbeats 1000000 in
set_option maxRecDepth 100000 in
theorem l1Below_any {C : Nat} {a : Option Addr} {len cap : Nat} {w : World} (n : Int) (h : Cur w C a len cap) (hn : 1 ≤ n) (hn2 : n ≤ 9223372036854775807) :
    Calls Tryz.prog 26 #[.pointer (some ⟨C, 0, none⟩), .int .i64 n] w (Drawn C a len cap (fun x => 0 ≤ x ∧ x < n) w) := by
  by_cases hs : n ≤ 256
  · go_enter Tryz.func26, Tryz.ntmps26
    go_wp2_with fail
    refine (l1Byte_any h).mono ?_
    rintro e w1 ⟨x, ⟨hx, hx2⟩, rfl, hc1, hg1⟩
    go_wp2
    go_ret
    exact ⟨_, ⟨Int.emod_nonneg _ (by omega), Int.emod_lt_of_pos _ (by omega)⟩, rfl, hc1, hg1⟩
  · go_enter Tryz.func26, Tryz.ntmps26
    go_wp2_with fail
    refine (l1Byte_any h).mono ?_
    rintro e w1 ⟨x, ⟨hx, hx2⟩, rfl, hc1, hg1⟩
    go_wp2_with fail
    refine (l1Byte_any hc1).mono ?_
    rintro e w2 ⟨y, ⟨hy, hy2⟩, rfl, hc2, hg2⟩
    go_wp2_with fail
    refine (l1Byte_any hc2).mono ?_
    rintro e w3 ⟨z, ⟨hz, hz2⟩, rfl, hc3, hg3⟩
    go_wp2_with fail
    refine (l1Byte_any hc3).mono ?_
    rintro e w4 ⟨t, ⟨ht, ht2⟩, rfl, hc4, hg4⟩
    go_wp2
    go_ret
    exact ⟨_, ⟨Int.emod_nonneg _ (by omega), Int.emod_lt_of_pos _ (by omega)⟩, rfl, hc4, grown_step (grown_step (grown_step hg1 hg2) hg3) hg4⟩

theorem l1Once_any {C : Nat} {a : Option Addr} {len cap : Nat} {w : World} (n : Int) (h : Cur w C a len cap) (hn : 1 ≤ n) (hn2 : n ≤ 9223372036854775807) :
    Calls Tryz.prog 22 #[.pointer (some ⟨C, 0, none⟩), .int .i64 n] w fun e w' => ∃ t : Bool, e = .returned (.bool t) ∧ Cur w' C a len cap ∧ w.grownBy w' (some C) := by
  go_enter Tryz.func22, Tryz.ntmps22
  go_wp2_with fail
  refine (l1Below_any n h hn hn2).mono ?_
  rintro e w1 ⟨x, ⟨hx, hx2⟩, rfl, hc1, hg1⟩
  go_wp2
  go_ret
  exact ⟨_, rfl, hc1, hg1⟩

/-- What 'l1New' leaves: a right cursor in the block behind all that was there. -/
def NewCur (a : Option Addr) (len cap : Nat) (w : World) (e : Ending) (w' : World) : Prop :=
  e = .returned (.pointer (some ⟨w.heap.size, 0, none⟩)) ∧ Cur w' w.heap.size a len cap ∧ Below w.heap.size w w'

theorem new_cur {w : World} {a : Option Addr} {len cap : Nat} (h : Row w a len) (hs : len ≤ 4096) (q : Int) (T : TypeId) :
    Cur (w.alloc (.cells #[.slice a len cap, .int .i64 0, .int .i64 q] T)) w.heap.size a len cap :=
  ⟨by go_simp, ⟨0, by omega, by go_simp⟩, ⟨q, by go_simp⟩, fun o => by go_simp, h.below ((Below.refl _ _).alloc (Nat.le_refl _) _), fun b off e hl => by obtain ⟨b', off', n, e', _, _, hc⟩ := h 0 hl; have := lt_of_cell hc; rw [e] at e'; injection e' with e'; injection e' with e1; omega, hs⟩

set_option maxHeartbeats 1000000 in
set_option maxRecDepth 100000 in
theorem l1New_any {a : Option Addr} {len cap : Nat} {w : World} (h : Row w a len) (hs : len ≤ 4096) :
    Calls Tryz.prog 20 #[.slice a len cap] w (NewCur a len cap w) := by
  have HR := Lib.hid h
  go_enter Tryz.func20, Tryz.ntmps20
  go_wp2
  go_loop [3, 4] (fun t i => ∃ (k : Nat) (q : Int), k ≤ len ∧ i = .int .i64 k ∧ t = .int .i64 q) (fun _ i => len - (intOf i).toNat)
  case atStart => exact ⟨0, _, Nat.zero_le _, rfl, rfl⟩
  case round =>
    obtain ⟨k, q, hk, rfl, rfl⟩ := hrel
    by_cases hlt : k < len
    · obtain ⟨b, off, n, rfl, hn, hn2, hc⟩ := h k hlt
      clear h
      go_wp2
      go_round
      case rel => exact ⟨k + 1, _, by omega, by go_num, rfl⟩
      case measure => simp [intOf]; omega
    · clear h
      go_wp2
      go_ret
      exact ⟨rfl, new_cur HR.out hs _ _, (Below.refl _ _).alloc (Nat.le_refl _) _⟩
theorem big_any (a : Option Addr) (len cap : Nat) (w : World) (h : len ≤ 4096) :
    Calls Tryz.prog 4 #[.slice a len cap] w fun e w' => e = .returned (.bool false) ∧ w = w' := by
  have hd : decide ((4096 : Int) < (len : Int)) = false := by simp; omega
  go_enter Tryz.func4, Tryz.ntmps4
  go_wp2
  go_ret
  exact ⟨rfl, rfl⟩

theorem big_yes (a : Option Addr) (len cap : Nat) (w : World) (h : ¬ len ≤ 4096) :
    Calls Tryz.prog 4 #[.slice a len cap] w fun e w' => e = .returned (.bool true) ∧ w = w' := by
  have hd : decide ((4096 : Int) < (len : Int)) = true := by simp; omega
  go_enter Tryz.func4, Tryz.ntmps4
  go_wp2
  go_ret
  exact ⟨rfl, rfl⟩

/-- A cell of a block that a draw does not turn. -/
theorem kept_cell {w w' : World} {C b o : Nat} {v : Value} (hg : w.grownBy w' (some C)) (h : w.cell? ⟨b, o, none⟩ = some v) (hne : b ≠ C) : w'.cell? ⟨b, o, none⟩ = some v :=
  hg.cell h (by intro e; injection e with e; exact hne e)

/-- What came in can be drawn from. -/
structure Src (w : World) (a : Option Addr) (len : Nat) : Prop where
  row : Row w a len
  small : len ≤ 4096

theorem Src.kept {w w' : World} {a : Option Addr} {len : Nat} (h : Src w a len) (hb : Below w.heap.size w w') : Src w' a len :=
  ⟨h.row.below hb, h.small⟩

theorem below_of {w w1 w2 : World} (hb : Below w.heap.size w w1) (hg : w1.grownBy w2 (some w.heap.size)) : Below w.heap.size w w2 :=
  hb.trans (grown_below hg (Nat.le_refl _) hb.size)

end Go.Proofs.YtoabpbdjffonlaaGreatDoor
namespace Go.Proofs.YtoabpbdjffonlaaGreatDoor
open Go.ChangeShapes Go.WideShapes Go.ChangeAt Go.RowKit

theorem at_lt {w : World} {b o : Nat} {v : Value} (h : w.cell? ⟨b, o, none⟩ = some v) : b < w.heap.size := by
  by_cases hb : b < w.heap.size
  · exact hb
  · exfalso
    have : w.heap[b]? = none := by simp; omega
    simp [World.cell?, this] at h

/-- These values lie one behind the other from a on. -/
def Lies (w : World) (a : Option Addr) (xs : List Value) : Prop :=
  ∀ k v, xs[k]? = some v → ∃ b off, a = some ⟨b, off, none⟩ ∧ w.cell? ⟨b, off + k, none⟩ = some v

theorem Lies.nil (w : World) (a : Option Addr) : Lies w a [] := fun _ _ h => by simp at h
theorem Lies.below {w w' : World} {a : Option Addr} {xs : List Value} (h : Lies w a xs) (hb : Below w.heap.size w w') : Lies w' a xs := by
  intro k v hk
  obtain ⟨b, off, rfl, hc⟩ := h k v hk
  exact ⟨b, off, rfl, by rw [hb.cell (at_lt hc)]; exact hc⟩
theorem Lies.under {w w' : World} {B : Nat} {a : Option Addr} {xs : List Value} (h : Lies w a xs) (hb : Below B w w') (hB : ∀ b off, a = some ⟨b, off, none⟩ → 0 < xs.length → b < B) : Lies w' a xs := by
  intro k v hk
  obtain ⟨b, off, rfl, hc⟩ := h k v hk
  have hl : 0 < xs.length := by
    cases xs with
    | nil => simp at hk
    | cons x r => simp
  exact ⟨b, off, rfl, by rw [hb.cell (hB b off rfl hl)]; exact hc⟩
theorem Lies.old {w : World} {a : Option Addr} {xs : List Value} (h : Lies w a xs) : ∀ b off, a = some ⟨b, off, none⟩ → 0 < xs.length → b < w.heap.size := by
  intro b off e hl
  obtain ⟨b', off', e', hc⟩ := h 0 xs[0] (List.getElem?_eq_getElem hl)
  rw [e] at e'
  injection e' with e'
  injection e' with e1
  subst e1
  exact at_lt hc
theorem Lies.draws {w : World} {a : Option Addr} {xs : List Value} (h : Lies w a xs) (n : Nat) : Lies (w.drewN n) a xs := h

theorem below_draws {B : Nat} {a w : World} (h : Below B a w) (n : Nat) : Below B a (w.drewN n) := ⟨h.os, h.tape, h.output, h.size, h.block⟩
theorem below_trans {w w1 w2 : World} (h : Below w.heap.size w w1) (k : Below w1.heap.size w1 w2) : Below w.heap.size w w2 := h.trans (k.mono h.size)

/-- Block B, the first one that is not w's: n cells of the call's own, of which the first k hold xs's. -/
structure Room (w : World) (n : Nat) (xs : List Value) (k : Nat) (w' : World) : Prop where
  low : Below w.heap.size w w'
  has : w.heap.size < w'.heap.size
  all : ∀ j, j < n → ∃ v, w'.cell? ⟨w.heap.size, j, none⟩ = some v
  free : ∀ o, w'.frozen? ⟨w.heap.size, o, none⟩ = false
  full : ∀ j v, j < k → xs[j]? = some v → w'.cell? ⟨w.heap.size, j, none⟩ = some v

theorem Room.new (w : World) (z : Value) (n : Nat) (t : TypeId) (xs : List Value) : Room w n xs 0 (w.alloc (.cells (madeCells #[z] n) t)) where
  low := (Below.refl _ _).alloc (Nat.le_refl _) _
  has := by simp
  all := fun j hj => ⟨z, by
    obtain ⟨c, hc, hs, hf⟩ := World.rowIs_made w z n t
    simp only [World.cell?, hc]
    simpa using hf j hj⟩
  free := fun o => by go_simp
  full := fun j v hj _ => by omega

theorem Room.set {w w' : World} {n k : Nat} {xs : List Value} {v : Value} (h : Room w n xs k w') (hk : k < n) (hv : xs[k]? = some v) : Room w n xs (k + 1) (w'.setCell ⟨w.heap.size, k, none⟩ v) where
  low := h.low.setCell (Nat.le_refl _) _
  has := by have := h.has; simpa [World.setCell] using this
  all := fun j hj => by
    by_cases e : j = k
    · subst e
      obtain ⟨u, hu⟩ := h.all j hj
      exact ⟨v, by rw [World.cell?_setCell_same _ _ _ hu]⟩
    · obtain ⟨u, hu⟩ := h.all j hj
      exact ⟨u, by rw [World.cell?_setCell_other _ _ _ _ (by intro q; injection q with _ q; exact e (by omega))]; exact hu⟩
  free := fun o => by have := h.free o; go_simp
  full := fun j u hj hu => by
    by_cases e : j = k
    · subst e
      obtain ⟨x, hx⟩ := h.all j hk
      rw [hv] at hu
      injection hu with hu
      subst hu
      rw [World.cell?_setCell_same _ _ _ hx]
    · rw [World.cell?_setCell_other _ _ _ _ (by intro q; injection q with _ q; exact e (by omega))]
      exact h.full j u (by omega) hu

theorem Room.draws {w w' : World} {n k : Nat} {xs : List Value} (h : Room w n xs k w') (m : Nat) : Room w n xs k (w'.drewN m) :=
  ⟨below_draws h.low m, h.has, h.all, h.free, h.full⟩

theorem Room.lies {w w' : World} {n : Nat} {xs : List Value} (h : Room w n xs n w') (hn : xs.length ≤ n) : Lies w' (some ⟨w.heap.size, 0, none⟩) xs := by
  intro k v hk
  have hlt : k < xs.length := (List.getElem?_eq_some_iff.1 hk).1
  exact ⟨_, _, rfl, by rw [Nat.zero_add]; exact h.full k v (by omega) hk⟩
end Go.Proofs.YtoabpbdjffonlaaGreatDoor
namespace Go.Proofs.YtoabpbdjffonlaaGreatDoor
open Go.ChangeShapes Go.WideShapes Go.ChangeAt Go.RowKit

/-- These strings lie one behind the other from a on. -/
def Strs (w : World) (a : Option Addr) (ss : List ByteArray) : Prop := Lies w a (ss.map .string)

theorem Strs.at {w : World} {a : Option Addr} {ss : List ByteArray} (h : Strs w a ss) (k : Nat) (hk : k < ss.length) :
    ∃ b off, a = some ⟨b, off, none⟩ ∧ b < w.heap.size ∧ w.cell? ⟨b, off + k, none⟩ = some (.string ss[k]) := by
  obtain ⟨b, off, e, hc⟩ := h k (.string ss[k]) (by simp [hk])
  exact ⟨b, off, e, at_lt hc, hc⟩
theorem Strs.below {w w' : World} {a : Option Addr} {ss : List ByteArray} (h : Strs w a ss) (hb : Below w.heap.size w w') : Strs w' a ss := Lies.below h hb
end Go.Proofs.YtoabpbdjffonlaaGreatDoor
namespace Go.Proofs.YtoabpbdjffonlaaGreatDoor
open Go.ChangeShapes Go.WideShapes Go.ChangeAt Go.RowKit

/-- What a draw of a string leaves. -/
def DrawnS (C : Nat) (a : Option Addr) (len cap : Nat) (w : World) (e : Ending) (w' : World) : Prop :=
  ∃ s : ByteArray, s.size ≤ 7 ∧ e = .returned (.string s) ∧ Cur w' C a len cap ∧ w.grownBy w' (some C)

set_option maxHeartbeats 1000000 in
set_option maxRecDepth 100000 in
theorem l2Draw_any {C : Nat} {a : Option Addr} {len cap : Nat} {w : World} (h : Cur w C a len cap) :
    Calls Tryz.prog 43 #[.pointer (some ⟨C, 0, none⟩)] w (DrawnS C a len cap w) := by
  have hC : C < w.heap.size := lt_of_cell h.c0
  go_enter Tryz.func43, Tryz.ntmps43
  go_wp2_with fail
  refine (l1Below_any _ (h.kept ((Below.refl _ _).alloc (Nat.le_refl _) _)) (by omega) (by omega)).mono ?_
  rintro e w2 ⟨x, ⟨hx, hx2⟩, rfl, hc2, hg2⟩
  have hg : w.grownBy w2 (some C) := grown_step (grown_new (grown_refl _ _) _) hg2
  have q0 := kept_cell (b := w.heap.size) (o := 0) hg2 (by go_simp; rfl) (by omega)
  have q1 := kept_cell (b := w.heap.size) (o := 1) hg2 (by go_simp; rfl) (by omega)
  have q2 := kept_cell (b := w.heap.size) (o := 2) hg2 (by go_simp; rfl) (by omega)
  clear hg2
  have hx3 : x = 0 ∨ x = 1 ∨ x = 2 := by omega
  rcases hx3 with rfl | rfl | rfl
  all_goals
    go_wp2
    go_ret
    exact ⟨_, by decide, rfl, hc2, hg⟩

set_option maxHeartbeats 1000000 in
set_option maxRecDepth 100000 in
theorem l2DrawAny_any {C : Nat} {a : Option Addr} {len cap : Nat} {w : World} (h : Cur w C a len cap) :
    Calls Tryz.prog 56 #[.pointer (some ⟨C, 0, none⟩)] w (DrawnS C a len cap w) := by
  go_enter Tryz.func56, Tryz.ntmps56
  go_wp2_with fail
  refine (l1Once_any _ h (by omega) (by omega)).mono ?_
  rintro e w1 ⟨t, rfl, hc1, hg1⟩
  have hC : C < w1.heap.size := lt_of_cell hc1.c0
  cases t
  · go_wp2_with fail
    refine (l2Draw_any hc1).mono ?_
    rintro e w2 ⟨s, hs, rfl, hc2, hg2⟩
    go_wp2
    go_ret
    exact ⟨_, hs, rfl, hc2, grown_step hg1 hg2⟩
  · go_wp2_with fail
    refine (l1Below_any _ (hc1.kept ((Below.refl _ _).alloc (Nat.le_refl _) _)) (by omega) (by omega)).mono ?_
    rintro e w2 ⟨x, ⟨hx, hx2⟩, rfl, hc2, hg2⟩
    have hg : w.grownBy w2 (some C) := grown_step hg1 (grown_step (grown_new (grown_refl _ _) _) hg2)
    have q0 := kept_cell (b := w1.heap.size) (o := 0) hg2 (by go_simp; rfl) (by omega)
    have q1 := kept_cell (b := w1.heap.size) (o := 1) hg2 (by go_simp; rfl) (by omega)
    have q2 := kept_cell (b := w1.heap.size) (o := 2) hg2 (by go_simp; rfl) (by omega)
    have q3 := kept_cell (b := w1.heap.size) (o := 3) hg2 (by go_simp; rfl) (by omega)
    have q4 := kept_cell (b := w1.heap.size) (o := 4) hg2 (by go_simp; rfl) (by omega)
    clear hg1 hg2
    have hx3 : x = 0 ∨ x = 1 ∨ x = 2 ∨ x = 3 ∨ x = 4 := by omega
    rcases hx3 with rfl | rfl | rfl | rfl | rfl
    all_goals
      go_wp2
      go_ret
      exact ⟨_, by decide, rfl, hc2, hg⟩

theorem own_grown {w w' : World} {base : Nat} {e : TypeId} {size : Nat} {v : Value} {n : Nat} {xs : List Value} {row : Option Nat} (h : w.ownsRow base e size v n xs) (hg : w.grownBy w' row)
    (hne : ∀ g, base ≤ g → some g ≠ row) : w'.ownsRow base e size v n xs := by
  refine ⟨h.1, ?_⟩
  rcases h.2 with h0 | ⟨g, cap, cur, hv, hb, hh, hr⟩
  · exact .inl h0
  · refine .inr ⟨g, cap, cur, hv, hb, ?_, hr⟩
    have hlt : g < w.heap.size := by
      rcases Nat.lt_or_ge g w.heap.size with hlt | hge
      · exact hlt
      · rw [Array.getElem?_eq_none hge] at hh; cases hh
    rw [hg.block g hlt (hne g hb)]
    exact hh

/-- A right cursor stays right while a row of the call's own turns. -/
theorem Cur.own {w w' : World} {C B : Nat} {a : Option Addr} {len cap : Nat} {row : Option Nat} (h : Cur w C a len cap) (hg : w.grownBy w' row) (hr : ∀ g, row = some g → B ≤ g) (hC : C < B)
    (ha : ∀ b off, a = some ⟨b, off, none⟩ → 0 < len → b < B) : Cur w' C a len cap := by
  have hb : ∀ b, b < B → b < w.heap.size → w'.heap[b]? = w.heap[b]? := fun b h1 h2 => hg.block b h2 (by intro e; have := hr b e.symm; omega)
  have hCw : C < w.heap.size := lt_of_cell h.c0
  have hcc : ∀ o, w'.cell? ⟨C, o, none⟩ = w.cell? ⟨C, o, none⟩ := fun o => World.cell?_of_block (hb C hC hCw)
  obtain ⟨i, hi, h1⟩ := h.c1
  obtain ⟨q, h2⟩ := h.c2
  refine ⟨by rw [hcc]; exact h.c0, ⟨i, hi, by rw [hcc]; exact h1⟩, ⟨q, by rw [hcc]; exact h2⟩, fun o => by rw [World.frozen?_of_block (hb C hC hCw)]; exact h.fz o, ?_, h.far, h.small⟩
  intro k hk
  obtain ⟨b, off, n, e, h0, h3, hc⟩ := h.row k hk
  exact ⟨b, off, n, e, h0, h3, by rw [World.cell?_of_block (hb b (ha b off e (by omega)) (lt_of_cell hc))]; exact hc⟩

theorem Cur.old {w : World} {C : Nat} {a : Option Addr} {len cap : Nat} (h : Cur w C a len cap) : ∀ b off, a = some ⟨b, off, none⟩ → 0 < len → b < w.heap.size := by
  intro b off e hl
  obtain ⟨b', off', n, e', _, _, hc⟩ := h.row 0 hl
  rw [e] at e'
  injection e' with e'
  injection e' with e1
  subst e1
  exact lt_of_cell hc

/-- What a value that owns strings looks like. -/
theorem own_strs {w : World} {base : Nat} {e : TypeId} {v : Value} {ss : List ByteArray} (h : w.ownsRow base e 1 v ss.length (ss.map .string)) :
    ∃ a cap, v = .slice a ss.length cap ∧ Strs w a ss ∧ ∀ b off, a = some ⟨b, off, none⟩ → base ≤ b := by
  rcases h.2 with ⟨rfl, h0⟩ | ⟨g, cap, cur, rfl, hb, hh, _, _, hs, ht⟩
  · have : ss = [] := List.eq_nil_of_length_eq_zero h0
    subst this
    exact ⟨none, 0, rfl, Lies.nil _ _, fun _ _ e => by cases e⟩
  · refine ⟨_, cap, rfl, ?_, fun b off e => by injection e with e; injection e with e1; omega⟩
    intro k v hk
    have hlt := (List.getElem?_eq_some_iff.1 hk).1
    refine ⟨g, 0, rfl, ?_⟩
    rw [← ht, List.getElem?_take_of_lt (by simpa using hlt)] at hk
    simpa [World.cell?, hh] using hk

theorem own_block {w : World} {base : Nat} {e : TypeId} {size : Nat} {v : Value} {n : Nat} {xs : List Value} (h : w.ownsRow base e size v n xs) : ∀ g, v.ownBlock = some g → base ≤ g := by
  intro g hg
  rcases h.2 with ⟨rfl, _⟩ | ⟨g', cap, cur, rfl, hb, _⟩
  · simp [Value.ownBlock] at hg
  · have : g' = g := by simpa [Value.ownBlock] using hg
    omega
theorem grown_own {a b c : World} {C : Nat} {row : Option Nat} (h : a.grownBy b (some C)) (k : b.grownBy c row) (hr : ∀ g, row = some g → a.heap.size ≤ g) : a.grownBy c (some C) :=
  ⟨k.os.trans h.os, k.tape.trans h.tape, k.output.trans h.output, Nat.le_trans h.size k.size, fun i hi hne => (k.block i (Nat.lt_of_lt_of_le hi h.size) (by intro e; have := hr i e.symm; omega)).trans (h.block i hi hne)⟩
theorem Strs.grown {w w' : World} {C : Nat} {a : Option Addr} {ss : List ByteArray} (h : Strs w a ss) (hg : w.grownBy w' (some C)) (far : ∀ b off, a = some ⟨b, off, none⟩ → b ≠ C) : Strs w' a ss := by
  intro k v hk
  obtain ⟨b, off, rfl, hc⟩ := h k v hk
  exact ⟨b, off, rfl, kept_cell hg hc (far b off rfl)⟩

theorem info_str : (Tryz.prog.info? 9).map (fun i => (i.zero, i.size, i.bytes)) = some (some (.string ByteArray.empty), 1, 16) := by kernel_rfl

theorem strs_lit {w : World} {g : Nat} {xs : List ByteArray} (h : ∀ k v, (xs.map Value.string)[k]? = some v → w.cell? ⟨g, k, none⟩ = some v) : Strs w (some ⟨g, 0, none⟩) xs :=
  fun k v hk => ⟨g, 0, rfl, by rw [Nat.zero_add]; exact h k v hk⟩

end Go.Proofs.YtoabpbdjffonlaaGreatDoor
namespace Go.Proofs.YtoabpbdjffonlaaGreatDoor
open Go.ChangeShapes Go.WideShapes Go.ChangeAt Go.RowKit

theorem Room.made (w : World) (z : Array Value) (n : Nat) (t : TypeId) (xs : List Value) : Room w n xs 0 (w.alloc (.cells (madeCells z n) t)) where
  low := (Below.refl _ _).alloc (Nat.le_refl _) _
  has := by simp
  all := fun j hj => by
    have hs : (madeCells z n).size = n := size_madeCells z n
    refine ⟨(madeCells z n)[j]'(by omega), ?_⟩
    simp only [World.cell?, heap_alloc_new]
    simp [hs, hj]
  free := fun o => by go_simp
  full := fun j v hj _ => by omega

theorem Room.below {w w' w2 : World} {n k : Nat} {xs : List Value} (h : Room w n xs k w') (hb : Below w'.heap.size w' w2) : Room w n xs k w2 where
  low := below_trans h.low hb
  has := Nat.lt_of_lt_of_le h.has hb.size
  all := fun j hj => by obtain ⟨v, hv⟩ := h.all j hj; exact ⟨v, by rw [hb.cell (p := ⟨w.heap.size, j, none⟩) h.has]; exact hv⟩
  free := fun o => by rw [hb.frozen (p := ⟨w.heap.size, o, none⟩) h.has]; exact h.free o
  full := fun j v hj hv => by rw [hb.cell (p := ⟨w.heap.size, j, none⟩) h.has]; exact h.full j v hj hv

theorem grown_keeps {w w' : World} {row : Option Nat} (h : w.grownBy w' row) {b o : Nat} (hb : b < w.heap.size) (hne : some b ≠ row) : w'.cell? ⟨b, o, none⟩ = w.cell? ⟨b, o, none⟩ :=
  World.cell?_of_block (h.block b hb hne)
theorem gid (w : World) (row : Option Nat) : w.grownBy w row := ⟨rfl, rfl, rfl, Nat.le_refl _, fun _ _ _ => rfl⟩
theorem gbelow {w w1 w2 : World} {row : Option Nat} (h : w.grownBy w1 row) (k : Below w1.heap.size w1 w2) : w.grownBy w2 row :=
  ⟨k.os.trans h.os, k.tape.trans h.tape, k.output.trans h.output, Nat.le_trans h.size k.size, fun i hi hne => (k.block i (Nat.lt_of_lt_of_le hi h.size)).trans (h.block i hi hne)⟩
theorem gset {w w1 : World} {b o : Nat} (h : w.grownBy w1 (some b)) (v : Value) : w.grownBy (w1.setCell ⟨b, o, none⟩ v) (some b) := by
  refine ⟨h.os, h.tape, h.output, Nat.le_trans h.size (by simp [World.setCell]), fun i hi hne => ?_⟩
  rw [Below.heap_setCell _ _ _ _ (by intro e; exact hne (by rw [e]))]
  exact h.block i hi hne
theorem bgrown {w w1 w2 : World} {B : Nat} {row : Option Nat} (h : Below B w w1) (hB : B ≤ w1.heap.size) (k : w1.grownBy w2 row) (hr : ∀ g, row = some g → B ≤ g) : Below B w w2 :=
  h.trans ⟨k.os, k.tape, k.output, k.size, fun i hi => k.block i (by omega) (by intro e; have := hr i e.symm; omega)⟩

/-- A row that is new. -/
theorem lies_new (w : World) (cs : List Value) (t : TypeId) : Lies (w.alloc (.cells cs.toArray t)) (some ⟨w.heap.size, 0, none⟩) cs := by
  intro k v hk
  exact ⟨_, _, rfl, by simp only [World.cell?, heap_alloc_new]; simpa using hk⟩
theorem below_new (w : World) (o : Obj) : Below w.heap.size w (w.alloc o) := (Below.refl _ _).alloc (Nat.le_refl _) _
theorem free_new (w : World) (c : Array Value) (t : TypeId) (o : Nat) : (w.alloc (.cells c t)).frozen? ⟨w.heap.size, o, none⟩ = false := by go_simp

/-- This place, of n cells, may be written: all are there, none is frozen. -/
structure Mine (w : World) (b off n : Nat) : Prop where
  all : ∀ j, j < n → ∃ v, w.cell? ⟨b, off + j, none⟩ = some v
  free : ∀ o, w.frozen? ⟨b, o, none⟩ = false
/-- The first k cells of that place hold xs's; all other blocks are as they were. -/
structure Wrote (w : World) (b off n : Nat) (xs : List Value) (k : Nat) (w' : World) : Prop where
  grown : w.grownBy w' (some b)
  mine : Mine w' b off n
  full : ∀ j v, j < k → xs[j]? = some v → w'.cell? ⟨b, off + j, none⟩ = some v
theorem Wrote.start {w : World} {b off n : Nat} (h : Mine w b off n) (xs : List Value) : Wrote w b off n xs 0 w := ⟨gid _ _, h, fun _ _ h => by omega⟩
theorem Mine.set {w : World} {b off n : Nat} (h : Mine w b off n) (o : Nat) (v : Value) : Mine (w.setCell ⟨b, o, none⟩ v) b off n where
  all := fun j hj => by
    obtain ⟨u, hu⟩ := h.all j hj
    by_cases e : off + j = o
    · subst e; exact ⟨v, by rw [World.cell?_setCell_same _ _ _ hu]⟩
    · exact ⟨u, by rw [World.cell?_setCell_other _ _ _ _ (by intro q; injection q with _ q; exact e (by omega))]; exact hu⟩
  free := fun o => by have := h.free o; go_simp
theorem Mine.below {w w' : World} {b off n : Nat} (h : Mine w b off n) (hb : b < w.heap.size) (k : Below w.heap.size w w') : Mine w' b off n where
  all := fun j hj => by obtain ⟨u, hu⟩ := h.all j hj; exact ⟨u, by rw [k.cell (p := ⟨b, off + j, none⟩) hb]; exact hu⟩
  free := fun o => by rw [k.frozen (p := ⟨b, o, none⟩) hb]; exact h.free o
theorem Mine.grown {w w' : World} {b off n : Nat} {row : Option Nat} (h : Mine w b off n) (hb : b < w.heap.size) (k : w.grownBy w' row) (hne : some b ≠ row) : Mine w' b off n where
  all := fun j hj => by obtain ⟨u, hu⟩ := h.all j hj; exact ⟨u, by rw [grown_keeps k hb hne]; exact hu⟩
  free := fun o => by rw [World.frozen?_of_block (k.block b hb hne)]; exact h.free o
theorem Wrote.set {w w' : World} {b off n k : Nat} {xs : List Value} {v : Value} (h : Wrote w b off n xs k w') (hk : k < n) (hv : xs[k]? = some v) : Wrote w b off n xs (k + 1) (w'.setCell ⟨b, off + k, none⟩ v) where
  grown := gset h.grown v
  mine := h.mine.set _ _
  full := fun j u hj hu => by
    by_cases e : j = k
    · subst e
      obtain ⟨x, hx⟩ := h.mine.all j hk
      rw [hv] at hu
      injection hu with hu
      subst hu
      rw [World.cell?_setCell_same _ _ _ hx]
    · rw [World.cell?_setCell_other _ _ _ _ (by intro q; injection q with _ q; exact e (by omega))]
      exact h.full j u (by omega) hu
theorem Wrote.put {w w' : World} {b off n k p q : Nat} {xs : List Value} {v : Value} (h : Wrote w b off n xs k w') (hk : k < n) (hv : xs[k]? = some v) (hp : p = off + k) (hq : q = k + 1) : Wrote w b off n xs q (w'.setCell ⟨b, p, none⟩ v) := by
  subst hp; subst hq; exact h.set hk hv
theorem Wrote.below {w w' w2 : World} {b off n k : Nat} {xs : List Value} (h : Wrote w b off n xs k w') (hb : b < w.heap.size) (q : Below w'.heap.size w' w2) : Wrote w b off n xs k w2 :=
  ⟨gbelow h.grown q, h.mine.below (Nat.lt_of_lt_of_le hb h.grown.size) q, fun j v hj hv => by rw [q.cell (p := ⟨b, off + j, none⟩) (Nat.lt_of_lt_of_le hb h.grown.size)]; exact h.full j v hj hv⟩
theorem Wrote.lies {w w' : World} {b off n : Nat} {xs : List Value} (h : Wrote w b off n xs n w') (hn : xs.length ≤ n) : Lies w' (some ⟨b, off, none⟩) xs := by
  intro k v hk
  have hlt : k < xs.length := (List.getElem?_eq_some_iff.1 hk).1
  exact ⟨_, _, rfl, h.full k v (by omega) hk⟩
end Go.Proofs.YtoabpbdjffonlaaGreatDoor
namespace Go.Proofs.YtoabpbdjffonlaaGreatDoor
open Go.ChangeShapes Go.WideShapes Go.ChangeAt Go.RowKit

section
variable {α : Type} {f : α → List Value} {c : Nat}

/-- These records lie one behind the other from a on. -/
def Recs (f : α → List Value) (w : World) (a : Option Addr) (xs : List α) : Prop := Lies w a (xs.flatMap f)

theorem flat_length (hc : ∀ x, (f x).length = c) : ∀ xs : List α, (xs.flatMap f).length = xs.length * c
  | [] => by simp
  | x :: r => by
    rw [List.flatMap_cons, List.length_append, hc x, flat_length hc r, List.length_cons, Nat.add_mul, Nat.one_mul, Nat.add_comm]
theorem flat_at (hc : ∀ x, (f x).length = c) : ∀ (xs : List α) (k j : Nat) (hk : k < xs.length), j < c → (xs.flatMap f)[k * c + j]? = (f xs[k])[j]?
  | x :: r, 0, j, _, hj => by
    rw [List.flatMap_cons, Nat.zero_mul, Nat.zero_add, List.getElem?_append_left (by rw [hc]; exact hj)]; rfl
  | x :: r, k + 1, j, hk, hj => by
    have := flat_at hc r k j (by simpa using hk) hj
    rw [List.flatMap_cons, Nat.add_mul, Nat.one_mul, List.getElem?_append_right (by rw [hc]; omega), hc, show k * c + c + j - c = k * c + j by omega, this]; rfl
theorem flat_cases (hc : ∀ x, (f x).length = c) {xs : List α} {i : Nat} {v : Value} (h : (xs.flatMap f)[i]? = some v) : ∃ k j, ∃ hk : k < xs.length, j < c ∧ i = k * c + j ∧ (f xs[k])[j]? = some v := by
  have hlt := (List.getElem?_eq_some_iff.1 h).1
  rw [flat_length hc] at hlt
  have hc0 : 0 < c := by
    rcases Nat.eq_zero_or_pos c with e | e
    · subst e; simp at hlt
    · exact e
  have hk : i / c < xs.length := Nat.div_lt_of_lt_mul (by rw [Nat.mul_comm]; exact hlt)
  have hj : i % c < c := Nat.mod_lt _ hc0
  have he : i = i / c * c + i % c := by rw [Nat.mul_comm]; exact (Nat.div_add_mod i c).symm
  refine ⟨i / c, i % c, hk, hj, he, ?_⟩
  rw [← flat_at hc xs _ _ hk hj, ← he]; exact h
theorem flat_one (h1 : ∀ x, ∀ v ∈ f x, v.oneCell' = true) (xs : List α) : ∀ v ∈ xs.flatMap f, v.oneCell' = true := by
  intro v hv
  obtain ⟨x, _, hx⟩ := List.mem_flatMap.1 hv
  exact h1 x v hx

theorem Recs.nil (w : World) (a : Option Addr) : Recs f w a [] := Lies.nil _ _
theorem Recs.below {w w' : World} {a : Option Addr} {xs : List α} (h : Recs f w a xs) (hb : Below w.heap.size w w') : Recs f w' a xs := Lies.below h hb
theorem Recs.draws {w : World} {a : Option Addr} {xs : List α} (h : Recs f w a xs) (n : Nat) : Recs f (w.drewN n) a xs := h
theorem Recs.cell {w : World} {a : Option Addr} {xs : List α} (h : Recs f w a xs) (hc : ∀ x, (f x).length = c) (h0 : 0 < c) (k : Nat) (hk : k < xs.length) :
    ∃ b off, a = some ⟨b, off, none⟩ ∧ b < w.heap.size ∧ ∀ j v, (f xs[k])[j]? = some v → w.cell? ⟨b, off + k * c + j, none⟩ = some v := by
  have hl : 0 < (f xs[k]).length := by rw [hc]; exact h0
  obtain ⟨b, off, e, hc0⟩ := h (k * c + 0) ((f xs[k])[0]) (by rw [flat_at hc xs k 0 hk h0]; exact List.getElem?_eq_getElem hl)
  refine ⟨b, off, e, at_lt hc0, fun j v hj => ?_⟩
  have hjc : j < c := by have := (List.getElem?_eq_some_iff.1 hj).1; rwa [hc] at this
  obtain ⟨b', off', e', hv⟩ := h (k * c + j) v (by rw [flat_at hc xs k j hk hjc]; exact hj)
  rw [e] at e'; injection e' with e'; injection e' with e1 e2; subst e1; subst e2
  rw [Nat.add_assoc]; exact hv
theorem Recs.under {w w' : World} {B : Nat} {a : Option Addr} {xs : List α} (hc : ∀ x, (f x).length = c) (h : Recs f w a xs) (hb : Below B w w') (hB : ∀ b off, a = some ⟨b, off, none⟩ → 0 < xs.length → b < B) : Recs f w' a xs :=
  Lies.under h hb (fun b off e hl => hB b off e (by
    rw [flat_length hc] at hl
    rcases Nat.eq_zero_or_pos xs.length with e0 | e0
    · rw [e0, Nat.zero_mul] at hl; omega
    · exact e0))
theorem Recs.old {w : World} {a : Option Addr} {xs : List α} (hc : ∀ x, (f x).length = c) (h0 : 0 < c) (h : Recs f w a xs) : ∀ b off, a = some ⟨b, off, none⟩ → 0 < xs.length → b < w.heap.size :=
  fun b off e hl => Lies.old h b off e (by rw [flat_length hc]; exact Nat.mul_pos hl h0)
theorem Recs.mk {w : World} {b off : Nat} {xs : List α} (hc : ∀ x, (f x).length = c) (h : ∀ k (hk : k < xs.length) j v, (f xs[k])[j]? = some v → w.cell? ⟨b, off + (k * c + j), none⟩ = some v) : Recs f w (some ⟨b, off, none⟩) xs := by
  intro i v hi
  obtain ⟨k, j, hk, hj, rfl, hv⟩ := flat_cases hc hi
  exact ⟨b, off, rfl, h k hk j v hv⟩

/-- A list that lies in a block of its own, from block B on, and may be written. -/
def OwnR (f : α → List Value) (c : Nat) (w : World) (B : Nat) (a : Option Addr) (xs : List α) : Prop :=
  Recs f w a xs ∧ (xs = [] ∨ ∃ b, a = some ⟨b, 0, none⟩ ∧ B ≤ b ∧ b < w.heap.size ∧ Mine w b 0 (xs.length * c))
theorem OwnR.below {w w' : World} {B : Nat} {a : Option Addr} {xs : List α} (h : OwnR f c w B a xs) (hb : Below w.heap.size w w') : OwnR f c w' B a xs := by
  refine ⟨h.1.below hb, ?_⟩
  rcases h.2 with h0 | ⟨b, e, h1, h2, hm⟩
  · exact .inl h0
  · exact .inr ⟨b, e, h1, Nat.lt_of_lt_of_le h2 hb.size, hm.below h2 hb⟩
theorem OwnR.grown {w w' : World} {B x : Nat} {a : Option Addr} {xs : List α} (h : OwnR f c w B a xs) (hg : w.grownBy w' (some x)) (hx : x < B) : OwnR f c w' B a xs := by
  rcases h.2 with rfl | ⟨b, rfl, h1, h2, hm⟩
  · exact ⟨Lies.nil _ _, .inl rfl⟩
  · have hne : some b ≠ some x := by intro e; injection e with e; omega
    refine ⟨?_, .inr ⟨b, rfl, h1, Nat.lt_of_lt_of_le h2 hg.size, hm.grown h2 hg hne⟩⟩
    intro k v hk
    obtain ⟨b', off, e, hc⟩ := h.1 k v hk
    injection e with e; injection e with e1 e2; subst e1; subst e2
    exact ⟨b, 0, rfl, by rw [grown_keeps hg h2 hne]; exact hc⟩
theorem OwnR.mono {w : World} {B B' : Nat} {a : Option Addr} {xs : List α} (h : OwnR f c w B a xs) (hB : B' ≤ B) : OwnR f c w B' a xs := by
  refine ⟨h.1, ?_⟩
  rcases h.2 with h0 | ⟨b, e, h1, h2, hm⟩
  · exact .inl h0
  · exact .inr ⟨b, e, by omega, h2, hm⟩
theorem mine_lies {w : World} {b n : Nat} {vs : List Value} (h : Lies w (some ⟨b, 0, none⟩) vs) (hn : vs.length = n) (hf : ∀ o, w.frozen? ⟨b, o, none⟩ = false) : Mine w b 0 n where
  all := fun j hj => by
    obtain ⟨b', off', e, hc⟩ := h j vs[j] (List.getElem?_eq_getElem (by omega))
    injection e with e; injection e with e1 e2; subst e1; subst e2
    exact ⟨_, hc⟩
  free := hf
/-- A row that is new, and what lies in it. -/
theorem ownR_new (hc : ∀ x, (f x).length = c) (w : World) (xs : List α) (t : TypeId) : OwnR f c (w.alloc (.cells (xs.flatMap f).toArray t)) w.heap.size (some ⟨w.heap.size, 0, none⟩) xs := by
  have hl := lies_new w (xs.flatMap f) t
  exact ⟨hl, .inr ⟨_, rfl, Nat.le_refl _, by simp, mine_lies hl (flat_length hc xs) (free_new _ _ _)⟩⟩
/-- One that owns its row. -/
theorem ownR_of {w : World} {base : Nat} {e : TypeId} {v : Value} {xs : List α} (hc : ∀ x, (f x).length = c) (h : w.ownsRow base e c v xs.length (xs.flatMap f)) :
    ∃ a cap, v = .slice a xs.length cap ∧ OwnR f c w base a xs ∧ (v = .slice none 0 0 ∨ ∃ b, a = some ⟨b, 0, none⟩) := by
  rcases h.2 with ⟨rfl, h0⟩ | ⟨g, cap, cur, rfl, hg, hh, hle, hm, hs, ht⟩
  · have : xs = [] := List.eq_nil_of_length_eq_zero h0
    subst this
    exact ⟨none, 0, rfl, ⟨Lies.nil _ _, .inl rfl⟩, .inl rfl⟩
  · have hlies : Lies w (some ⟨g, 0, none⟩) (xs.flatMap f) := by
      intro k v hk
      have hlt := (List.getElem?_eq_some_iff.1 hk).1
      refine ⟨g, 0, rfl, ?_⟩
      rw [← ht, List.getElem?_take_of_lt (by rw [flat_length hc] at hlt; exact hlt)] at hk
      simpa [World.cell?, hh] using hk
    exact ⟨_, cap, rfl, ⟨hlies, .inr ⟨g, rfl, hg, (Array.getElem?_eq_some_iff.1 hh).1, mine_lies hlies (flat_length hc xs) (fun o => by simp [World.frozen?, hh])⟩⟩, .inr ⟨g, rfl⟩⟩
end

theorem own_lo {w : World} {base : Nat} {e : TypeId} {c : Nat} {v : Value} {n : Nat} {xs : List Value} (h : w.ownsRow base e c v n xs) : ∀ g, v.ownBlock = some g → base ≤ g := by
  intro g hg
  rcases h.2 with ⟨rfl, _⟩ | ⟨g', cap, cur, rfl, hb, _⟩
  · simp [Value.ownBlock] at hg
  · have : g' = g := by simpa [Value.ownBlock] using hg
    omega
theorem own_below {w w' : World} {base : Nat} {e : TypeId} {c : Nat} {v : Value} {n : Nat} {xs : List Value} (h : w.ownsRow base e c v n xs) (hb : Below w.heap.size w w') : w'.ownsRow base e c v n xs := by
  refine ⟨h.1, ?_⟩
  rcases h.2 with h0 | ⟨g, cap, cur, hv, hg, hh, hr⟩
  · exact .inl h0
  · exact .inr ⟨g, cap, cur, hv, hg, by rw [hb.block g (Array.getElem?_eq_some_iff.1 hh).1]; exact hh, hr⟩

/-- One record lies in block B, from its head on. -/
def RecAt {α : Type} (f : α → List Value) (w : World) (B : Nat) (x : α) : Prop := ∀ j v, (f x)[j]? = some v → w.cell? ⟨B, j, none⟩ = some v
theorem RecAt.below {α : Type} {f : α → List Value} {w w' : World} {B : Nat} {x : α} (h : RecAt f w B x) (hb : Below w.heap.size w w') : RecAt f w' B x :=
  fun j v hj => by have hc := h j v hj; rw [hb.cell (p := ⟨B, j, none⟩) (at_lt hc)]; exact hc
theorem RecAt.new {α : Type} (f : α → List Value) (w : World) (x : α) (T : TypeId) : RecAt f (w.alloc (.cells (f x).toArray T)) w.heap.size x :=
  fun j v hj => by simp only [World.cell?, heap_alloc_new]; simpa using hj

end Go.Proofs.YtoabpbdjffonlaaGreatDoor
namespace Go.Proofs.YtoabpbdjffonlaaGreatDoor
open Go.ChangeShapes Go.WideShapes Go.ChangeAt Go.RowKit

theorem undrew {W w2 : World} {row : Option Nat} (h : W.drew.grownBy w2 row) : W.grownBy w2 row := ⟨h.os, h.tape, h.output, h.size, h.block⟩

/-- Block M holds vs, block R has room for the answer; the cursor is right; nothing else has turned. -/
structure Box (w : World) (C : Nat) (a : Option Addr) (len cap : Nat) (R M c : Nat) (vs : List Value) (wk : World) : Prop where
  is : ∀ j v, vs[j]? = some v → wk.cell? ⟨M, j, none⟩ = some v
  fm : ∀ o, wk.frozen? ⟨M, o, none⟩ = false
  room : Mine wk R 0 c
  cur : Cur wk C a len cap
  grown : w.grownBy wk (some C)
  rlo : w.heap.size ≤ R
  rhi : R < wk.heap.size
  mlo : w.heap.size ≤ M
  mhi : M < wk.heap.size
  ne : R ≠ M
section
variable {w wk w2 : World} {C : Nat} {a : Option Addr} {len cap R M c : Nat} {vs : List Value}
theorem Box.draw (h : Box w C a len cap R M c vs wk) (hC : C < w.heap.size) (hc : Cur w2 C a len cap) (hg : wk.grownBy w2 (some C)) : Box w C a len cap R M c vs w2 where
  is := fun j v hj => by
    have := h.mlo
    exact kept_cell hg (h.is j v hj) (by omega)
  fm := fun o => by
    have h1 := h.mlo
    rw [World.frozen?_of_block (hg.block M h.mhi (by intro e; injection e with e; omega))]; exact h.fm o
  room := h.room.grown h.rhi hg (by have := h.rlo; intro e; injection e with e; omega)
  cur := hc
  grown := grown_step h.grown hg
  rlo := h.rlo
  rhi := Nat.lt_of_lt_of_le h.rhi hg.size
  mlo := h.mlo
  mhi := Nat.lt_of_lt_of_le h.mhi hg.size
  ne := h.ne
/-- A block of the call's own turns. -/
theorem cur_set (hcu : Cur wk C a len cap) (hgr : w.grownBy wk (some C)) (hC : C < w.heap.size) (ha : ∀ b off, a = some ⟨b, off, none⟩ → 0 < len → b < w.heap.size) {B o : Nat} (hB : w.heap.size ≤ B) (v : Value) :
    Cur (wk.setCell ⟨B, o, none⟩ v) C a len cap ∧ w.grownBy (wk.setCell ⟨B, o, none⟩ v) (some C) := by
  have hg : wk.grownBy (wk.setCell ⟨B, o, none⟩ v) (some B) := gset (gid _ _) v
  exact ⟨hcu.own (B := w.heap.size) hg (fun g e => by injection e with e; omega) hC ha, grown_own hgr hg (fun g e => by injection e with e; omega)⟩
theorem Box.set (h : Box w C a len cap R M c vs wk) (hC : C < w.heap.size) (ha : ∀ b off, a = some ⟨b, off, none⟩ → 0 < len → b < w.heap.size) (j : Nat) (v : Value) : Box w C a len cap R M c (vs.set j v) (wk.setCell ⟨M, j, none⟩ v) where
  is := fun k u hk => by
    have hkl : k < vs.length := by have := (List.getElem?_eq_some_iff.1 hk).1; simpa using this
    have hc := h.is k vs[k] (List.getElem?_eq_getElem hkl)
    by_cases e : j = k
    · subst e
      rw [List.getElem?_set_self hkl] at hk
      injection hk with hk; subst hk
      rw [World.cell?_setCell_same _ _ _ hc]
    · rw [List.getElem?_set_ne e, List.getElem?_eq_getElem hkl] at hk
      injection hk with hk; subst hk
      rw [World.cell?_setCell_other _ _ _ _ (by intro q; injection q with _ q; exact e (by omega))]
      exact hc
  fm := fun o => by have := h.fm o; go_simp
  room := h.room.grown h.rhi (gset (gid _ _) v) (by have := h.ne; intro e; injection e with e; omega)
  cur := (cur_set h.cur h.grown hC ha h.mlo v).1
  grown := (cur_set h.cur h.grown hC ha h.mlo v).2
  rlo := h.rlo
  rhi := by have := h.rhi; simpa [World.setCell] using this
  mlo := h.mlo
  mhi := by have := h.mhi; simpa [World.setCell] using this
  ne := h.ne
theorem Box.below (h : Box w C a len cap R M c vs wk) (hb : Below wk.heap.size wk w2) : Box w C a len cap R M c vs w2 where
  is := fun j v hj => by rw [hb.cell (p := ⟨M, j, none⟩) h.mhi]; exact h.is j v hj
  fm := fun o => by rw [hb.frozen (p := ⟨M, o, none⟩) h.mhi]; exact h.fm o
  room := h.room.below h.rhi hb
  cur := h.cur.kept hb
  grown := gbelow h.grown hb
  rlo := h.rlo
  rhi := Nat.lt_of_lt_of_le h.rhi hb.size
  mlo := h.mlo
  mhi := Nat.lt_of_lt_of_le h.mhi hb.size
  ne := h.ne
/-- The record is laid. -/
theorem Box.new (hR : Mine wk R 0 c) (hr1 : w.heap.size ≤ R) (hr2 : R < wk.heap.size) (hcu : Cur wk C a len cap) (hgr : w.grownBy wk (some C)) (vs : List Value) (T : TypeId) :
    Box w C a len cap R wk.heap.size c vs (wk.alloc (.cells vs.toArray T)) where
  is := fun j v hj => by simp only [World.cell?, heap_alloc_new]; simpa using hj
  fm := free_new _ _ _
  room := hR.below hr2 (below_new _ _)
  cur := hcu.kept (below_new _ _)
  grown := grown_new hgr _
  rlo := hr1
  rhi := by simp; omega
  mlo := hgr.size
  mhi := by simp
  ne := by omega
end
end Go.Proofs.YtoabpbdjffonlaaGreatDoor
namespace Go.Proofs.YtoabpbdjffonlaaGreatDoor
open Go.ChangeShapes Go.WideShapes Go.ChangeAt Go.RowKit

/-- The last digit of k. -/
def digB (k : Nat) : UInt8 := UInt8.ofNat (48 + k % 10)
/-- So many more digits of k ahead of what is there. -/
def digs : Nat → Nat → ByteArray → ByteArray
  | 0, _, s => s
  | f + 1, k, s => if k = 0 then s else digs f (k / 10) (⟨#[digB k]⟩ ++ s)
/-- The text of a mark. -/
def markB (k : Nat) : ByteArray := ⟨#[109]⟩ ++ digs 10 k ByteArray.empty

end Go.Proofs.YtoabpbdjffonlaaGreatDoor
namespace Go.Proofs.YtoabpbdjffonlaaGreatDoor
open Go.ChangeShapes Go.WideShapes Go.ChangeAt Go.RowKit

/-- A world in which all that was in w is as it was. -/
structure Grow (w : World) where
  to : World
  ok : Below w.heap.size w to
instance (w : World) : Nonempty (Grow w) := ⟨⟨w, Below.refl _ _⟩⟩
theorem Grow.cell {w : World} {b o : Nat} {v : Value} (h : w.cell? ⟨b, o, none⟩ = some v) : ∀ g : Grow w, g.to.cell? ⟨b, o, none⟩ = some v :=
  fun g => (g.ok.cell (p := ⟨b, o, none⟩) (at_lt h)).trans h
/-- The region's law. -/
theorem wp_region_grow {P : Program} {id : Nat} {Q : Exit → Act → World → Prop} {a : Act} {w : World} {l : List Oper} (hm : P.follows .mixedOrders = true) (hB : Region.lexB .any l.toArray = true)
    (h : wpQuiet P l.toArray (fun w' => ∃ g : Grow w, w' = g.to) (fun a' => ∀ w', (∃ g : Grow w, w' = g.to) → Q .normal a' w') l a) : (Code.region id l.toArray true).wp P Q a w :=
  wp_region_quiet (C := fun w' => ∃ g : Grow w, w' = g.to) hm hB ⟨⟨{ w with drawn := w.drawn + 1 }, below_draws (Below.refl _ _) 1⟩, rfl⟩ (by simpa using h)
/-- A callee that makes memory. -/
theorem grow_call {P : Program} {f : FuncId} {args : Array Value} {w : World} {g : Grow w} {v u : Value} (e : u = v) (h : Calls P f args g.to fun e w' => e = .returned u ∧ Below g.to.heap.size g.to w') :
    Calls P f args g.to fun e w'' => e = .returned v ∧ ∃ g' : Grow w, w'' = g'.to :=
  h.mono fun _ w' ⟨he, hb⟩ => ⟨by rw [he, e], ⟨w', below_trans g.ok hb⟩, rfl⟩
/-- A callee that leaves the world alone. -/
theorem grow_same {P : Program} {f : FuncId} {args : Array Value} {w : World} {g : Grow w} {v u : Value} (e : u = v) (h : Calls P f args g.to fun e w' => e = .returned u ∧ g.to = w') :
    Calls P f args g.to fun e w'' => e = .returned v ∧ ∃ g' : Grow w, w'' = g'.to :=
  h.mono fun _ w' ⟨he, hb⟩ => ⟨by rw [he, e], g, hb.symm⟩
theorem bool_is {a b : Bool} (h : a = b) : Value.bool a = .bool b := by rw [h]
end Go.Proofs.YtoabpbdjffonlaaGreatDoor
namespace Go.Proofs.YtoabpbdjffonlaaGreatDoor
open Go.ChangeShapes Go.WideShapes Go.ChangeAt Go.RowKit

/-- A Mill. -/
structure Mil where
  name : ByteArray
  stake : Int
  shares : Int
  cut : Int
  shut : Bool
def Mil.cs (x : Mil) : List Value := [.string x.name, .int .i64 x.stake, .int .i64 x.shares, .int .i64 x.cut, .bool x.shut]
theorem Mil.len (x : Mil) : x.cs.length = 5 := rfl
theorem Mil.one (x : Mil) : ∀ v ∈ x.cs, v.oneCell' = true := by
  intro v hv
  simp only [Mil.cs, List.mem_cons, List.not_mem_nil, or_false] at hv
  rcases hv with rfl | rfl | rfl | rfl | rfl <;> rfl
/-- The bytes of its strings. -/
def Mil.bytes (x : Mil) : Nat := x.name.size
/-- Its strings are no longer than a machine's. -/
def Mil.fits (x : Mil) : Prop := x.name.size ≤ 9223372036854775807
theorem Mil.at {w : World} {a : Option Addr} {xs : List Mil} (h : Recs Mil.cs w a xs) (k : Nat) (hk : k < xs.length) :
    ∃ b off, a = some ⟨b, off, none⟩ ∧ b < w.heap.size ∧ w.cell? ⟨b, off + k * 5, none⟩ = some (.string xs[k].name) ∧ w.cell? ⟨b, off + k * 5 + 1, none⟩ = some (.int .i64 xs[k].stake) ∧ w.cell? ⟨b, off + k * 5 + 2, none⟩ = some (.int .i64 xs[k].shares) ∧ w.cell? ⟨b, off + k * 5 + 3, none⟩ = some (.int .i64 xs[k].cut) ∧ w.cell? ⟨b, off + k * 5 + 4, none⟩ = some (.bool xs[k].shut) := by
  obtain ⟨b, off, e, hb, hc⟩ := h.cell Mil.len (by omega) k hk
  exact ⟨b, off, e, hb, hc 0 _ rfl, hc 1 _ rfl, hc 2 _ rfl, hc 3 _ rfl, hc 4 _ rfl⟩

/-- What is left behind one: -1 where it is too much. -/
def Mil.left (x : Mil) (left : Int) : Int := if (x.bytes : Int) ≤ left then left - x.bytes else -1

/-- The record of marks from k on. -/
def Mil.mark (k : Nat) : Mil := ⟨markB (k), ((k + 1 : Nat) : Int), ((k + 2 : Nat) : Int), ((k + 3 : Nat) : Int), (((k + 4 : Nat) : Int) % 3 == 0)⟩

end Go.Proofs.YtoabpbdjffonlaaGreatDoor
namespace Go.Proofs.YtoabpbdjffonlaaGreatDoor
open Go.ChangeShapes Go.WideShapes Go.ChangeAt Go.RowKit

/-- A Part. -/
structure Par where
  who : ByteArray
  mill : ByteArray
  shares : Int
def Par.cs (x : Par) : List Value := [.string x.who, .string x.mill, .int .i64 x.shares]
theorem Par.len (x : Par) : x.cs.length = 3 := rfl
theorem Par.one (x : Par) : ∀ v ∈ x.cs, v.oneCell' = true := by
  intro v hv
  simp only [Par.cs, List.mem_cons, List.not_mem_nil, or_false] at hv
  rcases hv with rfl | rfl | rfl <;> rfl
/-- The bytes of its strings. -/
def Par.bytes (x : Par) : Nat := x.who.size + x.mill.size
/-- Its strings are no longer than a machine's. -/
def Par.fits (x : Par) : Prop := x.who.size ≤ 9223372036854775807 ∧ x.mill.size ≤ 9223372036854775807
theorem Par.at {w : World} {a : Option Addr} {xs : List Par} (h : Recs Par.cs w a xs) (k : Nat) (hk : k < xs.length) :
    ∃ b off, a = some ⟨b, off, none⟩ ∧ b < w.heap.size ∧ w.cell? ⟨b, off + k * 3, none⟩ = some (.string xs[k].who) ∧ w.cell? ⟨b, off + k * 3 + 1, none⟩ = some (.string xs[k].mill) ∧ w.cell? ⟨b, off + k * 3 + 2, none⟩ = some (.int .i64 xs[k].shares) := by
  obtain ⟨b, off, e, hb, hc⟩ := h.cell Par.len (by omega) k hk
  exact ⟨b, off, e, hb, hc 0 _ rfl, hc 1 _ rfl, hc 2 _ rfl⟩

/-- What is left behind one: -1 where it is too much. -/
def Par.left (x : Par) (left : Int) : Int := if (x.bytes : Int) ≤ left then left - x.bytes else -1

/-- The record of marks from k on. -/
def Par.mark (k : Nat) : Par := ⟨markB (k), markB (k + 1), ((k + 2 : Nat) : Int)⟩

end Go.Proofs.YtoabpbdjffonlaaGreatDoor
namespace Go.Proofs.YtoabpbdjffonlaaGreatDoor
open Go.ChangeShapes Go.WideShapes Go.ChangeAt Go.RowKit

/-- A Wait. -/
structure Wai where
  who : ByteArray
  mill : ByteArray
  amount : Int
  ripe : Int
def Wai.cs (x : Wai) : List Value := [.string x.who, .string x.mill, .int .i64 x.amount, .int .i64 x.ripe]
theorem Wai.len (x : Wai) : x.cs.length = 4 := rfl
theorem Wai.one (x : Wai) : ∀ v ∈ x.cs, v.oneCell' = true := by
  intro v hv
  simp only [Wai.cs, List.mem_cons, List.not_mem_nil, or_false] at hv
  rcases hv with rfl | rfl | rfl | rfl <;> rfl
/-- The bytes of its strings. -/
def Wai.bytes (x : Wai) : Nat := x.who.size + x.mill.size
/-- Its strings are no longer than a machine's. -/
def Wai.fits (x : Wai) : Prop := x.who.size ≤ 9223372036854775807 ∧ x.mill.size ≤ 9223372036854775807
theorem Wai.at {w : World} {a : Option Addr} {xs : List Wai} (h : Recs Wai.cs w a xs) (k : Nat) (hk : k < xs.length) :
    ∃ b off, a = some ⟨b, off, none⟩ ∧ b < w.heap.size ∧ w.cell? ⟨b, off + k * 4, none⟩ = some (.string xs[k].who) ∧ w.cell? ⟨b, off + k * 4 + 1, none⟩ = some (.string xs[k].mill) ∧ w.cell? ⟨b, off + k * 4 + 2, none⟩ = some (.int .i64 xs[k].amount) ∧ w.cell? ⟨b, off + k * 4 + 3, none⟩ = some (.int .i64 xs[k].ripe) := by
  obtain ⟨b, off, e, hb, hc⟩ := h.cell Wai.len (by omega) k hk
  exact ⟨b, off, e, hb, hc 0 _ rfl, hc 1 _ rfl, hc 2 _ rfl, hc 3 _ rfl⟩

/-- What is left behind one: -1 where it is too much. -/
def Wai.left (x : Wai) (left : Int) : Int := if (x.bytes : Int) ≤ left then left - x.bytes else -1

/-- The record of marks from k on. -/
def Wai.mark (k : Nat) : Wai := ⟨markB (k), markB (k + 1), ((k + 2 : Nat) : Int), ((k + 3 : Nat) : Int)⟩

end Go.Proofs.YtoabpbdjffonlaaGreatDoor
namespace Go.Proofs.YtoabpbdjffonlaaGreatDoor
open Go.ChangeShapes Go.WideShapes Go.ChangeAt Go.RowKit

/-- Is x from lo to hi? -/
def inB (lo hi x : Int) : Bool := decide (lo ≤ x ∧ x ≤ hi)
theorem inB_true {lo hi x : Int} (h : inB lo hi x = true) : lo ≤ x ∧ x ≤ hi := by simpa [inB] using h
theorem l1In_any (x lo hi : Int) (w : World) :
    Calls Tryz.prog 34 #[.int .i64 x, .int .i64 lo, .int .i64 hi] w fun e w' => e = .returned (.bool (inB lo hi x)) ∧ w = w' := by
  by_cases h : lo ≤ x
  · by_cases h2 : x ≤ hi
    · have hb : inB lo hi x = true := by simp [inB, h, h2]
      rw [hb]; clear hb
      go_enter Tryz.func34, Tryz.ntmps34
      go_wp2
      go_ret
      exact ⟨rfl, rfl⟩
    · have hb : inB lo hi x = false := by simp [inB, h2]
      rw [hb]; clear hb
      go_enter Tryz.func34, Tryz.ntmps34
      go_wp2
      go_ret
      exact ⟨rfl, rfl⟩
  · have hb : inB lo hi x = false := by simp [inB, h]
    rw [hb]; clear hb
    go_enter Tryz.func34, Tryz.ntmps34
    go_wp2
    go_ret
    exact ⟨rfl, rfl⟩
end Go.Proofs.YtoabpbdjffonlaaGreatDoor
