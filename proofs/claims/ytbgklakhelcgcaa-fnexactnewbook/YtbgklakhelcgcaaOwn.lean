/-
  A list of purses of a call's own: it may be marked, and what was marked is held.
-/
import Derived.Test.YtbgklakhelcgcaaPursLaw
import Derived.Test.YtbgklakhelcgcaaPay
namespace Go.Proofs.Ytbgklakhelcgcaa
open Go.ChangeShapes Go.WideShapes Go.ChangeAt Go.RowKit

/-- A list that lies in a block of its own, from block B on, and may be written. -/
def OwnP (w : World) (B : Nat) (a : Option Addr) (ps : List Pur) : Prop :=
  Purs w a ps ∧ (ps = [] ∨ ∃ b, a = some ⟨b, 0, none⟩ ∧ B ≤ b ∧ b < w.heap.size ∧ Mine w b 0 (ps.length * 2))
theorem OwnP.below {w w' : World} {B : Nat} {a : Option Addr} {ps : List Pur} (h : OwnP w B a ps) (hb : Below w.heap.size w w') : OwnP w' B a ps := by
  refine ⟨h.1.below hb, ?_⟩
  rcases h.2 with h0 | ⟨b, e, h1, h2, hm⟩
  · exact .inl h0
  · exact .inr ⟨b, e, h1, Nat.lt_of_lt_of_le h2 hb.size, hm.below h2 hb⟩
theorem OwnP.grown {w w' : World} {B x : Nat} {a : Option Addr} {ps : List Pur} (h : OwnP w B a ps) (hg : w.grownBy w' (some x)) (hx : x < B) : OwnP w' B a ps := by
  rcases h.2 with rfl | ⟨b, rfl, h1, h2, hm⟩
  · exact ⟨Lies.nil _ _, .inl rfl⟩
  · have hne : some b ≠ some x := by intro e; injection e with e; omega
    refine ⟨?_, .inr ⟨b, rfl, h1, Nat.lt_of_lt_of_le h2 hg.size, hm.grown h2 hg hne⟩⟩
    intro k v hk
    obtain ⟨b', off, e, hc⟩ := h.1 k v hk
    injection e with e; injection e with e1 e2; subst e1; subst e2
    exact ⟨b, 0, rfl, by rw [grown_keeps hg h2 hne]; exact hc⟩
theorem OwnP.mono {w : World} {B B' : Nat} {a : Option Addr} {ps : List Pur} (h : OwnP w B a ps) (hB : B' ≤ B) : OwnP w B' a ps := by
  refine ⟨h.1, ?_⟩
  rcases h.2 with h0 | ⟨b, e, h1, h2, hm⟩
  · exact .inl h0
  · exact .inr ⟨b, e, by omega, h2, hm⟩
theorem Purs.under {w w' : World} {B : Nat} {a : Option Addr} {ps : List Pur} (h : Purs w a ps) (hb : Below B w w') (hB : ∀ b off, a = some ⟨b, off, none⟩ → 0 < ps.length → b < B) : Purs w' a ps :=
  Lies.under h hb (fun b off e hl => hB b off e (by rw [pcells_length] at hl; omega))
theorem Purs.old {w : World} {a : Option Addr} {ps : List Pur} (h : Purs w a ps) : ∀ b off, a = some ⟨b, off, none⟩ → 0 < ps.length → b < w.heap.size :=
  fun b off e hl => Lies.old h b off e (by rw [pcells_length]; omega)

/-- The number behind the last mark. -/
def markEnd (n : Nat) : Int := ((1 + n * 2 : Nat) : Int)
theorem markEnd_pos (n : Nat) : 0 ≤ markEnd n := by unfold markEnd; omega

theorem mark_first {w : World} {b n : Nat} (cap : Nat) (h : Mine w b 0 (n * 2)) (hb : b < w.heap.size) (hl : n ≤ 1048576) :
    Calls Try.prog 10 #[.slice (some ⟨b, 0, none⟩) n cap, .int .i64 1] w fun e w' => e = .returned (.int .i64 (markEnd n)) ∧ w.grownBy w' (some b) :=
  (markPurseS_any cap 1 h hb (by omega) (by omega)).mono fun _ _ ⟨he, hw⟩ => ⟨he, hw.grown⟩

set_option maxHeartbeats 1000000 in
set_option maxRecDepth 100000 in
theorem mark_none {w : World} (a : Option Addr) (cap : Nat) : Calls Try.prog 10 #[.slice a 0 cap, .int .i64 1] w fun e w' => e = .returned (.int .i64 (markEnd 0)) ∧ w = w' := by
  go_enter Try.func10, Try.ntmps10
  go_wp2
  go_loop [1, 5] (fun t i => t = .int .i64 1 ∧ i = .int .i64 0) (fun _ _ => 0)
  case atStart => exact ⟨rfl, rfl⟩
  case round =>
    obtain ⟨rfl, rfl⟩ := hrel
    go_wp2
    go_ret
    exact ⟨rfl, rfl⟩

/-- What marks leave of a list of the call's own. -/
def Marked (w : World) (B : Nat) (a : Option Addr) (n : Nat) (e : Ending) (w' : World) : Prop := e = .returned (.int .i64 (markEnd n)) ∧ Purs w' a (pmarks 1 n) ∧ Below B w w'

theorem mark_own {w : World} {B : Nat} {a : Option Addr} {ps : List Pur} (cap : Nat) (h : OwnP w B a ps) (hl : ps.length ≤ 1048576) :
    Calls Try.prog 10 #[.slice a ps.length cap, .int .i64 1] w (Marked w B a ps.length) := by
  rcases h.2 with rfl | ⟨b, rfl, h1, h2, hm⟩
  · refine (mark_none a cap).mono ?_
    rintro e w' ⟨rfl, rfl⟩
    exact ⟨rfl, Lies.nil _ _, Below.refl _ _⟩
  · refine (markPurseS_any cap 1 hm h2 (by omega) (by omega)).mono ?_
    rintro e w' ⟨rfl, hw⟩
    refine ⟨rfl, hw.lies (by rw [pcells_length, pmarks_length]; exact Nat.le_refl _), ?_⟩
    exact ⟨hw.grown.os, hw.grown.tape, hw.grown.output, hw.grown.size, fun i hi => hw.grown.block i (by omega) (by intro e; injection e with e; omega)⟩

theorem held_own {w : World} {a : Option Addr} {n : Nat} (cap : Nat) (h : Purs w a (pmarks 1 n)) (hl : n ≤ 1048576) :
    Calls Try.prog 29 #[.slice a n cap, .int .i64 1] w fun e w' => e = .returned (.int .i64 (markEnd n)) ∧ Below w.heap.size w w' :=
  heldPurseS_any cap 1 h (by omega) (by omega)

theorem payL_le (ps : List Pur) (s : ByteArray) (n d : Int) : (payL ps s n d).length ≤ ps.length := by
  unfold payL
  split
  · split
    · rw [setFree_length]; exact Nat.le_refl _
    · exact Nat.le_refl _
  · exact Nat.zero_le _
end Go.Proofs.Ytbgklakhelcgcaa
