/-
  Marks on two lists of the call's own that lie apart.
-/
import Derived.Test.YtbgklakhelcgcaaRecWait
import Derived.Test.YtbgklakhelcgcaaOwnRes
namespace Go.Proofs.Ytbgklakhelcgcaa
open Go.ChangeShapes Go.WideShapes Go.ChangeAt Go.RowKit

theorem OwnR.apart {α : Type} {f : α → List Value} {c : Nat} {w w' : World} {B x : Nat} {a : Option Addr} {xs : List α} (h : OwnR f c w B a xs) (hg : w.grownBy w' (some x)) (hne : ∀ b, a = some ⟨b, 0, none⟩ → xs ≠ [] → b ≠ x) : OwnR f c w' B a xs := by
  by_cases h0 : xs = []
  · subst h0; exact ⟨Lies.nil _ _, .inl rfl⟩
  rcases h.2 with e | ⟨b, rfl, h1, h2, hm⟩
  · exact absurd e h0
  · have hbx := hne b rfl h0
    have hn : some b ≠ some x := by intro e; injection e with e; exact hbx e
    refine ⟨?_, .inr ⟨b, rfl, h1, Nat.lt_of_lt_of_le h2 hg.size, hm.grown h2 hg hn⟩⟩
    intro k v hk
    obtain ⟨b', off, e, hc⟩ := h.1 k v hk
    injection e with e; injection e with e1 e2; subst e1; subst e2
    exact ⟨b, 0, rfl, by rw [grown_keeps hg h2 hn]; exact hc⟩
theorem grown_to {w w' : World} {B b : Nat} (hg : w.grownBy w' (some b)) (hB : B ≤ b) (hs : B ≤ w.heap.size) : Below B w w' :=
  ⟨hg.os, hg.tape, hg.output, hg.size, fun i hi => hg.block i (by omega) (by intro e; injection e with e; omega)⟩
/-- They lie apart. -/
def ApartW (a1 a2 : Option Addr) (o1 o2 : List Wai) : Prop := ∀ b1 b2, a1 = some ⟨b1, 0, none⟩ → a2 = some ⟨b2, 0, none⟩ → o1 ≠ [] → o2 ≠ [] → b1 ≠ b2
/-- The number behind both lists' marks. -/
def markTo2 (c n m : Nat) : Int := ((1 + n * c + m * c : Nat) : Int)
theorem markTo2_pos (c n m : Nat) : 0 ≤ markTo2 c n m := by unfold markTo2; omega

theorem markOne {w : World} {B : Nat} {a1 a2 : Option Addr} {xs ys : List Wai} (cap : Nat) (h1 : OwnR Wai.cs 4 w B a1 xs) (h2 : OwnR Wai.cs 4 w B a2 ys) (ha : ApartW a1 a2 xs ys) (hl : xs.length ≤ 1048576) :
    Calls Try.prog 28 #[.slice a1 xs.length cap, .int .i64 1] w fun e w' => e = .returned (.int .i64 (markTo 4 xs.length)) ∧ Recs Wai.cs w' a1 (marksR Wai.mark 4 1 xs.length) ∧ OwnR Wai.cs 4 w' B a2 ys ∧ Below B w w' := by
  rcases h1.2 with rfl | ⟨b, rfl, q1, q2, hm⟩
  · refine (markWaitS_none a1 cap 1).mono ?_
    rintro e w' ⟨rfl, rfl⟩
    exact ⟨rfl, Lies.nil _ _, h2, Below.refl _ _⟩
  · by_cases h0 : xs = []
    · subst h0
      refine (markWaitS_none _ cap 1).mono ?_
      rintro e w' ⟨rfl, rfl⟩
      exact ⟨rfl, Lies.nil _ _, h2, Below.refl _ _⟩
    · refine (markWaitS_any cap 1 hm q2 (by omega) (by omega)).mono ?_
      rintro e w' ⟨rfl, hw⟩
      refine ⟨rfl, hw.lies (by rw [flat_length Wai.len, marksR_length]; exact Nat.le_refl _), h2.apart hw.grown (fun b2 e hy he => ha b b2 rfl e h0 hy he.symm), grown_to hw.grown q1 (by omega)⟩

theorem markSecond {w : World} {B n : Nat} {a1 a2 : Option Addr} {ys : List Wai} (cap : Nat) (h1 : Recs Wai.cs w a1 (marksR Wai.mark 4 1 n)) (hf : n = 0 ∨ ∃ b, a1 = some ⟨b, 0, none⟩ ∧ b < w.heap.size) (h2 : OwnR Wai.cs 4 w B a2 ys) (ha : ∀ b1 b2, a1 = some ⟨b1, 0, none⟩ → a2 = some ⟨b2, 0, none⟩ → n ≠ 0 → ys ≠ [] → b1 ≠ b2) (hn : n ≤ 1048576) (hl : ys.length ≤ 1048576) :
    Calls Try.prog 28 #[.slice a2 ys.length cap, .int .i64 (markTo 4 n)] w fun e w' => e = .returned (.int .i64 (markTo2 4 n ys.length)) ∧ Recs Wai.cs w' a2 (marksR Wai.mark 4 (1 + n * 4) ys.length) ∧ Recs Wai.cs w' a1 (marksR Wai.mark 4 1 n) ∧ Below B w w' := by
  by_cases h0 : ys = []
  · subst h0
    refine (markWaitS_none a2 cap (1 + n * 4)).mono ?_
    rintro e w' ⟨rfl, rfl⟩
    exact ⟨by simp [markTo2], Lies.nil _ _, h1, Below.refl _ _⟩
  rcases h2.2 with e | ⟨b, rfl, q1, q2, hm⟩
  · exact absurd e h0
  · refine (markWaitS_any cap (1 + n * 4) hm q2 (by omega) (by omega)).mono ?_
    rintro e w' ⟨rfl, hw⟩
    refine ⟨rfl, hw.lies (by rw [flat_length Wai.len, marksR_length]; exact Nat.le_refl _), ?_, grown_to hw.grown q1 (by omega)⟩
    rcases hf with rfl | ⟨b1, rfl, hb1⟩
    · exact Lies.nil _ _
    · by_cases hn0 : n = 0
      · subst hn0; exact Lies.nil _ _
      · have hne := ha b1 b rfl rfl hn0 h0
        have hns : some b1 ≠ some b := by intro e; injection e with e; exact hne e
        intro j v hj
        obtain ⟨b', off, e, hc⟩ := h1 j v hj
        injection e with e; injection e with e1 e2; subst e1; subst e2
        exact ⟨b1, 0, rfl, by rw [grown_keeps hw.grown hb1 hns]; exact hc⟩
theorem heldSecond {w : World} {a : Option Addr} {n m : Nat} (cap : Nat) (h : Recs Wai.cs w a (marksR Wai.mark 4 (1 + n * 4) m)) (hn : n ≤ 1048576) (hl : m ≤ 1048576) :
    Calls Try.prog 32 #[.slice a m cap, .int .i64 (markTo 4 n)] w fun e w' => e = .returned (.int .i64 (markTo2 4 n m)) ∧ Below w.heap.size w w' :=
  heldWaitS_any cap (1 + n * 4) h (by omega) (by omega)
end Go.Proofs.Ytbgklakhelcgcaa
