/-
  The map of parts that the program fills: under each key, whose and of which mill, the shares.
-/
import Derived.Test.YtpmibegfpfjdgaaMapG
import Derived.Test.YtpmibegfpfjdgaaFacts5
import Derived.DeepKeys4
namespace Go.Proofs.Ytpmibegfpfjdgaa
open Go.ChangeShapes Go.WideShapes Go.ChangeAt Go.RowKit
open Go.Maps (Keyed KeysOf)

theorem laidMap : laidOutB Try.prog = true := by kernel_rfl

theorem keyK : Keyed Try.prog 55 := Keyed.of_law (deep_law_laid laidMap (m := 2) (by omega) (of_decide_eq_true (by kernel_rfl)) (by kernel_rfl) (by kernel_rfl))

theorem keyCells : Try.prog.cellsOf 55 = 2 := by kernel_rfl

theorem keyType5 : Try.prog.keyType 55 = true := by kernel_rfl

theorem keyCells9 : Try.prog.cellsOf 9 = 1 := by kernel_rfl

/-- The key as a value. -/
abbrev keyV (who mill : ByteArray) : Value := .agg #[.string who, .string mill]

noncomputable def keyAt (who mill : ByteArray) : Lit := (keyOf Try.prog 55 (keyV who mill)).getD (.bool false)
noncomputable def keyL (p : Par) : Lit := keyAt p.who p.mill

theorem keyLits_pair (n : Nat) {who mill : ByteArray} (h1 : who.size ≤ maxLen) (h2 : mill.size ≤ maxLen) : Try.prog.keyLits (n + 2) 55 [.string who, .string mill] = some [.string who.data.toList, .string mill.data.toList] := by
  simp [Program.keyLits, Try.underlying55, Try.underlying9, keyCells, keyCells9, h1, h2]

theorem keyOf_pair {who mill : ByteArray} (h1 : who.size ≤ maxLen) (h2 : mill.size ≤ maxLen) : keyOf Try.prog 55 (keyV who mill) = some (keyAt who mill) := by
  have : keyOf Try.prog 55 (keyV who mill) = some (.string (keyBytes [.string who.data.toList, .string mill.data.toList])) := by
    have hk : Try.prog.keyLits (Try.prog.types.size + 1) 55 [.string who, .string mill] = some [.string who.data.toList, .string mill.data.toList] := by
      obtain ⟨n, hn⟩ : ∃ n, Try.prog.types.size + 1 = n + 2 := ⟨Try.prog.types.size - 1, by have : 0 < Try.prog.types.size := of_decide_eq_true (by kernel_rfl); omega⟩
      rw [hn]; exact keyLits_pair n h1 h2
    unfold keyOf
    rw [Try.underlying55]
    simp only [keyType5, Value.formed, Try.underlying55, Value.cells, keyCells]
    rw [hk]
    rfl
  unfold keyAt
  rw [this]; rfl
theorem keyOf_par {p : Par} (h : p.who.size ≤ maxLen ∧ p.mill.size ≤ maxLen) : keyOf Try.prog 55 (keyV p.who p.mill) = some (keyL p) := keyOf_pair h.1 h.2
theorem keyAt_inj {a b c d : ByteArray} (h1 : a.size ≤ maxLen) (h2 : b.size ≤ maxLen) (h3 : c.size ≤ maxLen) (h4 : d.size ≤ maxLen) (h : keyAt a b = keyAt c d) : a = c ∧ b = d := by
  have := keyK.inj (keyOf_pair h1 h2) ((keyOf_pair h3 h4).trans (congrArg some h.symm))
  injection this with this
  injection this with this
  injection this with e1 this
  injection this with e2 _
  injection e1 with e1
  injection e2 with e2
  exact ⟨e1, e2⟩

/-- The shares as an element, whatever they are. -/
def sharesR (v : Value) : Option (DataW Unit × List MemPlace) :=
  match v with
  | .int .i64 n => some (.lit (.int .i64 n), [])
  | _ => none
def sharesD (p : Par) : DataW Unit := .lit (.int .i64 p.shares)
theorem sharesR_inv {v : Value} {n : Int} {ps : List MemPlace} (h : sharesR v = some (.lit (.int .i64 n), ps)) : v = .int .i64 n := by
  unfold sharesR at h
  split at h
  · injection h with h; injection h with h; injection h with h; injection h with _ h; rw [h]
  · cases h

/-- Block b is a map of these parts. -/
abbrev Holds5 (w : World) (b : Nat) (ps : List Par) : Prop := MapIs Try.prog 55 sharesR keyL sharesD w b ps
abbrev Ranges5 (w : World) (b r : Nat) (ps todo : List Par) : Prop := RangeIs Try.prog 55 sharesR keyL sharesD w b r ps todo
end Go.Proofs.Ytpmibegfpfjdgaa
