/-
  Texts joined: DeedF, Rdr, Told, KindI, SplitS, SumS.
-/
import Derived.Test.YtoabpbdjffonlaaGreatDoorP1
import Derived.Test.YtoabpbdjffonlaaGreatDoorP2
import Derived.Test.YtoabpbdjffonlaaGreatDoorP4
import Derived.Test.YtoabpbdjffonlaaGreatDoorP7
import Derived.Test.YtoabpbdjffonlaaGreatDoorP8
import Derived.Test.YtoabpbdjffonlaaGreatDoorP9
import Derived.WalkKit
import Derived.BigQuiet
import Derived.WalkMore
import Derived.LoopN
namespace Go.Proofs.YtoabpbdjffonlaaGreatDoor
set_option linter.unusedSimpArgs false
open Go.Lib

def countB (s : ByteArray) : Bool := match readL s.data.toList with
  | some n => decide (0 ≤ n)
  | none => false
theorem name_empty : nameB ByteArray.empty = false := by decide
theorem count_empty : countB ByteArray.empty = false := by decide
theorem readL_bd {s : ByteArray} {n : Int} (h : readL s.data.toList = some n) : n ≤ 999999999 := by have := (readL_some h).2; omega
theorem nameIs_t (s : ByteArray) : nameIs s true = nameB s := rfl
theorem nameIs_e : nameIs ByteArray.empty false = true := by
  unfold nameIs; rw [if_neg (by simp), ByteArray.toList_eq]; rfl
theorem dk_1 (who mill to : ByteArray) (n : Int) : deedB ⟨1, who, mill, to, n⟩ = (nameIs who false && (nameIs mill true && (nameIs to false && inB 0 999999999 n))) := by
  simp only [deedB, mostN, show hasB (tellsS 1) 87 = false by decide, show hasB (tellsS 1) 77 = true by decide, show hasB (tellsS 1) 84 = false by decide, show hasB (tellsS 1) 78 = true by decide]; rfl
theorem dk_2 (who mill to : ByteArray) (n : Int) : deedB ⟨2, who, mill, to, n⟩ = (nameIs who true && (nameIs mill false && (nameIs to false && inB 0 0 n))) := by
  simp only [deedB, mostN, show hasB (tellsS 2) 87 = true by decide, show hasB (tellsS 2) 77 = false by decide, show hasB (tellsS 2) 84 = false by decide, show hasB (tellsS 2) 78 = false by decide]; rfl
theorem dk_3 (who mill to : ByteArray) (n : Int) : deedB ⟨3, who, mill, to, n⟩ = (nameIs who false && (nameIs mill true && (nameIs to false && inB 0 999999999 n))) := by
  simp only [deedB, mostN, show hasB (tellsS 3) 87 = false by decide, show hasB (tellsS 3) 77 = true by decide, show hasB (tellsS 3) 84 = false by decide, show hasB (tellsS 3) 78 = true by decide]; rfl
theorem dk_4 (who mill to : ByteArray) (n : Int) : deedB ⟨4, who, mill, to, n⟩ = (nameIs who true && (nameIs mill true && (nameIs to false && inB 0 999999999 n))) := by
  simp only [deedB, mostN, show hasB (tellsS 4) 87 = true by decide, show hasB (tellsS 4) 77 = true by decide, show hasB (tellsS 4) 84 = false by decide, show hasB (tellsS 4) 78 = true by decide]; rfl
theorem dk_5 (who mill to : ByteArray) (n : Int) : deedB ⟨5, who, mill, to, n⟩ = (nameIs who true && (nameIs mill true && (nameIs to false && inB 0 999999999 n))) := by
  simp only [deedB, mostN, show hasB (tellsS 5) 87 = true by decide, show hasB (tellsS 5) 77 = true by decide, show hasB (tellsS 5) 84 = false by decide, show hasB (tellsS 5) 78 = true by decide]; rfl
theorem dk_6 (who mill to : ByteArray) (n : Int) : deedB ⟨6, who, mill, to, n⟩ = (nameIs who true && (nameIs mill true && (nameIs to true && inB 0 999999999 n))) := by
  simp only [deedB, mostN, show hasB (tellsS 6) 87 = true by decide, show hasB (tellsS 6) 77 = true by decide, show hasB (tellsS 6) 84 = true by decide, show hasB (tellsS 6) 78 = true by decide]; rfl
theorem dk_7 (who mill to : ByteArray) (n : Int) : deedB ⟨7, who, mill, to, n⟩ = (nameIs who false && (nameIs mill true && (nameIs to false && inB 0 999999999 n))) := by
  simp only [deedB, mostN, show hasB (tellsS 7) 87 = false by decide, show hasB (tellsS 7) 77 = true by decide, show hasB (tellsS 7) 84 = false by decide, show hasB (tellsS 7) 78 = true by decide]; rfl
theorem dk_8 (who mill to : ByteArray) (n : Int) : deedB ⟨8, who, mill, to, n⟩ = (nameIs who false && (nameIs mill true && (nameIs to false && inB 0 0 n))) := by
  simp only [deedB, mostN, show hasB (tellsS 8) 87 = false by decide, show hasB (tellsS 8) 77 = true by decide, show hasB (tellsS 8) 84 = false by decide, show hasB (tellsS 8) 78 = false by decide]; rfl
theorem dk_9 (who mill to : ByteArray) (n : Int) : deedB ⟨9, who, mill, to, n⟩ = (nameIs who false && (nameIs mill true && (nameIs to false && inB 0 999999999 n))) := by
  simp only [deedB, mostN, show hasB (tellsS 9) 87 = false by decide, show hasB (tellsS 9) 77 = true by decide, show hasB (tellsS 9) 84 = false by decide, show hasB (tellsS 9) 78 = true by decide]; rfl
theorem dk_10 (who mill to : ByteArray) (n : Int) : deedB ⟨10, who, mill, to, n⟩ = (nameIs who true && (nameIs mill false && (nameIs to true && inB 0 999999999 n))) := by
  simp only [deedB, mostN, show hasB (tellsS 10) 87 = true by decide, show hasB (tellsS 10) 77 = false by decide, show hasB (tellsS 10) 84 = true by decide, show hasB (tellsS 10) 78 = true by decide]; rfl
theorem dk_11 (who mill to : ByteArray) (n : Int) : deedB ⟨11, who, mill, to, n⟩ = (nameIs who false && (nameIs mill false && (nameIs to false && inB 0 0 n))) := by
  simp only [deedB, mostN, show hasB (tellsS 11) 87 = false by decide, show hasB (tellsS 11) 77 = false by decide, show hasB (tellsS 11) 84 = false by decide, show hasB (tellsS 11) 78 = false by decide]; rfl
theorem rd_1 (x0 : ByteArray) (rest : List ByteArray) : readW (x0 :: rest) 1 = if (!((false || !nameB (sat rest 0)) || !countB (sat rest.tail 0)) && rest.tail.tail.isEmpty) = true then some ⟨1, ByteArray.empty, sat rest 0, ByteArray.empty, (readL (sat rest.tail 0).data.toList).getD 0⟩ else none := by
  rcases rest with _ | ⟨a, _ | ⟨b, _ | ⟨c, r⟩⟩⟩
  · simp [readW, tellsS, sat, ByteArray.size, name_empty, count_empty]
  · simp [readW, tellsS, sat, ByteArray.size, name_empty, count_empty]
  · cases hn : readL b.data.toList with
    | none => simp [readW, runR, stepR, tellsS, byteN, sat, zeroD, dk_1, nameIs_t, nameIs_e, inB, countB, ByteArray.size, hn]
    | some n =>
      have hb := readL_bd hn
      simp [readW, runR, stepR, tellsS, byteN, sat, zeroD, dk_1, nameIs_t, nameIs_e, inB, countB, ByteArray.size, hn, hb, and_assoc]
  · simp [readW, tellsS, sat, ByteArray.size, name_empty, count_empty]
theorem rd_2 (x0 : ByteArray) (rest : List ByteArray) : readW (x0 :: rest) 2 = if (!(false || !nameB (sat rest 0)) && rest.tail.isEmpty) = true then some ⟨2, sat rest 0, ByteArray.empty, ByteArray.empty, 0⟩ else none := by
  rcases rest with _ | ⟨a, _ | ⟨b, r⟩⟩
  · simp [readW, tellsS, sat, ByteArray.size, name_empty, count_empty]
  · simp [readW, runR, stepR, tellsS, byteN, sat, zeroD, dk_2, nameIs_t, nameIs_e, inB, ByteArray.size, name_empty, count_empty, and_assoc]
  · simp [readW, tellsS, sat, ByteArray.size, name_empty, count_empty]
theorem rd_3 (x0 : ByteArray) (rest : List ByteArray) : readW (x0 :: rest) 3 = if (!((false || !nameB (sat rest 0)) || !countB (sat rest.tail 0)) && rest.tail.tail.isEmpty) = true then some ⟨3, ByteArray.empty, sat rest 0, ByteArray.empty, (readL (sat rest.tail 0).data.toList).getD 0⟩ else none := by
  rcases rest with _ | ⟨a, _ | ⟨b, _ | ⟨c, r⟩⟩⟩
  · simp [readW, tellsS, sat, ByteArray.size, name_empty, count_empty]
  · simp [readW, tellsS, sat, ByteArray.size, name_empty, count_empty]
  · cases hn : readL b.data.toList with
    | none => simp [readW, runR, stepR, tellsS, byteN, sat, zeroD, dk_3, nameIs_t, nameIs_e, inB, countB, ByteArray.size, hn]
    | some n =>
      have hb := readL_bd hn
      simp [readW, runR, stepR, tellsS, byteN, sat, zeroD, dk_3, nameIs_t, nameIs_e, inB, countB, ByteArray.size, hn, hb, and_assoc]
  · simp [readW, tellsS, sat, ByteArray.size, name_empty, count_empty]
theorem rd_4 (x0 : ByteArray) (rest : List ByteArray) : readW (x0 :: rest) 4 = if (!(((false || !nameB (sat rest 0)) || !nameB (sat rest.tail 0)) || !countB (sat rest.tail.tail 0)) && rest.tail.tail.tail.isEmpty) = true then some ⟨4, sat rest 0, sat rest.tail 0, ByteArray.empty, (readL (sat rest.tail.tail 0).data.toList).getD 0⟩ else none := by
  rcases rest with _ | ⟨a, _ | ⟨b, _ | ⟨c, _ | ⟨d, r⟩⟩⟩⟩
  · simp [readW, tellsS, sat, ByteArray.size, name_empty, count_empty]
  · simp [readW, tellsS, sat, ByteArray.size, name_empty, count_empty]
  · simp [readW, tellsS, sat, ByteArray.size, name_empty, count_empty]
  · cases hn : readL c.data.toList with
    | none => simp [readW, runR, stepR, tellsS, byteN, sat, zeroD, dk_4, nameIs_t, nameIs_e, inB, countB, ByteArray.size, hn]
    | some n =>
      have hb := readL_bd hn
      simp [readW, runR, stepR, tellsS, byteN, sat, zeroD, dk_4, nameIs_t, nameIs_e, inB, countB, ByteArray.size, hn, hb, and_assoc]
  · simp [readW, tellsS, sat, ByteArray.size, name_empty, count_empty]
theorem rd_5 (x0 : ByteArray) (rest : List ByteArray) : readW (x0 :: rest) 5 = if (!(((false || !nameB (sat rest 0)) || !nameB (sat rest.tail 0)) || !countB (sat rest.tail.tail 0)) && rest.tail.tail.tail.isEmpty) = true then some ⟨5, sat rest 0, sat rest.tail 0, ByteArray.empty, (readL (sat rest.tail.tail 0).data.toList).getD 0⟩ else none := by
  rcases rest with _ | ⟨a, _ | ⟨b, _ | ⟨c, _ | ⟨d, r⟩⟩⟩⟩
  · simp [readW, tellsS, sat, ByteArray.size, name_empty, count_empty]
  · simp [readW, tellsS, sat, ByteArray.size, name_empty, count_empty]
  · simp [readW, tellsS, sat, ByteArray.size, name_empty, count_empty]
  · cases hn : readL c.data.toList with
    | none => simp [readW, runR, stepR, tellsS, byteN, sat, zeroD, dk_5, nameIs_t, nameIs_e, inB, countB, ByteArray.size, hn]
    | some n =>
      have hb := readL_bd hn
      simp [readW, runR, stepR, tellsS, byteN, sat, zeroD, dk_5, nameIs_t, nameIs_e, inB, countB, ByteArray.size, hn, hb, and_assoc]
  · simp [readW, tellsS, sat, ByteArray.size, name_empty, count_empty]
theorem rd_6 (x0 : ByteArray) (rest : List ByteArray) : readW (x0 :: rest) 6 = if (!((((false || !nameB (sat rest 0)) || !nameB (sat rest.tail 0)) || !nameB (sat rest.tail.tail 0)) || !countB (sat rest.tail.tail.tail 0)) && rest.tail.tail.tail.tail.isEmpty) = true then some ⟨6, sat rest 0, sat rest.tail 0, sat rest.tail.tail 0, (readL (sat rest.tail.tail.tail 0).data.toList).getD 0⟩ else none := by
  rcases rest with _ | ⟨a, _ | ⟨b, _ | ⟨c, _ | ⟨d, _ | ⟨e, r⟩⟩⟩⟩⟩
  · simp [readW, tellsS, sat, ByteArray.size, name_empty, count_empty]
  · simp [readW, tellsS, sat, ByteArray.size, name_empty, count_empty]
  · simp [readW, tellsS, sat, ByteArray.size, name_empty, count_empty]
  · simp [readW, tellsS, sat, ByteArray.size, name_empty, count_empty]
  · cases hn : readL d.data.toList with
    | none => simp [readW, runR, stepR, tellsS, byteN, sat, zeroD, dk_6, nameIs_t, nameIs_e, inB, countB, ByteArray.size, hn]
    | some n =>
      have hb := readL_bd hn
      simp [readW, runR, stepR, tellsS, byteN, sat, zeroD, dk_6, nameIs_t, nameIs_e, inB, countB, ByteArray.size, hn, hb, and_assoc]
  · simp [readW, tellsS, sat, ByteArray.size, name_empty, count_empty]
theorem rd_7 (x0 : ByteArray) (rest : List ByteArray) : readW (x0 :: rest) 7 = if (!((false || !nameB (sat rest 0)) || !countB (sat rest.tail 0)) && rest.tail.tail.isEmpty) = true then some ⟨7, ByteArray.empty, sat rest 0, ByteArray.empty, (readL (sat rest.tail 0).data.toList).getD 0⟩ else none := by
  rcases rest with _ | ⟨a, _ | ⟨b, _ | ⟨c, r⟩⟩⟩
  · simp [readW, tellsS, sat, ByteArray.size, name_empty, count_empty]
  · simp [readW, tellsS, sat, ByteArray.size, name_empty, count_empty]
  · cases hn : readL b.data.toList with
    | none => simp [readW, runR, stepR, tellsS, byteN, sat, zeroD, dk_7, nameIs_t, nameIs_e, inB, countB, ByteArray.size, hn]
    | some n =>
      have hb := readL_bd hn
      simp [readW, runR, stepR, tellsS, byteN, sat, zeroD, dk_7, nameIs_t, nameIs_e, inB, countB, ByteArray.size, hn, hb, and_assoc]
  · simp [readW, tellsS, sat, ByteArray.size, name_empty, count_empty]
theorem rd_8 (x0 : ByteArray) (rest : List ByteArray) : readW (x0 :: rest) 8 = if (!(false || !nameB (sat rest 0)) && rest.tail.isEmpty) = true then some ⟨8, ByteArray.empty, sat rest 0, ByteArray.empty, 0⟩ else none := by
  rcases rest with _ | ⟨a, _ | ⟨b, r⟩⟩
  · simp [readW, tellsS, sat, ByteArray.size, name_empty, count_empty]
  · simp [readW, runR, stepR, tellsS, byteN, sat, zeroD, dk_8, nameIs_t, nameIs_e, inB, ByteArray.size, name_empty, count_empty, and_assoc]
  · simp [readW, tellsS, sat, ByteArray.size, name_empty, count_empty]
theorem rd_9 (x0 : ByteArray) (rest : List ByteArray) : readW (x0 :: rest) 9 = if (!((false || !nameB (sat rest 0)) || !countB (sat rest.tail 0)) && rest.tail.tail.isEmpty) = true then some ⟨9, ByteArray.empty, sat rest 0, ByteArray.empty, (readL (sat rest.tail 0).data.toList).getD 0⟩ else none := by
  rcases rest with _ | ⟨a, _ | ⟨b, _ | ⟨c, r⟩⟩⟩
  · simp [readW, tellsS, sat, ByteArray.size, name_empty, count_empty]
  · simp [readW, tellsS, sat, ByteArray.size, name_empty, count_empty]
  · cases hn : readL b.data.toList with
    | none => simp [readW, runR, stepR, tellsS, byteN, sat, zeroD, dk_9, nameIs_t, nameIs_e, inB, countB, ByteArray.size, hn]
    | some n =>
      have hb := readL_bd hn
      simp [readW, runR, stepR, tellsS, byteN, sat, zeroD, dk_9, nameIs_t, nameIs_e, inB, countB, ByteArray.size, hn, hb, and_assoc]
  · simp [readW, tellsS, sat, ByteArray.size, name_empty, count_empty]
theorem rd_10 (x0 : ByteArray) (rest : List ByteArray) : readW (x0 :: rest) 10 = if (!(((false || !nameB (sat rest 0)) || !nameB (sat rest.tail 0)) || !countB (sat rest.tail.tail 0)) && rest.tail.tail.tail.isEmpty) = true then some ⟨10, sat rest 0, ByteArray.empty, sat rest.tail 0, (readL (sat rest.tail.tail 0).data.toList).getD 0⟩ else none := by
  rcases rest with _ | ⟨a, _ | ⟨b, _ | ⟨c, _ | ⟨d, r⟩⟩⟩⟩
  · simp [readW, tellsS, sat, ByteArray.size, name_empty, count_empty]
  · simp [readW, tellsS, sat, ByteArray.size, name_empty, count_empty]
  · simp [readW, tellsS, sat, ByteArray.size, name_empty, count_empty]
  · cases hn : readL c.data.toList with
    | none => simp [readW, runR, stepR, tellsS, byteN, sat, zeroD, dk_10, nameIs_t, nameIs_e, inB, countB, ByteArray.size, hn]
    | some n =>
      have hb := readL_bd hn
      simp [readW, runR, stepR, tellsS, byteN, sat, zeroD, dk_10, nameIs_t, nameIs_e, inB, countB, ByteArray.size, hn, hb, and_assoc]
  · simp [readW, tellsS, sat, ByteArray.size, name_empty, count_empty]
theorem rd_11 (x0 : ByteArray) (rest : List ByteArray) : readW (x0 :: rest) 11 = if (!false && rest.isEmpty) = true then some ⟨11, ByteArray.empty, ByteArray.empty, ByteArray.empty, 0⟩ else none := by
  rcases rest with _ | ⟨a, r⟩
  · simp [readW, runR, stepR, tellsS, byteN, sat, zeroD, dk_11, nameIs_t, nameIs_e, inB, ByteArray.size, name_empty, count_empty, and_assoc]
  · simp [readW, tellsS, sat, ByteArray.size, name_empty, count_empty]
end Go.Proofs.YtoabpbdjffonlaaGreatDoor
namespace Go.Proofs.YtoabpbdjffonlaaGreatDoor
open Go.ChangeShapes Go.WideShapes Go.ChangeAt Go.RowKit

/-- Nothing but block R has turned. -/
def Adv (R : Nat) (w w' : World) : Prop := Below R w w' ∧ ∀ b, b ≠ R → b < w.heap.size → w'.heap[b]? = w.heap[b]?
theorem Adv.refl (R : Nat) (w : World) : Adv R w w := ⟨Below.refl _ _, fun _ _ _ => rfl⟩
theorem Adv.trans {R : Nat} {a b c : World} (h : Adv R a b) (k : Adv R b c) : Adv R a c :=
  ⟨h.1.trans k.1, fun i h1 h2 => (k.2 i h1 (Nat.lt_of_lt_of_le h2 h.1.size)).trans (h.2 i h1 h2)⟩
theorem Adv.of {R : Nat} {w w' : World} (h : Below w.heap.size w w') (hR : R ≤ w.heap.size) : Adv R w w' := ⟨h.mono hR, fun b _ hb => h.block b hb⟩
theorem Adv.set (R o : Nat) (w : World) (v : Value) : Adv R w (w.setCell ⟨R, o, none⟩ v) :=
  ⟨(Below.refl R w).setCell (Nat.le_refl _) v, fun b h1 _ => Below.heap_setCell w ⟨R, o, none⟩ v b h1⟩
theorem Adv.cell {R : Nat} {w w' : World} (h : Adv R w w') {b o : Nat} (h1 : b ≠ R) (h2 : b < w.heap.size) : w'.cell? ⟨b, o, none⟩ = w.cell? ⟨b, o, none⟩ := World.cell?_of_block (w := w) (h.2 b h1 h2)
theorem Adv.frozen {R : Nat} {w w' : World} (h : Adv R w w') {b o : Nat} (h1 : b ≠ R) (h2 : b < w.heap.size) : w'.frozen? ⟨b, o, none⟩ = w.frozen? ⟨b, o, none⟩ := World.frozen?_of_block (w := w) (h.2 b h1 h2)

theorem pow_named : Tryz.prog.globalNamed "internal/strconv.uint64pow10" = some 1 := by kernel_rfl
theorem tab_under {w w' : World} {k : IntKind} {zs : List Int} {R : Nat} (h : Lib.TabIs Tryz.prog w "internal/strconv.uint64pow10" k zs) (hb : Below R w w') (hR : 8 ≤ R) : Lib.TabIs Tryz.prog w' "internal/strconv.uint64pow10" k zs := by
  unfold Lib.TabIs World.var? at h ⊢
  rw [pow_named] at h ⊢
  simp only [Option.bind_some] at h ⊢
  rw [hb.block 1 (by omega)]; exact h
theorem Glob.adv {R : Nat} {w w' : World} (h : Glob w) (ha : Adv R w w') (hR : 8 ≤ R) : Glob w' :=
  ⟨tab_under h.tab ha.1 hR, let ⟨t, p, e⟩ := h.syn; ⟨t, p, (ha.1.cell (p := ⟨4, 0, none⟩) (by show 4 < R; omega)).trans e⟩, let ⟨t, p, e⟩ := h.rng; ⟨t, p, (ha.1.cell (p := ⟨5, 0, none⟩) (by show 5 < R; omega)).trans e⟩⟩

/-- The reader lies in block R: these words are left; is it off? The words lie below B. -/
structure Rdr (B R : Nat) (ws : List ByteArray) (f : Bool) (w : World) : Prop where
  lies : ∃ b off c, w.cell? ⟨R, 0, none⟩ = some (.slice (some ⟨b, off, none⟩) ws.length c) ∧ ws.length ≤ c ∧ (∀ k u, ws[k]? = some u → w.cell? ⟨b, off + k, none⟩ = some (.string u)) ∧ b < B
  off : w.cell? ⟨R, 1, none⟩ = some (.bool f)
  fz : ∀ o, w.frozen? ⟨R, o, none⟩ = false
  le : B ≤ R
  lt : R < w.heap.size
theorem Rdr.step {B R : Nat} {ws : List ByteArray} {f : Bool} {w w' : World} (h : Rdr B R ws f w) (hb : Below w.heap.size w w') : Rdr B R ws f w' :=
  let ⟨b, off, c, h1, h2, h3, h4⟩ := h.lies
  ⟨⟨b, off, c, (hb.cell (p := ⟨R, 0, none⟩) h.lt).trans h1, h2, fun k u hk => (hb.cell (p := ⟨b, off + k, none⟩) (Nat.lt_trans (Nat.lt_of_lt_of_le h4 h.le) h.lt)).trans (h3 k u hk), h4⟩,
    (hb.cell (p := ⟨R, 1, none⟩) h.lt).trans h.off, fun o => (hb.frozen (p := ⟨R, o, none⟩) h.lt).trans (h.fz o), h.le, Nat.lt_of_lt_of_le h.lt hb.size⟩
theorem Rdr.far {B R D o : Nat} {ws : List ByteArray} {f : Bool} {w : World} {v : Value} (h : Rdr B R ws f w) (hD : B ≤ D) (hne : R ≠ D) : Rdr B R ws f (w.setCell ⟨D, o, none⟩ v) := by
  obtain ⟨b, off, c, h1, h2, h3, h4⟩ := h.lies
  have hd : D ≠ b := by omega
  have hr : D ≠ R := fun e => hne e.symm
  refine ⟨⟨b, off, c, ?_, h2, fun k u hk => ?_, h4⟩, ?_, fun o' => by rw [World.frozen?_setCell]; exact h.fz o', h.le, by have := h.lt; simpa [World.setCell] using this⟩
  · rw [World.cell?_setCell_far _ _ _ _ (by simpa using hr)]; exact h1
  · rw [World.cell?_setCell_far _ _ _ _ (by simpa using hd)]; exact h3 k u hk
  · rw [World.cell?_setCell_far _ _ _ _ (by simpa using hr)]; exact h.off
theorem Rdr.mark {B R : Nat} {ws : List ByteArray} {f : Bool} {w : World} (g : Bool) (h : Rdr B R ws f w) : Rdr B R ws g (w.setCell ⟨R, 1, none⟩ (.bool g)) := by
  obtain ⟨b, off, c, h1, h2, h3, h4⟩ := h.lies
  have hd : R ≠ b := by have := h.le; omega
  refine ⟨⟨b, off, c, ?_, h2, fun k u hk => ?_, h4⟩, World.cell?_setCell_same _ _ _ h.off, fun o' => by rw [World.frozen?_setCell]; exact h.fz o', h.le, by have := h.lt; simpa [World.setCell] using this⟩
  · rw [World.cell?_setCell_other _ _ _ _ (by intro z; injection z with _ z; cases z)]; exact h1
  · rw [World.cell?_setCell_far _ _ _ _ (by simpa using hd)]; exact h3 k u hk
theorem Rdr.next {B R b off c c' : Nat} {a' : Addr} {x : ByteArray} {r : List ByteArray} {f : Bool} {w : World} (h : Rdr B R (x :: r) f w) (h1 : w.cell? ⟨R, 0, none⟩ = some (.slice (some ⟨b, off, none⟩) (r.length + 1) c)) (hb : b < B)
    (h3 : ∀ k u, (x :: r)[k]? = some u → w.cell? ⟨b, off + k, none⟩ = some (.string u)) (ha : (r = [] ∧ a' = ⟨b, off, none⟩) ∨ a' = ⟨b, off + 1, none⟩) (hc : r.length ≤ c') :
    Rdr B R r f (w.setCell ⟨R, 0, none⟩ (.slice (some a') r.length c')) := by
  have hne : R ≠ b := by have := h.le; omega
  refine ⟨?_, (World.cell?_setCell_other _ _ _ _ (by intro z; injection z with _ z; cases z)).trans h.off, fun o' => by rw [World.frozen?_setCell]; exact h.fz o', h.le, by have := h.lt; simpa [World.setCell] using this⟩
  rcases ha with ⟨rfl, rfl⟩ | rfl
  · exact ⟨b, off, c', World.cell?_setCell_same _ _ _ h1, hc, fun k u hk => (by simp at hk), hb⟩
  · refine ⟨b, off + 1, c', World.cell?_setCell_same _ _ _ h1, hc, fun k u hk => ?_, hb⟩
    rw [World.cell?_setCell_far _ _ _ _ (by simpa using hne), Nat.add_right_comm]
    exact h3 (k + 1) u (by simpa using hk)

/-- What a word's reading leaves. -/
def WordR (B R : Nat) (ws : List ByteArray) (f : Bool) (w : World) (e : Ending) (w' : World) : Prop :=
  e = .returned (.string (sat ws 0)) ∧ Rdr B R ws.tail f w' ∧ Adv R w w'
set_option maxHeartbeats 1000000 in
set_option maxRecDepth 100000 in
theorem word_any {B R : Nat} {ws : List ByteArray} {f : Bool} {w : World} (h : Rdr B R ws f w) (hl : ws.length ≤ 1048576) :
    Calls Tryz.prog 48 #[.pointer (some ⟨R, 0, none⟩)] w (WordR B R ws f w) := by
  have H := Lib.hid h
  clear h
  match ws, H, hl with
  | [], H, _ =>
    obtain ⟨b, off, c, h1, -⟩ := H.out.lies
    have h1 : w.cell? ⟨R, 0, none⟩ = some (.slice (some ⟨b, off, none⟩) 0 c) := h1
    go_enter Tryz.func48, Tryz.ntmps48
    go_wp2
    go_ret
    exact ⟨rfl, H.out, Adv.refl _ _⟩
  | x :: r, H, hl =>
    obtain ⟨b, off, c, h1, hc, h3, hb⟩ := H.out.lies
    have h1 : w.cell? ⟨R, 0, none⟩ = some (.slice (some ⟨b, off, none⟩) (r.length + 1) c) := h1
    have hx : w.cell? ⟨b, off, none⟩ = some (.string x) := h3 0 x rfl
    have hx' : w.cell? ⟨b, off + 0, none⟩ = some (.string x) := h3 0 x rfl
    have hfz := H.out.fz 0
    have hc' : r.length + 1 ≤ c := hc
    have hl' : r.length + 1 ≤ 1048576 := hl
    have H3 := Lib.hid h3
    have H1 := Lib.hid h1
    clear h3 hc hl
    have hne : R ≠ b := by have := H.out.le; omega
    have hlt := H.out.lt
    by_cases hc1 : c = 1
    · subst hc1
      have hr : r = [] := by cases r with
        | nil => rfl
        | cons _ _ => simp at hc'
      subst hr
      go_enter Tryz.func48, Tryz.ntmps48
      go_wp2
      go_ret
      exact ⟨rfl, H.out.next H1.out hb H3.out (.inl ⟨rfl, rfl⟩) (Nat.zero_le _), Adv.set _ _ _ _⟩
    · have HC := Lib.hid hc1
      go_enter Tryz.func48, Tryz.ntmps48
      go_wp2
      go_ret
      exact ⟨rfl, H.out.next H1.out hb H3.out (.inr rfl) (by omega), Adv.set _ _ _ _⟩
/-- What a name's reading leaves, and a number's. -/
def NameR (B R : Nat) (ws : List ByteArray) (f : Bool) (w : World) (e : Ending) (w' : World) : Prop :=
  e = .returned (.string (sat ws 0)) ∧ Rdr B R ws.tail (f || !nameB (sat ws 0)) w' ∧ Adv R w w'
def CountR (B R : Nat) (ws : List ByteArray) (f : Bool) (w : World) (e : Ending) (w' : World) : Prop :=
  e = .returned (.int .i64 ((readL (sat ws 0).data.toList).getD 0)) ∧ Rdr B R ws.tail (f || !countB (sat ws 0)) w' ∧ Adv R w w'
theorem name_any {B R : Nat} {ws : List ByteArray} {f : Bool} {w : World} (h : Rdr B R ws f w) (hl : ws.length ≤ 1048576) (hs : (sat ws 0).size ≤ maxLen) :
    Calls Tryz.prog 49 #[.pointer (some ⟨R, 0, none⟩)] w (NameR B R ws f w) := by
  have H := Lib.hid h
  have HL := Lib.hid hl
  have HS := Lib.hid hs
  clear h hl hs
  go_enter Tryz.func49, Tryz.ntmps49
  go_wp2_with fail
  refine (word_any H.out HL.out).mono ?_
  rintro e w1 ⟨rfl, hr, ha⟩
  have HR := Lib.hid hr
  have HA := Lib.hid ha
  clear hr ha
  obtain ⟨x, hx⟩ : ∃ x, sat ws 0 = x := ⟨_, rfl⟩
  have HX := Lib.hid hx
  rw [hx] at HS ⊢
  clear hx
  cases hn : nameB x
  · have HN := Lib.hid hn
    have c1 := HR.out.off
    have hf := HR.out.fz 1
    clear hn
    go_wp2_with fail
    refine (iNameOk_any _ _ HS.out).mono ?_
    rintro e w2 ⟨rfl, rfl⟩
    rw [HN.out]
    go_wp2
    go_ret
    exact ⟨by rw [HX.out]; rfl, by rw [HX.out, HN.out, Bool.not_false, Bool.or_true]; exact HR.out.mark true, HA.out.trans (Adv.set _ _ _ _)⟩
  · have HN := Lib.hid hn
    clear hn
    go_wp2_with fail
    refine (iNameOk_any _ _ HS.out).mono ?_
    rintro e w2 ⟨rfl, rfl⟩
    rw [HN.out]
    go_wp2
    go_ret
    exact ⟨by rw [HX.out]; rfl, by rw [HX.out, HN.out, Bool.not_true, Bool.or_false]; exact HR.out, HA.out⟩
set_option maxHeartbeats 1000000 in
set_option maxRecDepth 100000 in
theorem count_any {B R : Nat} {ws : List ByteArray} {f : Bool} {w : World} (h : Rdr B R ws f w) (hl : ws.length ≤ 1048576) (hs : (sat ws 0).size ≤ 281474976710656) (hg : Glob w) (h8 : 8 ≤ B) :
    Calls Tryz.prog 50 #[.pointer (some ⟨R, 0, none⟩)] w (CountR B R ws f w) := by
  have H := Lib.hid h
  have HL := Lib.hid hl
  have HS := Lib.hid hs
  have HG := Lib.hid hg
  clear h hl hs hg
  go_enter Tryz.func50, Tryz.ntmps50
  go_wp2_with fail
  refine (word_any H.out HL.out).mono ?_
  rintro e w1 ⟨rfl, hr, ha⟩
  have HR := Lib.hid hr
  have HA := Lib.hid ha
  clear hr ha
  obtain ⟨x, hx⟩ : ∃ x, sat ws 0 = x := ⟨_, rfl⟩
  have HX := Lib.hid hx
  rw [hx] at HS ⊢
  clear hx
  go_wp2_with fail
  refine (numberIn_any x _ HS.out (HG.out.adv HA.out (by have := H.out.le; omega))).mono ?_
  rintro e w2 ⟨rfl, hb⟩
  have HR2 := Lib.hid (HR.out.step hb)
  have HA2 := Lib.hid (HA.out.trans (Adv.of hb (Nat.le_of_lt HR.out.lt)))
  clear hb
  cases hn : readL x.data.toList with
  | none =>
    have HN := Lib.hid hn
    have HC := Lib.hid (show countB x = false by rw [countB, hn])
    have c1 := HR2.out.off
    have hf := HR2.out.fz 1
    clear hn
    simp only [Option.getD_none, Option.isSome_none]
    go_wp2
    go_ret
    exact ⟨by rw [HX.out, HN.out]; rfl, by rw [HX.out, HC.out, Bool.not_false, Bool.or_true]; exact HR2.out.mark true, HA2.out.trans (Adv.set _ _ _ _)⟩
  | some n =>
    have HN := Lib.hid hn
    simp only [Option.getD_some, Option.isSome_some]
    by_cases h0 : n < 0
    · have HC := Lib.hid (show countB x = false by rw [countB, hn]; exact decide_eq_false (by omega))
      have c1 := HR2.out.off
      have hf := HR2.out.fz 1
      clear hn
      go_wp2
      go_ret
      exact ⟨by rw [HX.out, HN.out]; rfl, by rw [HX.out, HC.out, Bool.not_false, Bool.or_true]; exact HR2.out.mark true, HA2.out.trans (Adv.set _ _ _ _)⟩
    · have HC := Lib.hid (show countB x = true by rw [countB, hn]; exact decide_eq_true (by omega))
      clear hn
      go_wp2
      go_ret
      exact ⟨by rw [HX.out, HN.out]; rfl, by rw [HX.out, HC.out, Bool.not_true, Bool.or_false]; exact HR2.out, HA2.out⟩
theorem isDone_any {B R : Nat} {ws : List ByteArray} {f : Bool} {w : World} (h : Rdr B R ws f w) (hl : ws.length ≤ 1048576) :
    Calls Tryz.prog 51 #[.pointer (some ⟨R, 0, none⟩)] w fun e w' => e = .returned (.bool (!f && ws.isEmpty)) ∧ w' = w := by
  obtain ⟨b, off, c, h1, -⟩ := h.lies
  have c1 := h.off
  clear h
  cases ws with
  | nil =>
    replace h1 : w.cell? ⟨R, 0, none⟩ = some (.slice (some ⟨b, off, none⟩) 0 c) := h1
    cases f
    all_goals
      go_enter Tryz.func51, Tryz.ntmps51
      go_wp2
      go_ret
      exact ⟨rfl, rfl⟩
  | cons x r =>
    replace h1 : w.cell? ⟨R, 0, none⟩ = some (.slice (some ⟨b, off, none⟩) (r.length + 1) c) := h1
    have hl' : r.length + 1 ≤ 1048576 := hl
    have hb : (((r.length : Int) + 1) == 0) = false := by rw [beq_eq_false_iff_ne]; omega
    clear hl
    cases f
    all_goals
      go_enter Tryz.func51, Tryz.ntmps51
      go_wp2
      go_ret
      exact ⟨rfl, rfl⟩
end Go.Proofs.YtoabpbdjffonlaaGreatDoor
namespace Go.Proofs.YtoabpbdjffonlaaGreatDoor
open Go.ChangeShapes Go.WideShapes Go.ChangeAt Go.RowKit

theorem told_1 (n : Int) (who mill to : ByteArray) (w : World) :
    Calls Tryz.prog 41 #[.agg #[.int .i64 1, .string who, .string mill, .string to, .int .i64 n]] w fun e w' => e = .returned (.tuple #[.string ⟨#[111, 112, 101, 110]⟩, .iface 77 (.agg #[.string mill, .int .i64 n])]) ∧ Below w.heap.size w w' := by
  have HB := Lib.hid (below_new w (.cells #[.int .i64 1, .string who, .string mill, .string to, .int .i64 n] 25))
  go_enter Tryz.func41, Tryz.ntmps41
  go_wp2
  go_quiet (fail)
  go_wp2
  go_ret2
  exact ⟨rfl, below_draws HB.out _⟩
theorem told_2 (n : Int) (who mill to : ByteArray) (w : World) :
    Calls Tryz.prog 41 #[.agg #[.int .i64 2, .string who, .string mill, .string to, .int .i64 n]] w fun e w' => e = .returned (.tuple #[.string ⟨#[106, 111, 105, 110]⟩, .iface 73 (.agg #[.string who])]) ∧ Below w.heap.size w w' := by
  have HB := Lib.hid (below_new w (.cells #[.int .i64 2, .string who, .string mill, .string to, .int .i64 n] 25))
  go_enter Tryz.func41, Tryz.ntmps41
  go_wp2
  go_quiet (fail)
  go_wp2
  go_ret2
  exact ⟨rfl, below_draws HB.out _⟩
theorem told_3 (n : Int) (who mill to : ByteArray) (w : World) :
    Calls Tryz.prog 41 #[.agg #[.int .i64 3, .string who, .string mill, .string to, .int .i64 n]] w fun e w' => e = .returned (.tuple #[.string ⟨#[99, 117, 116]⟩, .iface 77 (.agg #[.string mill, .int .i64 n])]) ∧ Below w.heap.size w w' := by
  have HB := Lib.hid (below_new w (.cells #[.int .i64 3, .string who, .string mill, .string to, .int .i64 n] 25))
  go_enter Tryz.func41, Tryz.ntmps41
  go_wp2
  go_quiet (fail)
  go_wp2
  go_ret2
  exact ⟨rfl, below_draws HB.out _⟩
theorem told_4 (n : Int) (who mill to : ByteArray) (w : World) :
    Calls Tryz.prog 41 #[.agg #[.int .i64 4, .string who, .string mill, .string to, .int .i64 n]] w fun e w' => e = .returned (.tuple #[.string ⟨#[108, 101, 110, 100]⟩, .iface 79 (.agg #[.string who, .string mill, .int .i64 n])]) ∧ Below w.heap.size w w' := by
  have HB := Lib.hid (below_new w (.cells #[.int .i64 4, .string who, .string mill, .string to, .int .i64 n] 25))
  go_enter Tryz.func41, Tryz.ntmps41
  go_wp2
  go_quiet (fail)
  go_wp2
  go_ret2
  exact ⟨rfl, below_draws HB.out _⟩
theorem told_5 (n : Int) (who mill to : ByteArray) (w : World) :
    Calls Tryz.prog 41 #[.agg #[.int .i64 5, .string who, .string mill, .string to, .int .i64 n]] w fun e w' => e = .returned (.tuple #[.string ⟨#[108, 111, 111, 115, 101, 110]⟩, .iface 79 (.agg #[.string who, .string mill, .int .i64 n])]) ∧ Below w.heap.size w w' := by
  have HB := Lib.hid (below_new w (.cells #[.int .i64 5, .string who, .string mill, .string to, .int .i64 n] 25))
  go_enter Tryz.func41, Tryz.ntmps41
  go_wp2
  go_quiet (fail)
  go_wp2
  go_ret2
  exact ⟨rfl, below_draws HB.out _⟩
theorem told_6 (n : Int) (who mill to : ByteArray) (w : World) :
    Calls Tryz.prog 41 #[.agg #[.int .i64 6, .string who, .string mill, .string to, .int .i64 n]] w fun e w' => e = .returned (.tuple #[.string ⟨#[115, 104, 105, 102, 116]⟩, .iface 81 (.agg #[.string who, .string mill, .string to, .int .i64 n])]) ∧ Below w.heap.size w w' := by
  have HB := Lib.hid (below_new w (.cells #[.int .i64 6, .string who, .string mill, .string to, .int .i64 n] 25))
  go_enter Tryz.func41, Tryz.ntmps41
  go_wp2
  go_quiet (fail)
  go_wp2
  go_ret2
  exact ⟨rfl, below_draws HB.out _⟩
theorem told_7 (n : Int) (who mill to : ByteArray) (w : World) :
    Calls Tryz.prog 41 #[.agg #[.int .i64 7, .string who, .string mill, .string to, .int .i64 n]] w fun e w' => e = .returned (.tuple #[.string ⟨#[102, 105, 110, 101]⟩, .iface 77 (.agg #[.string mill, .int .i64 n])]) ∧ Below w.heap.size w w' := by
  have HB := Lib.hid (below_new w (.cells #[.int .i64 7, .string who, .string mill, .string to, .int .i64 n] 25))
  go_enter Tryz.func41, Tryz.ntmps41
  go_wp2
  go_quiet (fail)
  go_wp2
  go_ret2
  exact ⟨rfl, below_draws HB.out _⟩
theorem told_8 (n : Int) (who mill to : ByteArray) (w : World) :
    Calls Tryz.prog 41 #[.agg #[.int .i64 8, .string who, .string mill, .string to, .int .i64 n]] w fun e w' => e = .returned (.tuple #[.string ⟨#[109, 101, 110, 100]⟩, .iface 75 (.agg #[.string mill])]) ∧ Below w.heap.size w w' := by
  have HB := Lib.hid (below_new w (.cells #[.int .i64 8, .string who, .string mill, .string to, .int .i64 n] 25))
  go_enter Tryz.func41, Tryz.ntmps41
  go_wp2
  go_quiet (fail)
  go_wp2
  go_ret2
  exact ⟨rfl, below_draws HB.out _⟩
theorem told_9 (n : Int) (who mill to : ByteArray) (w : World) :
    Calls Tryz.prog 41 #[.agg #[.int .i64 9, .string who, .string mill, .string to, .int .i64 n]] w fun e w' => e = .returned (.tuple #[.string ⟨#[101, 97, 114, 110]⟩, .iface 77 (.agg #[.string mill, .int .i64 n])]) ∧ Below w.heap.size w w' := by
  have HB := Lib.hid (below_new w (.cells #[.int .i64 9, .string who, .string mill, .string to, .int .i64 n] 25))
  go_enter Tryz.func41, Tryz.ntmps41
  go_wp2
  go_quiet (fail)
  go_wp2
  go_ret2
  exact ⟨rfl, below_draws HB.out _⟩
theorem told_10 (n : Int) (who mill to : ByteArray) (w : World) :
    Calls Tryz.prog 41 #[.agg #[.int .i64 10, .string who, .string mill, .string to, .int .i64 n]] w fun e w' => e = .returned (.tuple #[.string ⟨#[103, 105, 118, 101]⟩, .iface 83 (.agg #[.string who, .string to, .int .i64 n])]) ∧ Below w.heap.size w w' := by
  have HB := Lib.hid (below_new w (.cells #[.int .i64 10, .string who, .string mill, .string to, .int .i64 n] 25))
  go_enter Tryz.func41, Tryz.ntmps41
  go_wp2
  go_quiet (fail)
  go_wp2
  go_ret2
  exact ⟨rfl, below_draws HB.out _⟩
theorem told_11 (n : Int) (who mill to : ByteArray) (w : World) :
    Calls Tryz.prog 41 #[.agg #[.int .i64 11, .string who, .string mill, .string to, .int .i64 n]] w fun e w' => e = .returned (.tuple #[.string ⟨#[115, 101, 97, 115, 111, 110]⟩, .iface 96 (.agg #[])]) ∧ Below w.heap.size w w' := by
  have HB := Lib.hid (below_new w (.cells #[.int .i64 11, .string who, .string mill, .string to, .int .i64 n] 25))
  go_enter Tryz.func41, Tryz.ntmps41
  go_wp2
  go_ret2
  exact ⟨rfl, HB.out⟩
theorem told_no {k : Int} (h : k < 1 ∨ 11 < k) (n : Int) (who mill to : ByteArray) (w : World) :
    Calls Tryz.prog 41 #[.agg #[.int .i64 k, .string who, .string mill, .string to, .int .i64 n]] w fun e w' => e = .returned (.tuple #[.string ⟨#[]⟩, .nilIface]) ∧ Below w.heap.size w w' := by
  have HB := Lib.hid (below_new w (.cells #[.int .i64 k, .string who, .string mill, .string to, .int .i64 n] 25))
  have h1 : (k == 1) = false := by rw [beq_eq_false_iff_ne]; omega
  have h2 : (k == 2) = false := by rw [beq_eq_false_iff_ne]; omega
  have h3 : (k == 3) = false := by rw [beq_eq_false_iff_ne]; omega
  have h4 : (k == 4) = false := by rw [beq_eq_false_iff_ne]; omega
  have h5 : (k == 5) = false := by rw [beq_eq_false_iff_ne]; omega
  have h6 : (k == 6) = false := by rw [beq_eq_false_iff_ne]; omega
  have h7 : (k == 7) = false := by rw [beq_eq_false_iff_ne]; omega
  have h8 : (k == 8) = false := by rw [beq_eq_false_iff_ne]; omega
  have h9 : (k == 9) = false := by rw [beq_eq_false_iff_ne]; omega
  have h10 : (k == 10) = false := by rw [beq_eq_false_iff_ne]; omega
  have h11 : (k == 11) = false := by rw [beq_eq_false_iff_ne]; omega
  clear h
  go_enter Tryz.func41, Tryz.ntmps41
  go_wp2
  go_ret2
  exact ⟨rfl, HB.out⟩
theorem as_bare_bare (v : Value) (w : World) : (Instr.typeAssert (.iface 96 v) 20 96 true).run Tryz.prog w = .ok (.tuple #[v, .bool true]) w := by kernel_rfl
theorem as_bare_ofWho (v : Value) (w : World) : (Instr.typeAssert (.iface 96 v) 20 73 true).run Tryz.prog w = .ok (.tuple #[.agg #[.string ByteArray.empty], .bool false]) w := by kernel_rfl
theorem as_bare_ofMill (v : Value) (w : World) : (Instr.typeAssert (.iface 96 v) 20 75 true).run Tryz.prog w = .ok (.tuple #[.agg #[.string ByteArray.empty], .bool false]) w := by kernel_rfl
theorem as_bare_millN (v : Value) (w : World) : (Instr.typeAssert (.iface 96 v) 20 77 true).run Tryz.prog w = .ok (.tuple #[.agg #[.string ByteArray.empty, .int .i64 0], .bool false]) w := by kernel_rfl
theorem as_bare_whoMillN (v : Value) (w : World) : (Instr.typeAssert (.iface 96 v) 20 79 true).run Tryz.prog w = .ok (.tuple #[.agg #[.string ByteArray.empty, .string ByteArray.empty, .int .i64 0], .bool false]) w := by kernel_rfl
theorem as_bare_whoMillToN (v : Value) (w : World) : (Instr.typeAssert (.iface 96 v) 20 81 true).run Tryz.prog w = .ok (.tuple #[.agg #[.string ByteArray.empty, .string ByteArray.empty, .string ByteArray.empty, .int .i64 0], .bool false]) w := by kernel_rfl
theorem as_bare_whoToN (v : Value) (w : World) : (Instr.typeAssert (.iface 96 v) 20 83 true).run Tryz.prog w = .ok (.tuple #[.agg #[.string ByteArray.empty, .string ByteArray.empty, .int .i64 0], .bool false]) w := by kernel_rfl
theorem as_ofWho_bare (v : Value) (w : World) : (Instr.typeAssert (.iface 73 v) 20 96 true).run Tryz.prog w = .ok (.tuple #[.agg #[], .bool false]) w := by kernel_rfl
theorem as_ofWho_ofWho (v : Value) (w : World) : (Instr.typeAssert (.iface 73 v) 20 73 true).run Tryz.prog w = .ok (.tuple #[v, .bool true]) w := by kernel_rfl
theorem as_ofWho_ofMill (v : Value) (w : World) : (Instr.typeAssert (.iface 73 v) 20 75 true).run Tryz.prog w = .ok (.tuple #[.agg #[.string ByteArray.empty], .bool false]) w := by kernel_rfl
theorem as_ofWho_millN (v : Value) (w : World) : (Instr.typeAssert (.iface 73 v) 20 77 true).run Tryz.prog w = .ok (.tuple #[.agg #[.string ByteArray.empty, .int .i64 0], .bool false]) w := by kernel_rfl
theorem as_ofWho_whoMillN (v : Value) (w : World) : (Instr.typeAssert (.iface 73 v) 20 79 true).run Tryz.prog w = .ok (.tuple #[.agg #[.string ByteArray.empty, .string ByteArray.empty, .int .i64 0], .bool false]) w := by kernel_rfl
theorem as_ofWho_whoMillToN (v : Value) (w : World) : (Instr.typeAssert (.iface 73 v) 20 81 true).run Tryz.prog w = .ok (.tuple #[.agg #[.string ByteArray.empty, .string ByteArray.empty, .string ByteArray.empty, .int .i64 0], .bool false]) w := by kernel_rfl
theorem as_ofWho_whoToN (v : Value) (w : World) : (Instr.typeAssert (.iface 73 v) 20 83 true).run Tryz.prog w = .ok (.tuple #[.agg #[.string ByteArray.empty, .string ByteArray.empty, .int .i64 0], .bool false]) w := by kernel_rfl
theorem as_ofMill_bare (v : Value) (w : World) : (Instr.typeAssert (.iface 75 v) 20 96 true).run Tryz.prog w = .ok (.tuple #[.agg #[], .bool false]) w := by kernel_rfl
theorem as_ofMill_ofWho (v : Value) (w : World) : (Instr.typeAssert (.iface 75 v) 20 73 true).run Tryz.prog w = .ok (.tuple #[.agg #[.string ByteArray.empty], .bool false]) w := by kernel_rfl
theorem as_ofMill_ofMill (v : Value) (w : World) : (Instr.typeAssert (.iface 75 v) 20 75 true).run Tryz.prog w = .ok (.tuple #[v, .bool true]) w := by kernel_rfl
theorem as_ofMill_millN (v : Value) (w : World) : (Instr.typeAssert (.iface 75 v) 20 77 true).run Tryz.prog w = .ok (.tuple #[.agg #[.string ByteArray.empty, .int .i64 0], .bool false]) w := by kernel_rfl
theorem as_ofMill_whoMillN (v : Value) (w : World) : (Instr.typeAssert (.iface 75 v) 20 79 true).run Tryz.prog w = .ok (.tuple #[.agg #[.string ByteArray.empty, .string ByteArray.empty, .int .i64 0], .bool false]) w := by kernel_rfl
theorem as_ofMill_whoMillToN (v : Value) (w : World) : (Instr.typeAssert (.iface 75 v) 20 81 true).run Tryz.prog w = .ok (.tuple #[.agg #[.string ByteArray.empty, .string ByteArray.empty, .string ByteArray.empty, .int .i64 0], .bool false]) w := by kernel_rfl
theorem as_ofMill_whoToN (v : Value) (w : World) : (Instr.typeAssert (.iface 75 v) 20 83 true).run Tryz.prog w = .ok (.tuple #[.agg #[.string ByteArray.empty, .string ByteArray.empty, .int .i64 0], .bool false]) w := by kernel_rfl
theorem as_millN_bare (v : Value) (w : World) : (Instr.typeAssert (.iface 77 v) 20 96 true).run Tryz.prog w = .ok (.tuple #[.agg #[], .bool false]) w := by kernel_rfl
theorem as_millN_ofWho (v : Value) (w : World) : (Instr.typeAssert (.iface 77 v) 20 73 true).run Tryz.prog w = .ok (.tuple #[.agg #[.string ByteArray.empty], .bool false]) w := by kernel_rfl
theorem as_millN_ofMill (v : Value) (w : World) : (Instr.typeAssert (.iface 77 v) 20 75 true).run Tryz.prog w = .ok (.tuple #[.agg #[.string ByteArray.empty], .bool false]) w := by kernel_rfl
theorem as_millN_millN (v : Value) (w : World) : (Instr.typeAssert (.iface 77 v) 20 77 true).run Tryz.prog w = .ok (.tuple #[v, .bool true]) w := by kernel_rfl
theorem as_millN_whoMillN (v : Value) (w : World) : (Instr.typeAssert (.iface 77 v) 20 79 true).run Tryz.prog w = .ok (.tuple #[.agg #[.string ByteArray.empty, .string ByteArray.empty, .int .i64 0], .bool false]) w := by kernel_rfl
theorem as_millN_whoMillToN (v : Value) (w : World) : (Instr.typeAssert (.iface 77 v) 20 81 true).run Tryz.prog w = .ok (.tuple #[.agg #[.string ByteArray.empty, .string ByteArray.empty, .string ByteArray.empty, .int .i64 0], .bool false]) w := by kernel_rfl
theorem as_millN_whoToN (v : Value) (w : World) : (Instr.typeAssert (.iface 77 v) 20 83 true).run Tryz.prog w = .ok (.tuple #[.agg #[.string ByteArray.empty, .string ByteArray.empty, .int .i64 0], .bool false]) w := by kernel_rfl
theorem as_whoMillN_bare (v : Value) (w : World) : (Instr.typeAssert (.iface 79 v) 20 96 true).run Tryz.prog w = .ok (.tuple #[.agg #[], .bool false]) w := by kernel_rfl
theorem as_whoMillN_ofWho (v : Value) (w : World) : (Instr.typeAssert (.iface 79 v) 20 73 true).run Tryz.prog w = .ok (.tuple #[.agg #[.string ByteArray.empty], .bool false]) w := by kernel_rfl
theorem as_whoMillN_ofMill (v : Value) (w : World) : (Instr.typeAssert (.iface 79 v) 20 75 true).run Tryz.prog w = .ok (.tuple #[.agg #[.string ByteArray.empty], .bool false]) w := by kernel_rfl
theorem as_whoMillN_millN (v : Value) (w : World) : (Instr.typeAssert (.iface 79 v) 20 77 true).run Tryz.prog w = .ok (.tuple #[.agg #[.string ByteArray.empty, .int .i64 0], .bool false]) w := by kernel_rfl
theorem as_whoMillN_whoMillN (v : Value) (w : World) : (Instr.typeAssert (.iface 79 v) 20 79 true).run Tryz.prog w = .ok (.tuple #[v, .bool true]) w := by kernel_rfl
theorem as_whoMillN_whoMillToN (v : Value) (w : World) : (Instr.typeAssert (.iface 79 v) 20 81 true).run Tryz.prog w = .ok (.tuple #[.agg #[.string ByteArray.empty, .string ByteArray.empty, .string ByteArray.empty, .int .i64 0], .bool false]) w := by kernel_rfl
theorem as_whoMillN_whoToN (v : Value) (w : World) : (Instr.typeAssert (.iface 79 v) 20 83 true).run Tryz.prog w = .ok (.tuple #[.agg #[.string ByteArray.empty, .string ByteArray.empty, .int .i64 0], .bool false]) w := by kernel_rfl
theorem as_whoMillToN_bare (v : Value) (w : World) : (Instr.typeAssert (.iface 81 v) 20 96 true).run Tryz.prog w = .ok (.tuple #[.agg #[], .bool false]) w := by kernel_rfl
theorem as_whoMillToN_ofWho (v : Value) (w : World) : (Instr.typeAssert (.iface 81 v) 20 73 true).run Tryz.prog w = .ok (.tuple #[.agg #[.string ByteArray.empty], .bool false]) w := by kernel_rfl
theorem as_whoMillToN_ofMill (v : Value) (w : World) : (Instr.typeAssert (.iface 81 v) 20 75 true).run Tryz.prog w = .ok (.tuple #[.agg #[.string ByteArray.empty], .bool false]) w := by kernel_rfl
theorem as_whoMillToN_millN (v : Value) (w : World) : (Instr.typeAssert (.iface 81 v) 20 77 true).run Tryz.prog w = .ok (.tuple #[.agg #[.string ByteArray.empty, .int .i64 0], .bool false]) w := by kernel_rfl
theorem as_whoMillToN_whoMillN (v : Value) (w : World) : (Instr.typeAssert (.iface 81 v) 20 79 true).run Tryz.prog w = .ok (.tuple #[.agg #[.string ByteArray.empty, .string ByteArray.empty, .int .i64 0], .bool false]) w := by kernel_rfl
theorem as_whoMillToN_whoMillToN (v : Value) (w : World) : (Instr.typeAssert (.iface 81 v) 20 81 true).run Tryz.prog w = .ok (.tuple #[v, .bool true]) w := by kernel_rfl
theorem as_whoMillToN_whoToN (v : Value) (w : World) : (Instr.typeAssert (.iface 81 v) 20 83 true).run Tryz.prog w = .ok (.tuple #[.agg #[.string ByteArray.empty, .string ByteArray.empty, .int .i64 0], .bool false]) w := by kernel_rfl
theorem as_whoToN_bare (v : Value) (w : World) : (Instr.typeAssert (.iface 83 v) 20 96 true).run Tryz.prog w = .ok (.tuple #[.agg #[], .bool false]) w := by kernel_rfl
theorem as_whoToN_ofWho (v : Value) (w : World) : (Instr.typeAssert (.iface 83 v) 20 73 true).run Tryz.prog w = .ok (.tuple #[.agg #[.string ByteArray.empty], .bool false]) w := by kernel_rfl
theorem as_whoToN_ofMill (v : Value) (w : World) : (Instr.typeAssert (.iface 83 v) 20 75 true).run Tryz.prog w = .ok (.tuple #[.agg #[.string ByteArray.empty], .bool false]) w := by kernel_rfl
theorem as_whoToN_millN (v : Value) (w : World) : (Instr.typeAssert (.iface 83 v) 20 77 true).run Tryz.prog w = .ok (.tuple #[.agg #[.string ByteArray.empty, .int .i64 0], .bool false]) w := by kernel_rfl
theorem as_whoToN_whoMillN (v : Value) (w : World) : (Instr.typeAssert (.iface 83 v) 20 79 true).run Tryz.prog w = .ok (.tuple #[.agg #[.string ByteArray.empty, .string ByteArray.empty, .int .i64 0], .bool false]) w := by kernel_rfl
theorem as_whoToN_whoMillToN (v : Value) (w : World) : (Instr.typeAssert (.iface 83 v) 20 81 true).run Tryz.prog w = .ok (.tuple #[.agg #[.string ByteArray.empty, .string ByteArray.empty, .string ByteArray.empty, .int .i64 0], .bool false]) w := by kernel_rfl
theorem as_whoToN_whoToN (v : Value) (w : World) : (Instr.typeAssert (.iface 83 v) 20 83 true).run Tryz.prog w = .ok (.tuple #[v, .bool true]) w := by kernel_rfl
theorem as_nil_bare (w : World) : (Instr.typeAssert .nilIface 20 96 true).run Tryz.prog w = .ok (.tuple #[.agg #[], .bool false]) w := by kernel_rfl
theorem as_nil_ofWho (w : World) : (Instr.typeAssert .nilIface 20 73 true).run Tryz.prog w = .ok (.tuple #[.agg #[.string ByteArray.empty], .bool false]) w := by kernel_rfl
theorem as_nil_ofMill (w : World) : (Instr.typeAssert .nilIface 20 75 true).run Tryz.prog w = .ok (.tuple #[.agg #[.string ByteArray.empty], .bool false]) w := by kernel_rfl
theorem as_nil_millN (w : World) : (Instr.typeAssert .nilIface 20 77 true).run Tryz.prog w = .ok (.tuple #[.agg #[.string ByteArray.empty, .int .i64 0], .bool false]) w := by kernel_rfl
theorem as_nil_whoMillN (w : World) : (Instr.typeAssert .nilIface 20 79 true).run Tryz.prog w = .ok (.tuple #[.agg #[.string ByteArray.empty, .string ByteArray.empty, .int .i64 0], .bool false]) w := by kernel_rfl
theorem as_nil_whoMillToN (w : World) : (Instr.typeAssert .nilIface 20 81 true).run Tryz.prog w = .ok (.tuple #[.agg #[.string ByteArray.empty, .string ByteArray.empty, .string ByteArray.empty, .int .i64 0], .bool false]) w := by kernel_rfl
theorem as_nil_whoToN (w : World) : (Instr.typeAssert .nilIface 20 83 true).run Tryz.prog w = .ok (.tuple #[.agg #[.string ByteArray.empty, .string ByteArray.empty, .int .i64 0], .bool false]) w := by kernel_rfl
end Go.Proofs.YtoabpbdjffonlaaGreatDoor
namespace Go.Proofs.YtoabpbdjffonlaaGreatDoor
open Go.ChangeShapes Go.WideShapes Go.ChangeAt Go.RowKit

def ToldW (j : Nat) (w : World) (e : Ending) (w' : World) : Prop := ∃ S, e = .returned (.tuple #[.string (sat wordsS j), S]) ∧ Below w.heap.size w w'
theorem told_word {j : Nat} (hj : j < 11) (n : Int) (who mill to : ByteArray) (w : World) :
    Calls Tryz.prog 41 #[.agg #[.int .i64 ((j : Int) + 1), .string who, .string mill, .string to, .int .i64 n]] w (ToldW j w) := by
  match j, hj with
  | 0, _ => exact (told_1 n who mill to w).mono fun e w' h => ⟨_, h.1, h.2⟩
  | 1, _ => exact (told_2 n who mill to w).mono fun e w' h => ⟨_, h.1, h.2⟩
  | 2, _ => exact (told_3 n who mill to w).mono fun e w' h => ⟨_, h.1, h.2⟩
  | 3, _ => exact (told_4 n who mill to w).mono fun e w' h => ⟨_, h.1, h.2⟩
  | 4, _ => exact (told_5 n who mill to w).mono fun e w' h => ⟨_, h.1, h.2⟩
  | 5, _ => exact (told_6 n who mill to w).mono fun e w' h => ⟨_, h.1, h.2⟩
  | 6, _ => exact (told_7 n who mill to w).mono fun e w' h => ⟨_, h.1, h.2⟩
  | 7, _ => exact (told_8 n who mill to w).mono fun e w' h => ⟨_, h.1, h.2⟩
  | 8, _ => exact (told_9 n who mill to w).mono fun e w' h => ⟨_, h.1, h.2⟩
  | 9, _ => exact (told_10 n who mill to w).mono fun e w' h => ⟨_, h.1, h.2⟩
  | 10, _ => exact (told_11 n who mill to w).mono fun e w' h => ⟨_, h.1, h.2⟩
def KindRel (s : ByteArray) (w : World) (i : Value) (wr : World) : Prop := ∃ k : Nat, k ≤ 11 ∧ i = .int .i64 ((k : Int) + 1) ∧ Out wordsS s k ∧ Below w.heap.size w wr
set_option maxHeartbeats 1000000 in
set_option maxRecDepth 100000 in
theorem kindOf_any (s : ByteArray) (w : World) :
    Calls Tryz.prog 47 #[.string s] w fun e w' => e = .returned (.int .i64 (placeV wordsS s + 1)) ∧ Below w.heap.size w w' := by
  go_enter Tryz.func47, Tryz.ntmps47
  go_wp2
  go_loopw [3] (fun i wr => KindRel s w i wr) (fun i _ => 13 - (intOf i).toNat)
  case atStart => exact ⟨0, Nat.zero_le _, rfl, Out.zero wordsS s, Below.refl _ _⟩
  case round =>
    obtain ⟨k, hk, rfl, hu, hb⟩ := hrel
    have HU := Lib.hid hu
    have HB := Lib.hid hb
    clear hu hb
    by_cases hlt : k < 11
    · go_wp2_with fail
      refine (told_word hlt _ _ _ _ _).mono ?_
      rintro e w1 ⟨S, rfl, hb1⟩
      have HB1 := Lib.hid (below_trans HB.out hb1)
      clear hb1
      cases hq : (s.toList == (sat wordsS k).toList)
      · have HN := Lib.hid (HU.out.succ (beq_turn hq))
        go_wp2
        go_roundw
        case rel => exact ⟨k + 1, by omega, by go_num, HN.out, HB1.out⟩
        case measure => simp [intOf]; omega
      · have HN := Lib.hid (place_in hlt HU.out (beq_turn hq))
        go_wp2
        go_ret
        exact ⟨by rw [HN.out]; rfl, HB1.out⟩
    · obtain rfl : k = 11 := by omega
      have HN := Lib.hid (show placeV wordsS s = -1 from place_out HU.out)
      go_wp2
      go_ret
      exact ⟨by rw [HN.out]; rfl, HB.out⟩
end Go.Proofs.YtoabpbdjffonlaaGreatDoor
namespace Go.Proofs.YtoabpbdjffonlaaGreatDoor
open Go.ChangeShapes Go.WideShapes Go.ChangeAt Go.RowKit

theorem byte_at {s : ByteArray} {j : Nat} (h : j < s.size) : s.data.toList.getD j 0 = s[j] := by
  have h' : j < s.data.toList.length := h
  rw [List.getD_eq_getElem?_getD, List.getElem?_eq_getElem h']; rfl
theorem piece_hit {s : ByteArray} {c : Int} {p j : Nat} (h : j < s.size) (hc : ((s[j].toNat : Int) == c) = true) :
    pieceF c s p j (s.size - j) = s.extract p j :: pieceF c s (j + 1) (j + 1) (s.size - (j + 1)) := by
  have : s.size - j = (s.size - (j + 1)) + 1 := by omega
  rw [this, pieceF, byte_at h, if_pos (by simpa using hc)]
theorem piece_miss {s : ByteArray} {c : Int} {p j : Nat} (h : j < s.size) (hc : ((s[j].toNat : Int) == c) = false) :
    pieceF c s p j (s.size - j) = pieceF c s p (j + 1) (s.size - (j + 1)) := by
  have : s.size - j = (s.size - (j + 1)) + 1 := by omega
  rw [this, pieceF, byte_at h, if_neg (by simpa using hc)]
theorem piece_end (s : ByteArray) (c : Int) (p : Nat) : pieceF c s p s.size (s.size - s.size) = [s.extract p s.size] := by rw [Nat.sub_self]; rfl

/-- What l1Split has behind it. -/
def SplitRel (c : Int) (s : ByteArray) (w : World) (v f i : Value) (wr : World) : Prop :=
  ∃ (ss : List ByteArray) (j p : Nat), f = .int .i64 p ∧ i = .int .i64 j ∧ wr.ownsRow w.heap.size 9 1 v ss.length (ss.map .string) ∧ Below w.heap.size w wr ∧ ss.length ≤ j ∧ j ≤ s.size + 1 ∧
    (j ≤ s.size → p ≤ j ∧ ss ++ pieceF c s p j (s.size - j) = splitB1 c s) ∧ (j = s.size + 1 → ss = splitB1 c s)

def Split (c : Int) (s : ByteArray) (w : World) (e : Ending) (w' : World) : Prop :=
  ∃ (a : Option Addr) (cap : Nat), e = .returned (.slice a (splitB1 c s).length cap) ∧ Strs w' a (splitB1 c s) ∧ (∀ b off, a = some ⟨b, off, none⟩ → w.heap.size ≤ b) ∧ Below w.heap.size w w'

set_option maxHeartbeats 4000000 in
set_option maxRecDepth 100000 in
theorem l1Split_any (s : ByteArray) (c : Int) (w : World) (hs : s.size ≤ 1048576) :
    Calls Tryz.prog 28 #[.string s, .int .u8 c] w (Split c s w) := by
  obtain ⟨i0, hi, hz0, hz1, hz2⟩ := info_parts info_str
  have HI := Lib.hid hi
  have HZ0 := Lib.hid hz0
  have HZ1 := Lib.hid hz1
  have HZ2 := Lib.hid hz2
  clear hi hz0 hz1 hz2
  have HR : Hid (SplitRel c s w (.slice (some ⟨w.heap.size, 0, none⟩) 0 0) (.int .i64 0) (.int .i64 0) (w.alloc (.cells #[] 9))) := by
    refine ⟨[], 0, 0, rfl, rfl, ⟨by simp, .inr ⟨w.heap.size, 0, #[], rfl, Nat.le_refl _, heap_alloc_new _ _, Nat.le_refl _, Nat.zero_le _, by simp, by simp⟩⟩, below_new _ _, Nat.le_refl _, Nat.zero_le _, fun _ => ⟨Nat.le_refl _, rfl⟩, fun h => by omega⟩
  go_enter Tryz.func28, Tryz.ntmps28
  go_wp2_with fail
  go_loopw [5, 6, 7] (fun v f i wr => SplitRel c s w v f i wr) (fun _ _ i _ => s.size + 1 - (intOf i).toNat)
  case atStart => exact HR.out
  case round =>
    clear HR
    obtain ⟨ss, j, p, rfl, rfl, hown, hbel, hlen, hj, h1, h2⟩ := hrel
    have HW := Lib.hid hown
    have HB := Lib.hid hbel
    have H1 := Lib.hid h1
    have H2 := Lib.hid h2
    have hwr : w.heap.size ≤ wr.heap.size := hbel.size
    clear hown hbel h1 h2
    by_cases hlt : j ≤ s.size
    · obtain ⟨hp, hq⟩ := H1.out hlt
      have HQ := Lib.hid hq
      clear hq
      by_cases hjs : j < s.size
      · have hne : ((j : Int) == (s.size : Int)) = false := by simp; omega
        cases hc : ((s[j].toNat : Int) == c)
        · have HM := Lib.hid (piece_miss (p := p) hjs hc)
          obtain ⟨a, cp, rfl, _, _⟩ := own_strs HW.out
          go_wp2
          go_roundw
          case rel => exact ⟨ss, j + 1, p, rfl, by go_num, HW.out, HB.out, by omega, by omega, fun _ => ⟨by omega, by rw [← HM.out]; exact HQ.out⟩, fun q => by omega⟩
          case measure => simp [intOf]; omega
        · have HM := Lib.hid (piece_hit (p := p) hjs hc)
          obtain ⟨a, cp0, rfl, _, _⟩ := own_strs HW.out
          go_wp2_with (at_builtin; refine wpList_append_lies _ rfl _ _ 37 rfl w.heap.size 9 i0 (.string ByteArray.empty) 1 16 Tryz.underlying37 HI.out HZ0.out HZ1.out HZ2.out rfl (by decide) _ _ _ rfl (HW.out.alloc _) ⟨wr.heap.size, 0, none⟩ 1 1 [.string (s.extract p j)] rfl rfl ?c1 ?c2 (by decide) ?c3 ?c4 ?c5 _ rfl ?_)
          case c1 =>
            intro k u hk
            match k, hk with
            | 0, hk => simp at hk; subst hk; simp [Addr.add]
          case c2 => intro u hu; simp at hu; subst hu; rfl
          case c3 => unfold maxLen; omega
          case c4 => omega
          case c5 => simp; omega
          intro g cp w3 hown3 hgrow hat hlt3
          have HR : Hid (SplitRel c s w (.slice (some ⟨g, 0, none⟩) (ss.length + 1) cp) (.int .i64 (j + 1)) (.int .i64 (j + 1)) w3) := by
            refine ⟨ss ++ [s.extract p j], j + 1, j + 1, rfl, rfl, by simpa using hown3, (below_trans HB.out (below_new wr (.cells #[.string (s.extract p j)] 9))).grown hgrow (by show w.heap.size ≤ (wr.heap.push _).size; rw [Array.size_push]; omega) (own_block HW.out), by simp; omega, by omega, fun q => ?_, fun q => ?_⟩
            · exact ⟨Nat.le_refl _, by rw [← HQ.out, HM.out, List.append_assoc]; rfl⟩
            · omega
          clear hown3 hgrow hat hlt3
          go_wp2
          go_roundw
          case rel => first | exact HR.out | (have := HR.out; simpa using this)
          case measure => first | (simp [intOf]; omega) | simp [intOf]
      · obtain rfl : j = s.size := by omega
        have hne : ((s.size : Int) == (s.size : Int)) = true := by simp
        have HM := Lib.hid (piece_end s c p)
        obtain ⟨a, cp0, rfl, _, _⟩ := own_strs HW.out
        go_wp2_with (at_builtin; refine wpList_append_lies _ rfl _ _ 37 rfl w.heap.size 9 i0 (.string ByteArray.empty) 1 16 Tryz.underlying37 HI.out HZ0.out HZ1.out HZ2.out rfl (by decide) _ _ _ rfl (HW.out.alloc _) ⟨wr.heap.size, 0, none⟩ 1 1 [.string (s.extract p s.size)] rfl rfl ?c1 ?c2 (by decide) ?c3 ?c4 ?c5 _ rfl ?_)
        case c1 =>
          intro k u hk
          match k, hk with
          | 0, hk => simp at hk; subst hk; simp [Addr.add]
        case c2 => intro u hu; simp at hu; subst hu; rfl
        case c3 => unfold maxLen; omega
        case c4 => omega
        case c5 => simp; omega
        intro g cp w3 hown3 hgrow hat hlt3
        have HR : Hid (SplitRel c s w (.slice (some ⟨g, 0, none⟩) (ss.length + 1) cp) (.int .i64 (s.size + 1)) (.int .i64 (s.size + 1)) w3) := by
          refine ⟨ss ++ [s.extract p s.size], s.size + 1, s.size + 1, rfl, rfl, by simpa using hown3, (below_trans HB.out (below_new wr (.cells #[.string (s.extract p s.size)] 9))).grown hgrow (by show w.heap.size ≤ (wr.heap.push _).size; rw [Array.size_push]; omega) (own_block HW.out), by simp; omega, by omega, fun q => ?_, fun q => ?_⟩
          · omega
          · rw [← HQ.out, HM.out]
        clear hown3 hgrow hat hlt3
        go_wp2
        go_roundw
        case rel => first | exact HR.out | (have := HR.out; simpa using this)
        case measure => first | (simp [intOf]; done) | (simp [intOf]; omega)
    · obtain rfl : j = s.size + 1 := by omega
      have he := H2.out rfl
      subst he
      obtain ⟨a, cp, rfl, hst, hnew⟩ := own_strs HW.out
      have HT := Lib.hid hst
      have HN := Lib.hid hnew
      clear hst hnew
      go_wp2
      go_ret
      exact ⟨a, cp, rfl, HT.out, HN.out, HB.out⟩
end Go.Proofs.YtoabpbdjffonlaaGreatDoor
namespace Go.Proofs.YtoabpbdjffonlaaGreatDoor
open Go.ChangeShapes Go.WideShapes Go.ChangeAt Go.RowKit

end Go.Proofs.YtoabpbdjffonlaaGreatDoor
