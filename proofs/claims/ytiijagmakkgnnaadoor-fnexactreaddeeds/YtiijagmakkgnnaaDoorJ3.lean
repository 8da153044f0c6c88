/-
  Texts joined: SplitF, DeedF, Rdr, Told, KindI, IntS, FrameD, DrawB.
-/
import Derived.Test.YtiijagmakkgnnaaDoorJ2
import Derived.Lib.SplitLaws
import Derived.WalkKit
import Derived.BigQuiet
import Derived.WalkMore
import Derived.LoopN
import Derived.Laws.IdiomStrings
import Derived.StillTailTactics
import Derived.ProofKit
import Derived.OpenShut
import Derived.Outline
import Derived.WalkLawsBesides
import Derived.Below
import Derived.Lib.Hide
import Derived.Deep.QuietTactic
namespace Go.Proofs.YtiijagmakkgnnaaDoor
open Go.Lib
/-! The library's own split is the same -/
theorem pieces_more (c b : UInt8) : ∀ (l cur h : List UInt8) (t : List (List UInt8)), pieces c cur l = h :: t → pieces c (b :: cur) l = (b :: h) :: t
  | [], cur, h, t, e => by
    rw [pieces] at e ⊢
    obtain ⟨rfl, rfl⟩ := List.cons.inj e
    rfl
  | x :: l, cur, h, t, e => by
    rw [pieces] at e ⊢
    by_cases q : x = c
    · rw [if_pos q] at e ⊢
      obtain ⟨rfl, rfl⟩ := List.cons.inj e
      rfl
    · rw [if_neg q] at e ⊢
      exact pieces_more c b l (cur ++ [x]) h t e
theorem index_skip (b c : UInt8) (l : List UInt8) (h : b ≠ c) : Lib.index (b :: l) [c] = if Lib.index l [c] == -1 then -1 else Lib.index l [c] + 1 := by
  have hp : ([c] : List UInt8).isPrefixOf (b :: l) = false := by simp [List.isPrefixOf, Ne.symm h]
  rw [Lib.index, hp]; simp
theorem index_here (c : UInt8) (l : List UInt8) : Lib.index (c :: l) [c] = 0 := by rw [Lib.index]; simp [List.isPrefixOf]
theorem split_pieces (c : UInt8) : ∀ l : List UInt8, Lib.splitK [c] 0 (Lib.count l [c]) l = pieces c [] l
  | [] => by
    have : Lib.count [] [c] = 0 := by rw [Lib.count_one]; rfl
    rw [this]; rfl
  | b :: l => by
    have ih := split_pieces c l
    by_cases h : b = c
    · subst h
      rw [Lib.count_cons_eq, Nat.add_comm, Lib.splitK, index_here]
      simp only [pieces, if_true, show ((0 : Int) == -1) = false from rfl, Bool.false_eq_true, if_false]
      rw [← ih]; rfl
    · rw [Lib.count_cons_ne b c l h]
      have hp : pieces c [] (b :: l) = pieces c [b] l := by rw [pieces, if_neg h]; rfl
      rw [hp]
      cases hk : Lib.count l [c] with
      | zero =>
        rw [hk, Lib.splitK] at ih
        rw [Lib.splitK, pieces_more c b l [] l [] ih.symm]
      | succ k =>
        rw [hk, Lib.splitK] at ih
        rw [Lib.splitK, index_skip b c l h]
        by_cases hm : Lib.index l [c] = -1
        · simp only [hm, show ((-1 : Int) == -1) = true from rfl, if_true] at ih ⊢
          rw [pieces_more c b l [] l [] ih.symm]
        · have hge := Lib.index_ge l [c]
          obtain ⟨j, hj⟩ : ∃ j : Nat, Lib.index l [c] = j := ⟨(Lib.index l [c]).toNat, by omega⟩
          rw [hj] at ih ⊢
          have z1 : (((j : Nat) : Int) == -1) = false := by
            rw [beq_eq_false_iff_ne]; omega
          have z2 : (((j : Nat) : Int) + 1 == -1) = false := by
            rw [beq_eq_false_iff_ne]; omega
          simp only [z1, z2, Bool.false_eq_true, if_false] at ih ⊢
          rw [pieces_more c b l [] _ _ ih.symm]
          have e : (((j : Nat) : Int) + 1).toNat = j + 1 := by omega
          have e2 : ((j : Nat) : Int).toNat = j := by omega
          rw [e, e2]
          simp
/-- strings.Split's pieces are l1Split's. -/
theorem splitB_pieces (c : UInt8) (s : ByteArray) : Lib.splitB ⟨#[c]⟩ 0 (Lib.count s.data.toList [c]) s = splitB1 c.toNat s := by
  have h1 := Lib.splitB_data ⟨#[c]⟩ 0 (Lib.count s.data.toList [c]) s
  have h2 := splitB1_list c s
  have h3 : Lib.splitK [c] 0 (Lib.count s.data.toList [c]) s.data.toList = pieces c [] s.data.toList := split_pieces c _
  have h : (Lib.splitB ⟨#[c]⟩ 0 (Lib.count s.data.toList [c]) s).map (·.data.toList) = (splitB1 c.toNat s).map (·.data.toList) := by
    rw [h1, h2]; exact h3
  exact (List.map_inj_right (fun a b q => WideShapes.bytes_inj q)).mp h
end Go.Proofs.YtiijagmakkgnnaaDoor
namespace Go.Proofs.YtiijagmakkgnnaaDoor
set_option linter.unusedSimpArgs false
open Go.Lib

def countB (s : ByteArray) : Bool := match readL s.data.toList with
  | some n => decide (0 ≤ n)
  | none => false
theorem name_empty : nameB ByteArray.empty = false := by decide
theorem count_empty : countB ByteArray.empty = false := by decide
theorem readL_bd {s : ByteArray} {n : Int} (h : readL s.data.toList = some n) : n ≤ 999999999 := by have := (readL_some h).2; omega
theorem nameIs_t (s : ByteArray) : nameIs s true = nameB s := rfl
theorem nameIs_e : nameIs ByteArray.empty false = true := by
  unfold nameIs; rw [if_neg (by simp), ByteArray.toList_eq]; rfl
theorem dk_1 (who mill to : ByteArray) (n : Int) : deedB ⟨1, who, mill, to, n⟩ = (nameIs who false && (nameIs mill true && (nameIs to false && inB 0 999999999 n))) := by
  simp only [deedB, mostN, show hasB (tellsS 1) 87 = false by decide, show hasB (tellsS 1) 77 = true by decide, show hasB (tellsS 1) 84 = false by decide, show hasB (tellsS 1) 78 = true by decide]; rfl
theorem dk_2 (who mill to : ByteArray) (n : Int) : deedB ⟨2, who, mill, to, n⟩ = (nameIs who true && (nameIs mill false && (nameIs to false && inB 0 0 n))) := by
  simp only [deedB, mostN, show hasB (tellsS 2) 87 = true by decide, show hasB (tellsS 2) 77 = false by decide, show hasB (tellsS 2) 84 = false by decide, show hasB (tellsS 2) 78 = false by decide]; rfl
theorem dk_3 (who mill to : ByteArray) (n : Int) : deedB ⟨3, who, mill, to, n⟩ = (nameIs who false && (nameIs mill true && (nameIs to false && inB 0 999999999 n))) := by
  simp only [deedB, mostN, show hasB (tellsS 3) 87 = false by decide, show hasB (tellsS 3) 77 = true by decide, show hasB (tellsS 3) 84 = false by decide, show hasB (tellsS 3) 78 = true by decide]; rfl
theorem dk_4 (who mill to : ByteArray) (n : Int) : deedB ⟨4, who, mill, to, n⟩ = (nameIs who true && (nameIs mill true && (nameIs to false && inB 0 999999999 n))) := by
  simp only [deedB, mostN, show hasB (tellsS 4) 87 = true by decide, show hasB (tellsS 4) 77 = true by decide, show hasB (tellsS 4) 84 = false by decide, show hasB (tellsS 4) 78 = true by decide]; rfl
theorem dk_5 (who mill to : ByteArray) (n : Int) : deedB ⟨5, who, mill, to, n⟩ = (nameIs who true && (nameIs mill true && (nameIs to false && inB 0 999999999 n))) := by
  simp only [deedB, mostN, show hasB (tellsS 5) 87 = true by decide, show hasB (tellsS 5) 77 = true by decide, show hasB (tellsS 5) 84 = false by decide, show hasB (tellsS 5) 78 = true by decide]; rfl
theorem dk_6 (who mill to : ByteArray) (n : Int) : deedB ⟨6, who, mill, to, n⟩ = (nameIs who true && (nameIs mill true && (nameIs to true && inB 0 999999999 n))) := by
  simp only [deedB, mostN, show hasB (tellsS 6) 87 = true by decide, show hasB (tellsS 6) 77 = true by decide, show hasB (tellsS 6) 84 = true by decide, show hasB (tellsS 6) 78 = true by decide]; rfl
theorem dk_7 (who mill to : ByteArray) (n : Int) : deedB ⟨7, who, mill, to, n⟩ = (nameIs who false && (nameIs mill true && (nameIs to false && inB 0 999999999 n))) := by
  simp only [deedB, mostN, show hasB (tellsS 7) 87 = false by decide, show hasB (tellsS 7) 77 = true by decide, show hasB (tellsS 7) 84 = false by decide, show hasB (tellsS 7) 78 = true by decide]; rfl
theorem dk_8 (who mill to : ByteArray) (n : Int) : deedB ⟨8, who, mill, to, n⟩ = (nameIs who false && (nameIs mill true && (nameIs to false && inB 0 0 n))) := by
  simp only [deedB, mostN, show hasB (tellsS 8) 87 = false by decide, show hasB (tellsS 8) 77 = true by decide, show hasB (tellsS 8) 84 = false by decide, show hasB (tellsS 8) 78 = false by decide]; rfl
theorem dk_9 (who mill to : ByteArray) (n : Int) : deedB ⟨9, who, mill, to, n⟩ = (nameIs who false && (nameIs mill true && (nameIs to false && inB 0 999999999 n))) := by
  simp only [deedB, mostN, show hasB (tellsS 9) 87 = false by decide, show hasB (tellsS 9) 77 = true by decide, show hasB (tellsS 9) 84 = false by decide, show hasB (tellsS 9) 78 = true by decide]; rfl
theorem dk_10 (who mill to : ByteArray) (n : Int) : deedB ⟨10, who, mill, to, n⟩ = (nameIs who true && (nameIs mill false && (nameIs to true && inB 0 999999999 n))) := by
  simp only [deedB, mostN, show hasB (tellsS 10) 87 = true by decide, show hasB (tellsS 10) 77 = false by decide, show hasB (tellsS 10) 84 = true by decide, show hasB (tellsS 10) 78 = true by decide]; rfl
theorem dk_11 (who mill to : ByteArray) (n : Int) : deedB ⟨11, who, mill, to, n⟩ = (nameIs who false && (nameIs mill false && (nameIs to false && inB 0 0 n))) := by
  simp only [deedB, mostN, show hasB (tellsS 11) 87 = false by decide, show hasB (tellsS 11) 77 = false by decide, show hasB (tellsS 11) 84 = false by decide, show hasB (tellsS 11) 78 = false by decide]; rfl
theorem rd_1 (x0 : ByteArray) (rest : List ByteArray) : readW (x0 :: rest) 1 = if (!((false || !nameB (sat rest 0)) || !countB (sat rest.tail 0)) && rest.tail.tail.isEmpty) = true then some ⟨1, ByteArray.empty, sat rest 0, ByteArray.empty, (readL (sat rest.tail 0).data.toList).getD 0⟩ else none := by
  rcases rest with _ | ⟨a, _ | ⟨b, _ | ⟨c, r⟩⟩⟩
  · simp [readW, tellsS, sat, ByteArray.size, name_empty, count_empty]
  · simp [readW, tellsS, sat, ByteArray.size, name_empty, count_empty]
  · cases hn : readL b.data.toList with
    | none => simp [readW, runR, stepR, tellsS, byteN, sat, zeroD, dk_1, nameIs_t, nameIs_e, inB, countB, ByteArray.size, hn]
    | some n =>
      have hb := readL_bd hn
      simp [readW, runR, stepR, tellsS, byteN, sat, zeroD, dk_1, nameIs_t, nameIs_e, inB, countB, ByteArray.size, hn, hb, and_assoc]
  · simp [readW, tellsS, sat, ByteArray.size, name_empty, count_empty]
theorem rd_2 (x0 : ByteArray) (rest : List ByteArray) : readW (x0 :: rest) 2 = if (!(false || !nameB (sat rest 0)) && rest.tail.isEmpty) = true then some ⟨2, sat rest 0, ByteArray.empty, ByteArray.empty, 0⟩ else none := by
  rcases rest with _ | ⟨a, _ | ⟨b, r⟩⟩
  · simp [readW, tellsS, sat, ByteArray.size, name_empty, count_empty]
  · simp [readW, runR, stepR, tellsS, byteN, sat, zeroD, dk_2, nameIs_t, nameIs_e, inB, ByteArray.size, name_empty, count_empty, and_assoc]
  · simp [readW, tellsS, sat, ByteArray.size, name_empty, count_empty]
theorem rd_3 (x0 : ByteArray) (rest : List ByteArray) : readW (x0 :: rest) 3 = if (!((false || !nameB (sat rest 0)) || !countB (sat rest.tail 0)) && rest.tail.tail.isEmpty) = true then some ⟨3, ByteArray.empty, sat rest 0, ByteArray.empty, (readL (sat rest.tail 0).data.toList).getD 0⟩ else none := by
  rcases rest with _ | ⟨a, _ | ⟨b, _ | ⟨c, r⟩⟩⟩
  · simp [readW, tellsS, sat, ByteArray.size, name_empty, count_empty]
  · simp [readW, tellsS, sat, ByteArray.size, name_empty, count_empty]
  · cases hn : readL b.data.toList with
    | none => simp [readW, runR, stepR, tellsS, byteN, sat, zeroD, dk_3, nameIs_t, nameIs_e, inB, countB, ByteArray.size, hn]
    | some n =>
      have hb := readL_bd hn
      simp [readW, runR, stepR, tellsS, byteN, sat, zeroD, dk_3, nameIs_t, nameIs_e, inB, countB, ByteArray.size, hn, hb, and_assoc]
  · simp [readW, tellsS, sat, ByteArray.size, name_empty, count_empty]
theorem rd_4 (x0 : ByteArray) (rest : List ByteArray) : readW (x0 :: rest) 4 = if (!(((false || !nameB (sat rest 0)) || !nameB (sat rest.tail 0)) || !countB (sat rest.tail.tail 0)) && rest.tail.tail.tail.isEmpty) = true then some ⟨4, sat rest 0, sat rest.tail 0, ByteArray.empty, (readL (sat rest.tail.tail 0).data.toList).getD 0⟩ else none := by
  rcases rest with _ | ⟨a, _ | ⟨b, _ | ⟨c, _ | ⟨d, r⟩⟩⟩⟩
  · simp [readW, tellsS, sat, ByteArray.size, name_empty, count_empty]
  · simp [readW, tellsS, sat, ByteArray.size, name_empty, count_empty]
  · simp [readW, tellsS, sat, ByteArray.size, name_empty, count_empty]
  · cases hn : readL c.data.toList with
    | none => simp [readW, runR, stepR, tellsS, byteN, sat, zeroD, dk_4, nameIs_t, nameIs_e, inB, countB, ByteArray.size, hn]
    | some n =>
      have hb := readL_bd hn
      simp [readW, runR, stepR, tellsS, byteN, sat, zeroD, dk_4, nameIs_t, nameIs_e, inB, countB, ByteArray.size, hn, hb, and_assoc]
  · simp [readW, tellsS, sat, ByteArray.size, name_empty, count_empty]
theorem rd_5 (x0 : ByteArray) (rest : List ByteArray) : readW (x0 :: rest) 5 = if (!(((false || !nameB (sat rest 0)) || !nameB (sat rest.tail 0)) || !countB (sat rest.tail.tail 0)) && rest.tail.tail.tail.isEmpty) = true then some ⟨5, sat rest 0, sat rest.tail 0, ByteArray.empty, (readL (sat rest.tail.tail 0).data.toList).getD 0⟩ else none := by
  rcases rest with _ | ⟨a, _ | ⟨b, _ | ⟨c, _ | ⟨d, r⟩⟩⟩⟩
  · simp [readW, tellsS, sat, ByteArray.size, name_empty, count_empty]
  · simp [readW, tellsS, sat, ByteArray.size, name_empty, count_empty]
  · simp [readW, tellsS, sat, ByteArray.size, name_empty, count_empty]
  · cases hn : readL c.data.toList with
    | none => simp [readW, runR, stepR, tellsS, byteN, sat, zeroD, dk_5, nameIs_t, nameIs_e, inB, countB, ByteArray.size, hn]
    | some n =>
      have hb := readL_bd hn
      simp [readW, runR, stepR, tellsS, byteN, sat, zeroD, dk_5, nameIs_t, nameIs_e, inB, countB, ByteArray.size, hn, hb, and_assoc]
  · simp [readW, tellsS, sat, ByteArray.size, name_empty, count_empty]
theorem rd_6 (x0 : ByteArray) (rest : List ByteArray) : readW (x0 :: rest) 6 = if (!((((false || !nameB (sat rest 0)) || !nameB (sat rest.tail 0)) || !nameB (sat rest.tail.tail 0)) || !countB (sat rest.tail.tail.tail 0)) && rest.tail.tail.tail.tail.isEmpty) = true then some ⟨6, sat rest 0, sat rest.tail 0, sat rest.tail.tail 0, (readL (sat rest.tail.tail.tail 0).data.toList).getD 0⟩ else none := by
  rcases rest with _ | ⟨a, _ | ⟨b, _ | ⟨c, _ | ⟨d, _ | ⟨e, r⟩⟩⟩⟩⟩
  · simp [readW, tellsS, sat, ByteArray.size, name_empty, count_empty]
  · simp [readW, tellsS, sat, ByteArray.size, name_empty, count_empty]
  · simp [readW, tellsS, sat, ByteArray.size, name_empty, count_empty]
  · simp [readW, tellsS, sat, ByteArray.size, name_empty, count_empty]
  · cases hn : readL d.data.toList with
    | none => simp [readW, runR, stepR, tellsS, byteN, sat, zeroD, dk_6, nameIs_t, nameIs_e, inB, countB, ByteArray.size, hn]
    | some n =>
      have hb := readL_bd hn
      simp [readW, runR, stepR, tellsS, byteN, sat, zeroD, dk_6, nameIs_t, nameIs_e, inB, countB, ByteArray.size, hn, hb, and_assoc]
  · simp [readW, tellsS, sat, ByteArray.size, name_empty, count_empty]
theorem rd_7 (x0 : ByteArray) (rest : List ByteArray) : readW (x0 :: rest) 7 = if (!((false || !nameB (sat rest 0)) || !countB (sat rest.tail 0)) && rest.tail.tail.isEmpty) = true then some ⟨7, ByteArray.empty, sat rest 0, ByteArray.empty, (readL (sat rest.tail 0).data.toList).getD 0⟩ else none := by
  rcases rest with _ | ⟨a, _ | ⟨b, _ | ⟨c, r⟩⟩⟩
  · simp [readW, tellsS, sat, ByteArray.size, name_empty, count_empty]
  · simp [readW, tellsS, sat, ByteArray.size, name_empty, count_empty]
  · cases hn : readL b.data.toList with
    | none => simp [readW, runR, stepR, tellsS, byteN, sat, zeroD, dk_7, nameIs_t, nameIs_e, inB, countB, ByteArray.size, hn]
    | some n =>
      have hb := readL_bd hn
      simp [readW, runR, stepR, tellsS, byteN, sat, zeroD, dk_7, nameIs_t, nameIs_e, inB, countB, ByteArray.size, hn, hb, and_assoc]
  · simp [readW, tellsS, sat, ByteArray.size, name_empty, count_empty]
theorem rd_8 (x0 : ByteArray) (rest : List ByteArray) : readW (x0 :: rest) 8 = if (!(false || !nameB (sat rest 0)) && rest.tail.isEmpty) = true then some ⟨8, ByteArray.empty, sat rest 0, ByteArray.empty, 0⟩ else none := by
  rcases rest with _ | ⟨a, _ | ⟨b, r⟩⟩
  · simp [readW, tellsS, sat, ByteArray.size, name_empty, count_empty]
  · simp [readW, runR, stepR, tellsS, byteN, sat, zeroD, dk_8, nameIs_t, nameIs_e, inB, ByteArray.size, name_empty, count_empty, and_assoc]
  · simp [readW, tellsS, sat, ByteArray.size, name_empty, count_empty]
theorem rd_9 (x0 : ByteArray) (rest : List ByteArray) : readW (x0 :: rest) 9 = if (!((false || !nameB (sat rest 0)) || !countB (sat rest.tail 0)) && rest.tail.tail.isEmpty) = true then some ⟨9, ByteArray.empty, sat rest 0, ByteArray.empty, (readL (sat rest.tail 0).data.toList).getD 0⟩ else none := by
  rcases rest with _ | ⟨a, _ | ⟨b, _ | ⟨c, r⟩⟩⟩
  · simp [readW, tellsS, sat, ByteArray.size, name_empty, count_empty]
  · simp [readW, tellsS, sat, ByteArray.size, name_empty, count_empty]
  · cases hn : readL b.data.toList with
    | none => simp [readW, runR, stepR, tellsS, byteN, sat, zeroD, dk_9, nameIs_t, nameIs_e, inB, countB, ByteArray.size, hn]
    | some n =>
      have hb := readL_bd hn
      simp [readW, runR, stepR, tellsS, byteN, sat, zeroD, dk_9, nameIs_t, nameIs_e, inB, countB, ByteArray.size, hn, hb, and_assoc]
  · simp [readW, tellsS, sat, ByteArray.size, name_empty, count_empty]
theorem rd_10 (x0 : ByteArray) (rest : List ByteArray) : readW (x0 :: rest) 10 = if (!(((false || !nameB (sat rest 0)) || !nameB (sat rest.tail 0)) || !countB (sat rest.tail.tail 0)) && rest.tail.tail.tail.isEmpty) = true then some ⟨10, sat rest 0, ByteArray.empty, sat rest.tail 0, (readL (sat rest.tail.tail 0).data.toList).getD 0⟩ else none := by
  rcases rest with _ | ⟨a, _ | ⟨b, _ | ⟨c, _ | ⟨d, r⟩⟩⟩⟩
  · simp [readW, tellsS, sat, ByteArray.size, name_empty, count_empty]
  · simp [readW, tellsS, sat, ByteArray.size, name_empty, count_empty]
  · simp [readW, tellsS, sat, ByteArray.size, name_empty, count_empty]
  · cases hn : readL c.data.toList with
    | none => simp [readW, runR, stepR, tellsS, byteN, sat, zeroD, dk_10, nameIs_t, nameIs_e, inB, countB, ByteArray.size, hn]
    | some n =>
      have hb := readL_bd hn
      simp [readW, runR, stepR, tellsS, byteN, sat, zeroD, dk_10, nameIs_t, nameIs_e, inB, countB, ByteArray.size, hn, hb, and_assoc]
  · simp [readW, tellsS, sat, ByteArray.size, name_empty, count_empty]
theorem rd_11 (x0 : ByteArray) (rest : List ByteArray) : readW (x0 :: rest) 11 = if (!false && rest.isEmpty) = true then some ⟨11, ByteArray.empty, ByteArray.empty, ByteArray.empty, 0⟩ else none := by
  rcases rest with _ | ⟨a, r⟩
  · simp [readW, runR, stepR, tellsS, byteN, sat, zeroD, dk_11, nameIs_t, nameIs_e, inB, ByteArray.size, name_empty, count_empty, and_assoc]
  · simp [readW, tellsS, sat, ByteArray.size, name_empty, count_empty]
end Go.Proofs.YtiijagmakkgnnaaDoor
namespace Go.Proofs.YtiijagmakkgnnaaDoor
open Go.ChangeShapes Go.WideShapes Go.ChangeAt Go.RowKit

/-- Nothing but block R has turned. -/
def Adv (R : Nat) (w w' : World) : Prop := Below R w w' ∧ ∀ b, b ≠ R → b < w.heap.size → w'.heap[b]? = w.heap[b]?
theorem Adv.refl (R : Nat) (w : World) : Adv R w w := ⟨Below.refl _ _, fun _ _ _ => rfl⟩
theorem Adv.trans {R : Nat} {a b c : World} (h : Adv R a b) (k : Adv R b c) : Adv R a c :=
  ⟨h.1.trans k.1, fun i h1 h2 => (k.2 i h1 (Nat.lt_of_lt_of_le h2 h.1.size)).trans (h.2 i h1 h2)⟩
theorem Adv.of {R : Nat} {w w' : World} (h : Below w.heap.size w w') (hR : R ≤ w.heap.size) : Adv R w w' := ⟨h.mono hR, fun b _ hb => h.block b hb⟩
theorem Adv.set (R o : Nat) (w : World) (v : Value) : Adv R w (w.setCell ⟨R, o, none⟩ v) :=
  ⟨(Below.refl R w).setCell (Nat.le_refl _) v, fun b h1 _ => Below.heap_setCell w ⟨R, o, none⟩ v b h1⟩
theorem Adv.cell {R : Nat} {w w' : World} (h : Adv R w w') {b o : Nat} (h1 : b ≠ R) (h2 : b < w.heap.size) : w'.cell? ⟨b, o, none⟩ = w.cell? ⟨b, o, none⟩ := World.cell?_of_block (w := w) (h.2 b h1 h2)
theorem Adv.frozen {R : Nat} {w w' : World} (h : Adv R w w') {b o : Nat} (h1 : b ≠ R) (h2 : b < w.heap.size) : w'.frozen? ⟨b, o, none⟩ = w.frozen? ⟨b, o, none⟩ := World.frozen?_of_block (w := w) (h.2 b h1 h2)

theorem pow_named : Tryd.prog.globalNamed "internal/strconv.uint64pow10" = some 1 := by kernel_rfl
theorem tab_under {w w' : World} {k : IntKind} {zs : List Int} {R : Nat} (h : Lib.TabIs Tryd.prog w "internal/strconv.uint64pow10" k zs) (hb : Below R w w') (hR : 8 ≤ R) : Lib.TabIs Tryd.prog w' "internal/strconv.uint64pow10" k zs := by
  unfold Lib.TabIs World.var? at h ⊢
  rw [pow_named] at h ⊢
  simp only [Option.bind_some] at h ⊢
  rw [hb.block 1 (by omega)]; exact h
theorem Glob.adv {R : Nat} {w w' : World} (h : Glob w) (ha : Adv R w w') (hR : 8 ≤ R) : Glob w' :=
  ⟨tab_under h.tab ha.1 hR, let ⟨t, p, e⟩ := h.syn; ⟨t, p, (ha.1.cell (p := ⟨4, 0, none⟩) (by show 4 < R; omega)).trans e⟩, let ⟨t, p, e⟩ := h.rng; ⟨t, p, (ha.1.cell (p := ⟨5, 0, none⟩) (by show 5 < R; omega)).trans e⟩⟩

/-- The reader lies in block R: these words are left; is it off? The words lie below B. -/
structure Rdr (B R : Nat) (ws : List ByteArray) (f : Bool) (w : World) : Prop where
  lies : ∃ b off c, w.cell? ⟨R, 0, none⟩ = some (.slice (some ⟨b, off, none⟩) ws.length c) ∧ ws.length ≤ c ∧ (∀ k u, ws[k]? = some u → w.cell? ⟨b, off + k, none⟩ = some (.string u)) ∧ b < B
  off : w.cell? ⟨R, 1, none⟩ = some (.bool f)
  fz : ∀ o, w.frozen? ⟨R, o, none⟩ = false
  le : B ≤ R
  lt : R < w.heap.size
theorem Rdr.step {B R : Nat} {ws : List ByteArray} {f : Bool} {w w' : World} (h : Rdr B R ws f w) (hb : Below w.heap.size w w') : Rdr B R ws f w' :=
  let ⟨b, off, c, h1, h2, h3, h4⟩ := h.lies
  ⟨⟨b, off, c, (hb.cell (p := ⟨R, 0, none⟩) h.lt).trans h1, h2, fun k u hk => (hb.cell (p := ⟨b, off + k, none⟩) (Nat.lt_trans (Nat.lt_of_lt_of_le h4 h.le) h.lt)).trans (h3 k u hk), h4⟩,
    (hb.cell (p := ⟨R, 1, none⟩) h.lt).trans h.off, fun o => (hb.frozen (p := ⟨R, o, none⟩) h.lt).trans (h.fz o), h.le, Nat.lt_of_lt_of_le h.lt hb.size⟩
theorem Rdr.far {B R D o : Nat} {ws : List ByteArray} {f : Bool} {w : World} {v : Value} (h : Rdr B R ws f w) (hD : B ≤ D) (hne : R ≠ D) : Rdr B R ws f (w.setCell ⟨D, o, none⟩ v) := by
  obtain ⟨b, off, c, h1, h2, h3, h4⟩ := h.lies
  have hd : D ≠ b := by omega
  have hr : D ≠ R := fun e => hne e.symm
  refine ⟨⟨b, off, c, ?_, h2, fun k u hk => ?_, h4⟩, ?_, fun o' => by rw [World.frozen?_setCell]; exact h.fz o', h.le, by have := h.lt; simpa [World.setCell] using this⟩
  · rw [World.cell?_setCell_far _ _ _ _ (by simpa using hr)]; exact h1
  · rw [World.cell?_setCell_far _ _ _ _ (by simpa using hd)]; exact h3 k u hk
  · rw [World.cell?_setCell_far _ _ _ _ (by simpa using hr)]; exact h.off
theorem Rdr.mark {B R : Nat} {ws : List ByteArray} {f : Bool} {w : World} (g : Bool) (h : Rdr B R ws f w) : Rdr B R ws g (w.setCell ⟨R, 1, none⟩ (.bool g)) := by
  obtain ⟨b, off, c, h1, h2, h3, h4⟩ := h.lies
  have hd : R ≠ b := by have := h.le; omega
  refine ⟨⟨b, off, c, ?_, h2, fun k u hk => ?_, h4⟩, World.cell?_setCell_same _ _ _ h.off, fun o' => by rw [World.frozen?_setCell]; exact h.fz o', h.le, by have := h.lt; simpa [World.setCell] using this⟩
  · rw [World.cell?_setCell_other _ _ _ _ (by intro z; injection z with _ z; cases z)]; exact h1
  · rw [World.cell?_setCell_far _ _ _ _ (by simpa using hd)]; exact h3 k u hk
theorem Rdr.next {B R b off c c' : Nat} {a' : Addr} {x : ByteArray} {r : List ByteArray} {f : Bool} {w : World} (h : Rdr B R (x :: r) f w) (h1 : w.cell? ⟨R, 0, none⟩ = some (.slice (some ⟨b, off, none⟩) (r.length + 1) c)) (hb : b < B)
    (h3 : ∀ k u, (x :: r)[k]? = some u → w.cell? ⟨b, off + k, none⟩ = some (.string u)) (ha : (r = [] ∧ a' = ⟨b, off, none⟩) ∨ a' = ⟨b, off + 1, none⟩) (hc : r.length ≤ c') :
    Rdr B R r f (w.setCell ⟨R, 0, none⟩ (.slice (some a') r.length c')) := by
  have hne : R ≠ b := by have := h.le; omega
  refine ⟨?_, (World.cell?_setCell_other _ _ _ _ (by intro z; injection z with _ z; cases z)).trans h.off, fun o' => by rw [World.frozen?_setCell]; exact h.fz o', h.le, by have := h.lt; simpa [World.setCell] using this⟩
  rcases ha with ⟨rfl, rfl⟩ | rfl
  · exact ⟨b, off, c', World.cell?_setCell_same _ _ _ h1, hc, fun k u hk => (by simp at hk), hb⟩
  · refine ⟨b, off + 1, c', World.cell?_setCell_same _ _ _ h1, hc, fun k u hk => ?_, hb⟩
    rw [World.cell?_setCell_far _ _ _ _ (by simpa using hne), Nat.add_right_comm]
    exact h3 (k + 1) u (by simpa using hk)

/-- What a word's reading leaves. -/
def WordR (B R : Nat) (ws : List ByteArray) (f : Bool) (w : World) (e : Ending) (w' : World) : Prop :=
  e = .returned (.string (sat ws 0)) ∧ Rdr B R ws.tail f w' ∧ Adv R w w'
set_option maxHeartbeats 1000000 in
set_option maxRecDepth 100000 in
theorem word_any {B R : Nat} {ws : List ByteArray} {f : Bool} {w : World} (h : Rdr B R ws f w) (hl : ws.length ≤ 1048576) :
    Calls Tryd.prog 37 #[.pointer (some ⟨R, 0, none⟩)] w (WordR B R ws f w) := by
  have H := Lib.hid h
  clear h
  match ws, H, hl with
  | [], H, _ =>
    obtain ⟨b, off, c, h1, -⟩ := H.out.lies
    have h1 : w.cell? ⟨R, 0, none⟩ = some (.slice (some ⟨b, off, none⟩) 0 c) := h1
    go_enter Tryd.func37, Tryd.ntmps37
    go_wp2
    go_ret
    exact ⟨rfl, H.out, Adv.refl _ _⟩
  | x :: r, H, hl =>
    obtain ⟨b, off, c, h1, hc, h3, hb⟩ := H.out.lies
    have h1 : w.cell? ⟨R, 0, none⟩ = some (.slice (some ⟨b, off, none⟩) (r.length + 1) c) := h1
    have hx : w.cell? ⟨b, off, none⟩ = some (.string x) := h3 0 x rfl
    have hx' : w.cell? ⟨b, off + 0, none⟩ = some (.string x) := h3 0 x rfl
    have hfz := H.out.fz 0
    have hc' : r.length + 1 ≤ c := hc
    have hl' : r.length + 1 ≤ 1048576 := hl
    have H3 := Lib.hid h3
    have H1 := Lib.hid h1
    clear h3 hc hl
    have hne : R ≠ b := by have := H.out.le; omega
    have hlt := H.out.lt
    by_cases hc1 : c = 1
    · subst hc1
      have hr : r = [] := by cases r with
        | nil => rfl
        | cons _ _ => simp at hc'
      subst hr
      go_enter Tryd.func37, Tryd.ntmps37
      go_wp2
      go_ret
      exact ⟨rfl, H.out.next H1.out hb H3.out (.inl ⟨rfl, rfl⟩) (Nat.zero_le _), Adv.set _ _ _ _⟩
    · have HC := Lib.hid hc1
      go_enter Tryd.func37, Tryd.ntmps37
      go_wp2
      go_ret
      exact ⟨rfl, H.out.next H1.out hb H3.out (.inr rfl) (by omega), Adv.set _ _ _ _⟩
/-- What a name's reading leaves, and a number's. -/
def NameR (B R : Nat) (ws : List ByteArray) (f : Bool) (w : World) (e : Ending) (w' : World) : Prop :=
  e = .returned (.string (sat ws 0)) ∧ Rdr B R ws.tail (f || !nameB (sat ws 0)) w' ∧ Adv R w w'
def CountR (B R : Nat) (ws : List ByteArray) (f : Bool) (w : World) (e : Ending) (w' : World) : Prop :=
  e = .returned (.int .i64 ((readL (sat ws 0).data.toList).getD 0)) ∧ Rdr B R ws.tail (f || !countB (sat ws 0)) w' ∧ Adv R w w'
theorem name_any {B R : Nat} {ws : List ByteArray} {f : Bool} {w : World} (h : Rdr B R ws f w) (hl : ws.length ≤ 1048576) (hs : (sat ws 0).size ≤ maxLen) :
    Calls Tryd.prog 39 #[.pointer (some ⟨R, 0, none⟩)] w (NameR B R ws f w) := by
  have H := Lib.hid h
  have HL := Lib.hid hl
  have HS := Lib.hid hs
  clear h hl hs
  go_enter Tryd.func39, Tryd.ntmps39
  go_wp2_with fail
  refine (word_any H.out HL.out).mono ?_
  rintro e w1 ⟨rfl, hr, ha⟩
  have HR := Lib.hid hr
  have HA := Lib.hid ha
  clear hr ha
  obtain ⟨x, hx⟩ : ∃ x, sat ws 0 = x := ⟨_, rfl⟩
  have HX := Lib.hid hx
  rw [hx] at HS ⊢
  clear hx
  cases hn : nameB x
  · have HN := Lib.hid hn
    have c1 := HR.out.off
    have hf := HR.out.fz 1
    clear hn
    go_wp2_with fail
    refine (iNameOk_any _ _ HS.out).mono ?_
    rintro e w2 ⟨rfl, rfl⟩
    rw [HN.out]
    go_wp2
    go_ret
    exact ⟨by rw [HX.out]; rfl, by rw [HX.out, HN.out, Bool.not_false, Bool.or_true]; exact HR.out.mark true, HA.out.trans (Adv.set _ _ _ _)⟩
  · have HN := Lib.hid hn
    clear hn
    go_wp2_with fail
    refine (iNameOk_any _ _ HS.out).mono ?_
    rintro e w2 ⟨rfl, rfl⟩
    rw [HN.out]
    go_wp2
    go_ret
    exact ⟨by rw [HX.out]; rfl, by rw [HX.out, HN.out, Bool.not_true, Bool.or_false]; exact HR.out, HA.out⟩
set_option maxHeartbeats 1000000 in
set_option maxRecDepth 100000 in
theorem count_any {B R : Nat} {ws : List ByteArray} {f : Bool} {w : World} (h : Rdr B R ws f w) (hl : ws.length ≤ 1048576) (hs : (sat ws 0).size ≤ 281474976710656) (hg : Glob w) (h8 : 8 ≤ B) :
    Calls Tryd.prog 40 #[.pointer (some ⟨R, 0, none⟩)] w (CountR B R ws f w) := by
  have H := Lib.hid h
  have HL := Lib.hid hl
  have HS := Lib.hid hs
  have HG := Lib.hid hg
  clear h hl hs hg
  go_enter Tryd.func40, Tryd.ntmps40
  go_wp2_with fail
  refine (word_any H.out HL.out).mono ?_
  rintro e w1 ⟨rfl, hr, ha⟩
  have HR := Lib.hid hr
  have HA := Lib.hid ha
  clear hr ha
  obtain ⟨x, hx⟩ : ∃ x, sat ws 0 = x := ⟨_, rfl⟩
  have HX := Lib.hid hx
  rw [hx] at HS ⊢
  clear hx
  go_wp2_with fail
  refine (numberIn_any x _ HS.out (HG.out.adv HA.out (by have := H.out.le; omega))).mono ?_
  rintro e w2 ⟨rfl, hb⟩
  have HR2 := Lib.hid (HR.out.step hb)
  have HA2 := Lib.hid (HA.out.trans (Adv.of hb (Nat.le_of_lt HR.out.lt)))
  clear hb
  cases hn : readL x.data.toList with
  | none =>
    have HN := Lib.hid hn
    have HC := Lib.hid (show countB x = false by rw [countB, hn])
    have c1 := HR2.out.off
    have hf := HR2.out.fz 1
    clear hn
    simp only [Option.getD_none, Option.isSome_none]
    go_wp2
    go_ret
    exact ⟨by rw [HX.out, HN.out]; rfl, by rw [HX.out, HC.out, Bool.not_false, Bool.or_true]; exact HR2.out.mark true, HA2.out.trans (Adv.set _ _ _ _)⟩
  | some n =>
    have HN := Lib.hid hn
    simp only [Option.getD_some, Option.isSome_some]
    by_cases h0 : n < 0
    · have HC := Lib.hid (show countB x = false by rw [countB, hn]; exact decide_eq_false (by omega))
      have c1 := HR2.out.off
      have hf := HR2.out.fz 1
      clear hn
      go_wp2
      go_ret
      exact ⟨by rw [HX.out, HN.out]; rfl, by rw [HX.out, HC.out, Bool.not_false, Bool.or_true]; exact HR2.out.mark true, HA2.out.trans (Adv.set _ _ _ _)⟩
    · have HC := Lib.hid (show countB x = true by rw [countB, hn]; exact decide_eq_true (by omega))
      clear hn
      go_wp2
      go_ret
      exact ⟨by rw [HX.out, HN.out]; rfl, by rw [HX.out, HC.out, Bool.not_true, Bool.or_false]; exact HR2.out, HA2.out⟩
theorem isDone_any {B R : Nat} {ws : List ByteArray} {f : Bool} {w : World} (h : Rdr B R ws f w) (hl : ws.length ≤ 1048576) :
    Calls Tryd.prog 41 #[.pointer (some ⟨R, 0, none⟩)] w fun e w' => e = .returned (.bool (!f && ws.isEmpty)) ∧ w' = w := by
  obtain ⟨b, off, c, h1, -⟩ := h.lies
  have c1 := h.off
  clear h
  cases ws with
  | nil =>
    replace h1 : w.cell? ⟨R, 0, none⟩ = some (.slice (some ⟨b, off, none⟩) 0 c) := h1
    cases f
    all_goals
      go_enter Tryd.func41, Tryd.ntmps41
      go_wp2
      go_ret
      exact ⟨rfl, rfl⟩
  | cons x r =>
    replace h1 : w.cell? ⟨R, 0, none⟩ = some (.slice (some ⟨b, off, none⟩) (r.length + 1) c) := h1
    have hl' : r.length + 1 ≤ 1048576 := hl
    have hb : (((r.length : Int) + 1) == 0) = false := by rw [beq_eq_false_iff_ne]; omega
    clear hl
    cases f
    all_goals
      go_enter Tryd.func41, Tryd.ntmps41
      go_wp2
      go_ret
      exact ⟨rfl, rfl⟩
end Go.Proofs.YtiijagmakkgnnaaDoor
namespace Go.Proofs.YtiijagmakkgnnaaDoor
open Go.ChangeShapes Go.WideShapes Go.ChangeAt Go.RowKit

theorem told_1 (n : Int) (who mill to : ByteArray) (w : World) :
    Calls Tryd.prog 38 #[.agg #[.int .i64 1, .string who, .string mill, .string to, .int .i64 n]] w fun e w' => e = .returned (.tuple #[.string ⟨#[111, 112, 101, 110]⟩, .iface 66 (.agg #[.string mill, .int .i64 n])]) ∧ Below w.heap.size w w' := by
  have HB := Lib.hid (below_new w (.cells #[.int .i64 1, .string who, .string mill, .string to, .int .i64 n] 26))
  go_enter Tryd.func38, Tryd.ntmps38
  go_wp2
  go_quiet (fail)
  go_wp2
  go_ret2
  exact ⟨rfl, below_draws HB.out _⟩
theorem told_2 (n : Int) (who mill to : ByteArray) (w : World) :
    Calls Tryd.prog 38 #[.agg #[.int .i64 2, .string who, .string mill, .string to, .int .i64 n]] w fun e w' => e = .returned (.tuple #[.string ⟨#[106, 111, 105, 110]⟩, .iface 62 (.agg #[.string who])]) ∧ Below w.heap.size w w' := by
  have HB := Lib.hid (below_new w (.cells #[.int .i64 2, .string who, .string mill, .string to, .int .i64 n] 26))
  go_enter Tryd.func38, Tryd.ntmps38
  go_wp2
  go_quiet (fail)
  go_wp2
  go_ret2
  exact ⟨rfl, below_draws HB.out _⟩
theorem told_3 (n : Int) (who mill to : ByteArray) (w : World) :
    Calls Tryd.prog 38 #[.agg #[.int .i64 3, .string who, .string mill, .string to, .int .i64 n]] w fun e w' => e = .returned (.tuple #[.string ⟨#[99, 117, 116]⟩, .iface 66 (.agg #[.string mill, .int .i64 n])]) ∧ Below w.heap.size w w' := by
  have HB := Lib.hid (below_new w (.cells #[.int .i64 3, .string who, .string mill, .string to, .int .i64 n] 26))
  go_enter Tryd.func38, Tryd.ntmps38
  go_wp2
  go_quiet (fail)
  go_wp2
  go_ret2
  exact ⟨rfl, below_draws HB.out _⟩
theorem told_4 (n : Int) (who mill to : ByteArray) (w : World) :
    Calls Tryd.prog 38 #[.agg #[.int .i64 4, .string who, .string mill, .string to, .int .i64 n]] w fun e w' => e = .returned (.tuple #[.string ⟨#[108, 101, 110, 100]⟩, .iface 69 (.agg #[.string who, .string mill, .int .i64 n])]) ∧ Below w.heap.size w w' := by
  have HB := Lib.hid (below_new w (.cells #[.int .i64 4, .string who, .string mill, .string to, .int .i64 n] 26))
  go_enter Tryd.func38, Tryd.ntmps38
  go_wp2
  go_quiet (fail)
  go_wp2
  go_ret2
  exact ⟨rfl, below_draws HB.out _⟩
theorem told_5 (n : Int) (who mill to : ByteArray) (w : World) :
    Calls Tryd.prog 38 #[.agg #[.int .i64 5, .string who, .string mill, .string to, .int .i64 n]] w fun e w' => e = .returned (.tuple #[.string ⟨#[108, 111, 111, 115, 101, 110]⟩, .iface 69 (.agg #[.string who, .string mill, .int .i64 n])]) ∧ Below w.heap.size w w' := by
  have HB := Lib.hid (below_new w (.cells #[.int .i64 5, .string who, .string mill, .string to, .int .i64 n] 26))
  go_enter Tryd.func38, Tryd.ntmps38
  go_wp2
  go_quiet (fail)
  go_wp2
  go_ret2
  exact ⟨rfl, below_draws HB.out _⟩
theorem told_6 (n : Int) (who mill to : ByteArray) (w : World) :
    Calls Tryd.prog 38 #[.agg #[.int .i64 6, .string who, .string mill, .string to, .int .i64 n]] w fun e w' => e = .returned (.tuple #[.string ⟨#[115, 104, 105, 102, 116]⟩, .iface 71 (.agg #[.string who, .string mill, .string to, .int .i64 n])]) ∧ Below w.heap.size w w' := by
  have HB := Lib.hid (below_new w (.cells #[.int .i64 6, .string who, .string mill, .string to, .int .i64 n] 26))
  go_enter Tryd.func38, Tryd.ntmps38
  go_wp2
  go_quiet (fail)
  go_wp2
  go_ret2
  exact ⟨rfl, below_draws HB.out _⟩
theorem told_7 (n : Int) (who mill to : ByteArray) (w : World) :
    Calls Tryd.prog 38 #[.agg #[.int .i64 7, .string who, .string mill, .string to, .int .i64 n]] w fun e w' => e = .returned (.tuple #[.string ⟨#[102, 105, 110, 101]⟩, .iface 66 (.agg #[.string mill, .int .i64 n])]) ∧ Below w.heap.size w w' := by
  have HB := Lib.hid (below_new w (.cells #[.int .i64 7, .string who, .string mill, .string to, .int .i64 n] 26))
  go_enter Tryd.func38, Tryd.ntmps38
  go_wp2
  go_quiet (fail)
  go_wp2
  go_ret2
  exact ⟨rfl, below_draws HB.out _⟩
theorem told_8 (n : Int) (who mill to : ByteArray) (w : World) :
    Calls Tryd.prog 38 #[.agg #[.int .i64 8, .string who, .string mill, .string to, .int .i64 n]] w fun e w' => e = .returned (.tuple #[.string ⟨#[109, 101, 110, 100]⟩, .iface 64 (.agg #[.string mill])]) ∧ Below w.heap.size w w' := by
  have HB := Lib.hid (below_new w (.cells #[.int .i64 8, .string who, .string mill, .string to, .int .i64 n] 26))
  go_enter Tryd.func38, Tryd.ntmps38
  go_wp2
  go_quiet (fail)
  go_wp2
  go_ret2
  exact ⟨rfl, below_draws HB.out _⟩
theorem told_9 (n : Int) (who mill to : ByteArray) (w : World) :
    Calls Tryd.prog 38 #[.agg #[.int .i64 9, .string who, .string mill, .string to, .int .i64 n]] w fun e w' => e = .returned (.tuple #[.string ⟨#[101, 97, 114, 110]⟩, .iface 66 (.agg #[.string mill, .int .i64 n])]) ∧ Below w.heap.size w w' := by
  have HB := Lib.hid (below_new w (.cells #[.int .i64 9, .string who, .string mill, .string to, .int .i64 n] 26))
  go_enter Tryd.func38, Tryd.ntmps38
  go_wp2
  go_quiet (fail)
  go_wp2
  go_ret2
  exact ⟨rfl, below_draws HB.out _⟩
theorem told_10 (n : Int) (who mill to : ByteArray) (w : World) :
    Calls Tryd.prog 38 #[.agg #[.int .i64 10, .string who, .string mill, .string to, .int .i64 n]] w fun e w' => e = .returned (.tuple #[.string ⟨#[103, 105, 118, 101]⟩, .iface 73 (.agg #[.string who, .string to, .int .i64 n])]) ∧ Below w.heap.size w w' := by
  have HB := Lib.hid (below_new w (.cells #[.int .i64 10, .string who, .string mill, .string to, .int .i64 n] 26))
  go_enter Tryd.func38, Tryd.ntmps38
  go_wp2
  go_quiet (fail)
  go_wp2
  go_ret2
  exact ⟨rfl, below_draws HB.out _⟩
theorem told_11 (n : Int) (who mill to : ByteArray) (w : World) :
    Calls Tryd.prog 38 #[.agg #[.int .i64 11, .string who, .string mill, .string to, .int .i64 n]] w fun e w' => e = .returned (.tuple #[.string ⟨#[115, 101, 97, 115, 111, 110]⟩, .iface 60 (.agg #[])]) ∧ Below w.heap.size w w' := by
  have HB := Lib.hid (below_new w (.cells #[.int .i64 11, .string who, .string mill, .string to, .int .i64 n] 26))
  go_enter Tryd.func38, Tryd.ntmps38
  go_wp2
  go_ret2
  exact ⟨rfl, HB.out⟩
theorem told_no {k : Int} (h : k < 1 ∨ 11 < k) (n : Int) (who mill to : ByteArray) (w : World) :
    Calls Tryd.prog 38 #[.agg #[.int .i64 k, .string who, .string mill, .string to, .int .i64 n]] w fun e w' => e = .returned (.tuple #[.string ⟨#[]⟩, .nilIface]) ∧ Below w.heap.size w w' := by
  have HB := Lib.hid (below_new w (.cells #[.int .i64 k, .string who, .string mill, .string to, .int .i64 n] 26))
  have h1 : (k == 1) = false := by rw [beq_eq_false_iff_ne]; omega
  have h2 : (k == 2) = false := by rw [beq_eq_false_iff_ne]; omega
  have h3 : (k == 3) = false := by rw [beq_eq_false_iff_ne]; omega
  have h4 : (k == 4) = false := by rw [beq_eq_false_iff_ne]; omega
  have h5 : (k == 5) = false := by rw [beq_eq_false_iff_ne]; omega
  have h6 : (k == 6) = false := by rw [beq_eq_false_iff_ne]; omega
  have h7 : (k == 7) = false := by rw [beq_eq_false_iff_ne]; omega
  have h8 : (k == 8) = false := by rw [beq_eq_false_iff_ne]; omega
  have h9 : (k == 9) = false := by rw [beq_eq_false_iff_ne]; omega
  have h10 : (k == 10) = false := by rw [beq_eq_false_iff_ne]; omega
  have h11 : (k == 11) = false := by rw [beq_eq_false_iff_ne]; omega
  clear h
  go_enter Tryd.func38, Tryd.ntmps38
  go_wp2
  go_ret2
  exact ⟨rfl, HB.out⟩
theorem as_bare_bare (v : Value) (w : World) : (Instr.typeAssert (.iface 60 v) 20 60 true).run Tryd.prog w = .ok (.tuple #[v, .bool true]) w := by kernel_rfl
theorem as_bare_ofWho (v : Value) (w : World) : (Instr.typeAssert (.iface 60 v) 20 62 true).run Tryd.prog w = .ok (.tuple #[.agg #[.string ByteArray.empty], .bool false]) w := by kernel_rfl
theorem as_bare_ofMill (v : Value) (w : World) : (Instr.typeAssert (.iface 60 v) 20 64 true).run Tryd.prog w = .ok (.tuple #[.agg #[.string ByteArray.empty], .bool false]) w := by kernel_rfl
theorem as_bare_millN (v : Value) (w : World) : (Instr.typeAssert (.iface 60 v) 20 66 true).run Tryd.prog w = .ok (.tuple #[.agg #[.string ByteArray.empty, .int .i64 0], .bool false]) w := by kernel_rfl
theorem as_bare_whoMillN (v : Value) (w : World) : (Instr.typeAssert (.iface 60 v) 20 69 true).run Tryd.prog w = .ok (.tuple #[.agg #[.string ByteArray.empty, .string ByteArray.empty, .int .i64 0], .bool false]) w := by kernel_rfl
theorem as_bare_whoMillToN (v : Value) (w : World) : (Instr.typeAssert (.iface 60 v) 20 71 true).run Tryd.prog w = .ok (.tuple #[.agg #[.string ByteArray.empty, .string ByteArray.empty, .string ByteArray.empty, .int .i64 0], .bool false]) w := by kernel_rfl
theorem as_bare_whoToN (v : Value) (w : World) : (Instr.typeAssert (.iface 60 v) 20 73 true).run Tryd.prog w = .ok (.tuple #[.agg #[.string ByteArray.empty, .string ByteArray.empty, .int .i64 0], .bool false]) w := by kernel_rfl
theorem as_ofWho_bare (v : Value) (w : World) : (Instr.typeAssert (.iface 62 v) 20 60 true).run Tryd.prog w = .ok (.tuple #[.agg #[], .bool false]) w := by kernel_rfl
theorem as_ofWho_ofWho (v : Value) (w : World) : (Instr.typeAssert (.iface 62 v) 20 62 true).run Tryd.prog w = .ok (.tuple #[v, .bool true]) w := by kernel_rfl
theorem as_ofWho_ofMill (v : Value) (w : World) : (Instr.typeAssert (.iface 62 v) 20 64 true).run Tryd.prog w = .ok (.tuple #[.agg #[.string ByteArray.empty], .bool false]) w := by kernel_rfl
theorem as_ofWho_millN (v : Value) (w : World) : (Instr.typeAssert (.iface 62 v) 20 66 true).run Tryd.prog w = .ok (.tuple #[.agg #[.string ByteArray.empty, .int .i64 0], .bool false]) w := by kernel_rfl
theorem as_ofWho_whoMillN (v : Value) (w : World) : (Instr.typeAssert (.iface 62 v) 20 69 true).run Tryd.prog w = .ok (.tuple #[.agg #[.string ByteArray.empty, .string ByteArray.empty, .int .i64 0], .bool false]) w := by kernel_rfl
theorem as_ofWho_whoMillToN (v : Value) (w : World) : (Instr.typeAssert (.iface 62 v) 20 71 true).run Tryd.prog w = .ok (.tuple #[.agg #[.string ByteArray.empty, .string ByteArray.empty, .string ByteArray.empty, .int .i64 0], .bool false]) w := by kernel_rfl
theorem as_ofWho_whoToN (v : Value) (w : World) : (Instr.typeAssert (.iface 62 v) 20 73 true).run Tryd.prog w = .ok (.tuple #[.agg #[.string ByteArray.empty, .string ByteArray.empty, .int .i64 0], .bool false]) w := by kernel_rfl
theorem as_ofMill_bare (v : Value) (w : World) : (Instr.typeAssert (.iface 64 v) 20 60 true).run Tryd.prog w = .ok (.tuple #[.agg #[], .bool false]) w := by kernel_rfl
theorem as_ofMill_ofWho (v : Value) (w : World) : (Instr.typeAssert (.iface 64 v) 20 62 true).run Tryd.prog w = .ok (.tuple #[.agg #[.string ByteArray.empty], .bool false]) w := by kernel_rfl
theorem as_ofMill_ofMill (v : Value) (w : World) : (Instr.typeAssert (.iface 64 v) 20 64 true).run Tryd.prog w = .ok (.tuple #[v, .bool true]) w := by kernel_rfl
theorem as_ofMill_millN (v : Value) (w : World) : (Instr.typeAssert (.iface 64 v) 20 66 true).run Tryd.prog w = .ok (.tuple #[.agg #[.string ByteArray.empty, .int .i64 0], .bool false]) w := by kernel_rfl
theorem as_ofMill_whoMillN (v : Value) (w : World) : (Instr.typeAssert (.iface 64 v) 20 69 true).run Tryd.prog w = .ok (.tuple #[.agg #[.string ByteArray.empty, .string ByteArray.empty, .int .i64 0], .bool false]) w := by kernel_rfl
theorem as_ofMill_whoMillToN (v : Value) (w : World) : (Instr.typeAssert (.iface 64 v) 20 71 true).run Tryd.prog w = .ok (.tuple #[.agg #[.string ByteArray.empty, .string ByteArray.empty, .string ByteArray.empty, .int .i64 0], .bool false]) w := by kernel_rfl
theorem as_ofMill_whoToN (v : Value) (w : World) : (Instr.typeAssert (.iface 64 v) 20 73 true).run Tryd.prog w = .ok (.tuple #[.agg #[.string ByteArray.empty, .string ByteArray.empty, .int .i64 0], .bool false]) w := by kernel_rfl
theorem as_millN_bare (v : Value) (w : World) : (Instr.typeAssert (.iface 66 v) 20 60 true).run Tryd.prog w = .ok (.tuple #[.agg #[], .bool false]) w := by kernel_rfl
theorem as_millN_ofWho (v : Value) (w : World) : (Instr.typeAssert (.iface 66 v) 20 62 true).run Tryd.prog w = .ok (.tuple #[.agg #[.string ByteArray.empty], .bool false]) w := by kernel_rfl
theorem as_millN_ofMill (v : Value) (w : World) : (Instr.typeAssert (.iface 66 v) 20 64 true).run Tryd.prog w = .ok (.tuple #[.agg #[.string ByteArray.empty], .bool false]) w := by kernel_rfl
theorem as_millN_millN (v : Value) (w : World) : (Instr.typeAssert (.iface 66 v) 20 66 true).run Tryd.prog w = .ok (.tuple #[v, .bool true]) w := by kernel_rfl
theorem as_millN_whoMillN (v : Value) (w : World) : (Instr.typeAssert (.iface 66 v) 20 69 true).run Tryd.prog w = .ok (.tuple #[.agg #[.string ByteArray.empty, .string ByteArray.empty, .int .i64 0], .bool false]) w := by kernel_rfl
theorem as_millN_whoMillToN (v : Value) (w : World) : (Instr.typeAssert (.iface 66 v) 20 71 true).run Tryd.prog w = .ok (.tuple #[.agg #[.string ByteArray.empty, .string ByteArray.empty, .string ByteArray.empty, .int .i64 0], .bool false]) w := by kernel_rfl
theorem as_millN_whoToN (v : Value) (w : World) : (Instr.typeAssert (.iface 66 v) 20 73 true).run Tryd.prog w = .ok (.tuple #[.agg #[.string ByteArray.empty, .string ByteArray.empty, .int .i64 0], .bool false]) w := by kernel_rfl
theorem as_whoMillN_bare (v : Value) (w : World) : (Instr.typeAssert (.iface 69 v) 20 60 true).run Tryd.prog w = .ok (.tuple #[.agg #[], .bool false]) w := by kernel_rfl
theorem as_whoMillN_ofWho (v : Value) (w : World) : (Instr.typeAssert (.iface 69 v) 20 62 true).run Tryd.prog w = .ok (.tuple #[.agg #[.string ByteArray.empty], .bool false]) w := by kernel_rfl
theorem as_whoMillN_ofMill (v : Value) (w : World) : (Instr.typeAssert (.iface 69 v) 20 64 true).run Tryd.prog w = .ok (.tuple #[.agg #[.string ByteArray.empty], .bool false]) w := by kernel_rfl
theorem as_whoMillN_millN (v : Value) (w : World) : (Instr.typeAssert (.iface 69 v) 20 66 true).run Tryd.prog w = .ok (.tuple #[.agg #[.string ByteArray.empty, .int .i64 0], .bool false]) w := by kernel_rfl
theorem as_whoMillN_whoMillN (v : Value) (w : World) : (Instr.typeAssert (.iface 69 v) 20 69 true).run Tryd.prog w = .ok (.tuple #[v, .bool true]) w := by kernel_rfl
theorem as_whoMillN_whoMillToN (v : Value) (w : World) : (Instr.typeAssert (.iface 69 v) 20 71 true).run Tryd.prog w = .ok (.tuple #[.agg #[.string ByteArray.empty, .string ByteArray.empty, .string ByteArray.empty, .int .i64 0], .bool false]) w := by kernel_rfl
theorem as_whoMillN_whoToN (v : Value) (w : World) : (Instr.typeAssert (.iface 69 v) 20 73 true).run Tryd.prog w = .ok (.tuple #[.agg #[.string ByteArray.empty, .string ByteArray.empty, .int .i64 0], .bool false]) w := by kernel_rfl
theorem as_whoMillToN_bare (v : Value) (w : World) : (Instr.typeAssert (.iface 71 v) 20 60 true).run Tryd.prog w = .ok (.tuple #[.agg #[], .bool false]) w := by kernel_rfl
theorem as_whoMillToN_ofWho (v : Value) (w : World) : (Instr.typeAssert (.iface 71 v) 20 62 true).run Tryd.prog w = .ok (.tuple #[.agg #[.string ByteArray.empty], .bool false]) w := by kernel_rfl
theorem as_whoMillToN_ofMill (v : Value) (w : World) : (Instr.typeAssert (.iface 71 v) 20 64 true).run Tryd.prog w = .ok (.tuple #[.agg #[.string ByteArray.empty], .bool false]) w := by kernel_rfl
theorem as_whoMillToN_millN (v : Value) (w : World) : (Instr.typeAssert (.iface 71 v) 20 66 true).run Tryd.prog w = .ok (.tuple #[.agg #[.string ByteArray.empty, .int .i64 0], .bool false]) w := by kernel_rfl
theorem as_whoMillToN_whoMillN (v : Value) (w : World) : (Instr.typeAssert (.iface 71 v) 20 69 true).run Tryd.prog w = .ok (.tuple #[.agg #[.string ByteArray.empty, .string ByteArray.empty, .int .i64 0], .bool false]) w := by kernel_rfl
theorem as_whoMillToN_whoMillToN (v : Value) (w : World) : (Instr.typeAssert (.iface 71 v) 20 71 true).run Tryd.prog w = .ok (.tuple #[v, .bool true]) w := by kernel_rfl
theorem as_whoMillToN_whoToN (v : Value) (w : World) : (Instr.typeAssert (.iface 71 v) 20 73 true).run Tryd.prog w = .ok (.tuple #[.agg #[.string ByteArray.empty, .string ByteArray.empty, .int .i64 0], .bool false]) w := by kernel_rfl
theorem as_whoToN_bare (v : Value) (w : World) : (Instr.typeAssert (.iface 73 v) 20 60 true).run Tryd.prog w = .ok (.tuple #[.agg #[], .bool false]) w := by kernel_rfl
theorem as_whoToN_ofWho (v : Value) (w : World) : (Instr.typeAssert (.iface 73 v) 20 62 true).run Tryd.prog w = .ok (.tuple #[.agg #[.string ByteArray.empty], .bool false]) w := by kernel_rfl
theorem as_whoToN_ofMill (v : Value) (w : World) : (Instr.typeAssert (.iface 73 v) 20 64 true).run Tryd.prog w = .ok (.tuple #[.agg #[.string ByteArray.empty], .bool false]) w := by kernel_rfl
theorem as_whoToN_millN (v : Value) (w : World) : (Instr.typeAssert (.iface 73 v) 20 66 true).run Tryd.prog w = .ok (.tuple #[.agg #[.string ByteArray.empty, .int .i64 0], .bool false]) w := by kernel_rfl
theorem as_whoToN_whoMillN (v : Value) (w : World) : (Instr.typeAssert (.iface 73 v) 20 69 true).run Tryd.prog w = .ok (.tuple #[.agg #[.string ByteArray.empty, .string ByteArray.empty, .int .i64 0], .bool false]) w := by kernel_rfl
theorem as_whoToN_whoMillToN (v : Value) (w : World) : (Instr.typeAssert (.iface 73 v) 20 71 true).run Tryd.prog w = .ok (.tuple #[.agg #[.string ByteArray.empty, .string ByteArray.empty, .string ByteArray.empty, .int .i64 0], .bool false]) w := by kernel_rfl
theorem as_whoToN_whoToN (v : Value) (w : World) : (Instr.typeAssert (.iface 73 v) 20 73 true).run Tryd.prog w = .ok (.tuple #[v, .bool true]) w := by kernel_rfl
theorem as_nil_bare (w : World) : (Instr.typeAssert .nilIface 20 60 true).run Tryd.prog w = .ok (.tuple #[.agg #[], .bool false]) w := by kernel_rfl
theorem as_nil_ofWho (w : World) : (Instr.typeAssert .nilIface 20 62 true).run Tryd.prog w = .ok (.tuple #[.agg #[.string ByteArray.empty], .bool false]) w := by kernel_rfl
theorem as_nil_ofMill (w : World) : (Instr.typeAssert .nilIface 20 64 true).run Tryd.prog w = .ok (.tuple #[.agg #[.string ByteArray.empty], .bool false]) w := by kernel_rfl
theorem as_nil_millN (w : World) : (Instr.typeAssert .nilIface 20 66 true).run Tryd.prog w = .ok (.tuple #[.agg #[.string ByteArray.empty, .int .i64 0], .bool false]) w := by kernel_rfl
theorem as_nil_whoMillN (w : World) : (Instr.typeAssert .nilIface 20 69 true).run Tryd.prog w = .ok (.tuple #[.agg #[.string ByteArray.empty, .string ByteArray.empty, .int .i64 0], .bool false]) w := by kernel_rfl
theorem as_nil_whoMillToN (w : World) : (Instr.typeAssert .nilIface 20 71 true).run Tryd.prog w = .ok (.tuple #[.agg #[.string ByteArray.empty, .string ByteArray.empty, .string ByteArray.empty, .int .i64 0], .bool false]) w := by kernel_rfl
theorem as_nil_whoToN (w : World) : (Instr.typeAssert .nilIface 20 73 true).run Tryd.prog w = .ok (.tuple #[.agg #[.string ByteArray.empty, .string ByteArray.empty, .int .i64 0], .bool false]) w := by kernel_rfl
end Go.Proofs.YtiijagmakkgnnaaDoor
namespace Go.Proofs.YtiijagmakkgnnaaDoor
open Go.ChangeShapes Go.WideShapes Go.ChangeAt Go.RowKit

def ToldW (j : Nat) (w : World) (e : Ending) (w' : World) : Prop := ∃ S, e = .returned (.tuple #[.string (sat wordsS j), S]) ∧ Below w.heap.size w w'
theorem told_word {j : Nat} (hj : j < 11) (n : Int) (who mill to : ByteArray) (w : World) :
    Calls Tryd.prog 38 #[.agg #[.int .i64 ((j : Int) + 1), .string who, .string mill, .string to, .int .i64 n]] w (ToldW j w) := by
  match j, hj with
  | 0, _ => exact (told_1 n who mill to w).mono fun e w' h => ⟨_, h.1, h.2⟩
  | 1, _ => exact (told_2 n who mill to w).mono fun e w' h => ⟨_, h.1, h.2⟩
  | 2, _ => exact (told_3 n who mill to w).mono fun e w' h => ⟨_, h.1, h.2⟩
  | 3, _ => exact (told_4 n who mill to w).mono fun e w' h => ⟨_, h.1, h.2⟩
  | 4, _ => exact (told_5 n who mill to w).mono fun e w' h => ⟨_, h.1, h.2⟩
  | 5, _ => exact (told_6 n who mill to w).mono fun e w' h => ⟨_, h.1, h.2⟩
  | 6, _ => exact (told_7 n who mill to w).mono fun e w' h => ⟨_, h.1, h.2⟩
  | 7, _ => exact (told_8 n who mill to w).mono fun e w' h => ⟨_, h.1, h.2⟩
  | 8, _ => exact (told_9 n who mill to w).mono fun e w' h => ⟨_, h.1, h.2⟩
  | 9, _ => exact (told_10 n who mill to w).mono fun e w' h => ⟨_, h.1, h.2⟩
  | 10, _ => exact (told_11 n who mill to w).mono fun e w' h => ⟨_, h.1, h.2⟩
def KindRel (s : ByteArray) (w : World) (i : Value) (wr : World) : Prop := ∃ k : Nat, k ≤ 11 ∧ i = .int .i64 ((k : Int) + 1) ∧ Out wordsS s k ∧ Below w.heap.size w wr
set_option maxHeartbeats 1000000 in
set_option maxRecDepth 100000 in
theorem kindOf_any (s : ByteArray) (w : World) :
    Calls Tryd.prog 36 #[.string s] w fun e w' => e = .returned (.int .i64 (placeV wordsS s + 1)) ∧ Below w.heap.size w w' := by
  go_enter Tryd.func36, Tryd.ntmps36
  go_wp2
  go_loopw [3] (fun i wr => KindRel s w i wr) (fun i _ => 13 - (intOf i).toNat)
  case atStart => exact ⟨0, Nat.zero_le _, rfl, Out.zero wordsS s, Below.refl _ _⟩
  case round =>
    obtain ⟨k, hk, rfl, hu, hb⟩ := hrel
    have HU := Lib.hid hu
    have HB := Lib.hid hb
    clear hu hb
    by_cases hlt : k < 11
    · go_wp2_with fail
      refine (told_word hlt _ _ _ _ _).mono ?_
      rintro e w1 ⟨S, rfl, hb1⟩
      have HB1 := Lib.hid (below_trans HB.out hb1)
      clear hb1
      cases hq : (s.toList == (sat wordsS k).toList)
      · have HN := Lib.hid (HU.out.succ (beq_turn hq))
        go_wp2
        go_roundw
        case rel => exact ⟨k + 1, by omega, by go_num, HN.out, HB1.out⟩
        case measure => simp [intOf]; omega
      · have HN := Lib.hid (place_in hlt HU.out (beq_turn hq))
        go_wp2
        go_ret
        exact ⟨by rw [HN.out]; rfl, HB1.out⟩
    · obtain rfl : k = 11 := by omega
      have HN := Lib.hid (show placeV wordsS s = -1 from place_out HU.out)
      go_wp2
      go_ret
      exact ⟨by rw [HN.out]; rfl, HB.out⟩
end Go.Proofs.YtiijagmakkgnnaaDoor
namespace Go.Proofs.YtiijagmakkgnnaaDoor
open Go.ChangeShapes Go.WideShapes Go.ChangeAt Go.RowKit

def textOf : Value → ByteArray
  | .string s => s
  | _ => ByteArray.empty
def emptyN (s : ByteArray) : Nat := if s.size = 0 then 1 else 0
theorem emptyN_yes {s : ByteArray} (h : s.size = 0) : emptyN s = 1 := if_pos h
theorem emptyN_no {s : ByteArray} (h : s.size ≠ 0) : emptyN s = 0 := if_neg h
theorem cons_size (c : UInt8) (t : ByteArray) : (⟨#[c]⟩ ++ t : ByteArray).size ≠ 0 := by rw [ByteArray.size_append]; show 1 + t.size ≠ 0; omega
/-- What l1Int has behind it: m is left, t is there. -/
def IntInv (n m : Int) (t : ByteArray) : Prop := (t.size = 0 ∧ m = n) ∨ (t.size ≠ 0 ∧ digL m.natAbs ++ t.data.toList = Lib.decDigits n.natAbs)
theorem IntInv.len {n m : Int} {t : ByteArray} (h : IntInv n m t) (h1 : n.natAbs ≤ 9223372036854775808) : t.size ≤ 19 := by
  rcases h with h | h
  · omega
  · have e := congrArg List.length h.2
    have := dec_len (u := n.natAbs) (k := 18) (by omega)
    rw [List.length_append] at e
    have : t.data.toList.length = t.size := rfl
    omega
theorem IntInv.step {n m : Int} {t : ByteArray} (h : IntInv n m t) (hc : t.size = 0 ∨ m ≠ 0) : IntInv n (m.tdiv 10) (⟨#[UInt8.ofNat (48 + m.natAbs % 10)]⟩ ++ t) := by
  refine .inr ⟨by rw [ByteArray.size_append]; show 1 + t.size ≠ 0; omega, ?_⟩
  have e1 : (m.tdiv 10).natAbs = m.natAbs / 10 := by rw [Int.natAbs_tdiv]; rfl
  have e2 : (⟨#[UInt8.ofNat (48 + m.natAbs % 10)]⟩ ++ t : ByteArray).data.toList = UInt8.ofNat (48 + m.natAbs % 10) :: t.data.toList := by rw [ByteArray.data_append, Array.toList_append]; rfl
  rw [e1, e2]
  have e3 : digL (m.natAbs / 10) ++ UInt8.ofNat (48 + m.natAbs % 10) :: t.data.toList = Lib.decDigits m.natAbs ++ t.data.toList := by rw [dec_digs m.natAbs]; simp
  rw [e3]
  rcases h with ⟨h0, rfl⟩ | ⟨h0, h⟩
  · have : t.data.toList = [] := List.length_eq_zero_iff.mp h0
    rw [this]; simp
  · rw [← digs_pos (by rcases hc with hc | hc <;> omega)]; exact h
theorem IntInv.done {n : Int} {t : ByteArray} (h : IntInv n 0 t) (hc : t.size ≠ 0) : t = ⟨(Lib.decDigits n.natAbs).toArray⟩ := by
  rcases h with h | h
  · exact absurd h.1 hc
  · refine WideShapes.bytes_inj ?_
    have := h.2
    rw [show digL (Int.natAbs 0) = [] from rfl, List.nil_append] at this
    rw [this]
theorem itoaB_neg {n : Int} (h : n < 0) : (⟨#[45]⟩ ++ ⟨(Lib.decDigits n.natAbs).toArray⟩ : ByteArray) = itoaB n := by
  refine WideShapes.bytes_inj ?_
  rw [ByteArray.data_append, Array.toList_append]
  simp [itoaB, Lib.itoa, h]
theorem itoaB_pos {n : Int} (h : ¬ n < 0) : (⟨(Lib.decDigits n.natAbs).toArray⟩ : ByteArray) = itoaB n := by
  have : n.natAbs = n.toNat := by omega
  rw [this, itoaB, Lib.itoa, if_neg h]

theorem run_one (w : World) (b : Nat) (c : Int) (h : w.cell? ⟨b, 0, none⟩ = some (.int .u8 c)) (h0 : 0 ≤ c) (h1 : c < 256) :
    (convert 75 9 (.slice (some ⟨b, 0, none⟩) 1 1)).run Tryd.prog w = .ok (.string ⟨#[UInt8.ofNat c.toNat]⟩) w := by
  have := run_convert_bytes_back (P := Tryd.prog) w 75 9 5 ⟨b, 0, none⟩ 1 [UInt8.ofNat c.toNat] (by kernel_rfl) (by kernel_rfl) (by kernel_rfl) (by
    intro j hj
    obtain rfl : j = 0 := by simpa using hj
    show w.cell? ⟨b, 0 + 0, none⟩ = _
    rw [Nat.add_zero, h]
    congr 2
    show c = (((UInt8.ofNat c.toNat).toNat : Nat) : Int)
    rw [UInt8.toNat_ofNat']; omega)
  exact this
theorem tmod_abs (m : Int) : (m.tmod 10).natAbs = m.natAbs % 10 := by rw [Int.natAbs_tmod]; rfl
theorem tmod_small (m : Int) : -10 < m.tmod 10 ∧ m.tmod 10 < 10 := by have := tmod_abs m; omega
theorem tdiv_abs (m : Int) : (m.tdiv 10).natAbs = m.natAbs / 10 := by rw [Int.natAbs_tdiv]; rfl
theorem wrap64_id {x : Int} (h1 : -9223372036854775808 ≤ x) (h2 : x ≤ 9223372036854775807) : wrap64 x = x := by unfold wrap64; omega
theorem digit_is {n m : Int} {t : ByteArray} {c : Int} (h : IntInv n (m.tdiv 10) (⟨#[UInt8.ofNat (48 + m.natAbs % 10)]⟩ ++ t)) (hc : c = 48 + ((m.natAbs % 10 : Nat) : Int)) :
    IntInv n (m.tdiv 10) (⟨#[UInt8.ofNat c.toNat]⟩ ++ t) := by
  have : c.toNat = 48 + m.natAbs % 10 := by omega
  rw [this]; exact h

set_option maxHeartbeats 2000000 in
set_option maxRecDepth 100000 in
theorem l1Int_any (n : Int) (h1 : -9223372036854775808 ≤ n) (h2 : n ≤ 9223372036854775807) (w : World) :
    Calls Tryd.prog 28 #[.int .i64 n] w fun e w' => e = .returned (.string (itoaB n)) ∧ Below w.heap.size w w' := by
  have HB := Lib.hid (show Below w.heap.size w w from Below.refl _ _)
  go_enter Tryd.func28, Tryd.ntmps28
  go_wp2_with fail
  go_loopw [0, 3] (fun mv tv w' => ∃ (m : Int) (t : ByteArray), mv = .int .i64 m ∧ tv = .string t ∧ m.natAbs ≤ n.natAbs ∧ IntInv n m t ∧ Below w.heap.size w w') (fun mv tv _ => (intOf mv).natAbs + emptyN (textOf tv))
  case atStart => exact ⟨n, ByteArray.empty, rfl, rfl, Nat.le_refl _, .inl ⟨rfl, rfl⟩, HB.out⟩
  case round =>
    obtain ⟨m, t, rfl, rfl, hm, hi, hb⟩ := hrel
    have HI := Lib.hid hi
    have HB' := Lib.hid hb
    have hsz := hi.len (by omega)
    have hab := tmod_abs m
    clear hi hb HB
    cases hq : (t.toList == [])
    · have hq' : t.size ≠ 0 := fun e => by rw [ByteArray.toList_eq] at hq; have : t.data.toList = [] := List.length_eq_zero_iff.mp e; rw [this] at hq; cases hq
      by_cases h0 : m = 0
      · subst h0
        have HT := Lib.hid (HI.out.done hq')
        by_cases hn : n < 0
        · have HN := Lib.hid (itoaB_neg hn)
          clear hab
          go_wp2
          go_ret
          exact ⟨by rw [← HN.out, ← HT.out]; rfl, HB'.out⟩
        · have HN := Lib.hid (itoaB_pos hn)
          clear hab
          go_wp2
          go_ret
          exact ⟨by rw [← HN.out, ← HT.out]; rfl, HB'.out⟩
      · have hlt := tmod_small m
        have hdv := tdiv_abs m
        have HW := Lib.hid (show wrap64 (m.tdiv 10) = m.tdiv 10 from wrap64_id (by omega) (by omega))
        have HS := Lib.hid (HI.out.step (.inr h0))
        go_wp2_with fail
        all_goals
          rw [run_one _ _ _ (World.cell?_alloc_mark _ _ _ _ 0) (by omega) (by omega)]
          go_wp2_with fail
          refine ⟨⟨m.tdiv 10, _, by first | rfl | rw [HW.out], rfl, by omega, ?_, below_trans HB'.out (below_new _ _)⟩, ?_⟩
          · exact digit_is HS.out (by omega)
          · try rw [HW.out]
            show (m.tdiv 10).natAbs + emptyN (⟨#[_]⟩ ++ t) < m.natAbs + emptyN t
            rw [emptyN_no (cons_size _ _), emptyN_no hq']
            omega
    · have hq' : t.size = 0 := by rw [ByteArray.toList_eq] at hq; have : t.data.toList = [] := by simpa using hq
                                  exact congrArg List.length this
      have hlt := tmod_small m
      have hdv := tdiv_abs m
      have HW := Lib.hid (show wrap64 (m.tdiv 10) = m.tdiv 10 from wrap64_id (by omega) (by omega))
      have HS := Lib.hid (HI.out.step (.inl hq'))
      go_wp2_with fail
      all_goals
        rw [run_one _ _ _ (World.cell?_alloc_mark _ _ _ _ 0) (by omega) (by omega)]
        go_wp2_with fail
        refine ⟨⟨m.tdiv 10, _, by first | rfl | rw [HW.out], rfl, by omega, ?_, below_trans HB'.out (below_new _ _)⟩, ?_⟩
        · exact digit_is HS.out (by omega)
        · try rw [HW.out]
          show (m.tdiv 10).natAbs + emptyN (⟨#[_]⟩ ++ t) < m.natAbs + emptyN t
          rw [emptyN_no (cons_size _ _), emptyN_yes hq']
          omega
end Go.Proofs.YtiijagmakkgnnaaDoor
namespace Go.Proofs.YtiijagmakkgnnaaDoor
open Go.Lib
/-! Many deeds in one text, and deeds in frames -/
def readAll : List ByteArray → List Dee → Option (List Dee)
  | [], out => some out
  | x :: r, out => match readB x with
    | none => none
    | some d => if out.length = 20 then none else readAll r (out ++ [d])
def readsB (s : ByteArray) : Option (List Dee) := if s.toList = [] then some [] else readAll (splitB1 59 s) []
theorem readAll_some : ∀ {ws : List ByteArray} {out l : List Dee}, readAll ws out = some l → ∃ ds, l = out ++ ds ∧ ds.map showB = ws ∧ ∀ d ∈ ds, deedB d = true
  | [], out, l, h => ⟨[], by rw [readAll] at h; simpa using (Option.some.inj h).symm, rfl, by simp⟩
  | x :: r, out, l, h => by
    rw [readAll] at h
    cases hx : readB x with
    | none => rw [hx] at h; cases h
    | some d =>
      rw [hx] at h
      simp only at h
      split at h
      · cases h
      obtain ⟨ds, e1, e2, e3⟩ := readAll_some h
      have hd := read_some hx
      refine ⟨d :: ds, by rw [e1]; simp, by rw [List.map_cons, e2, hd.2], fun y hy => ?_⟩
      rcases List.mem_cons.mp hy with rfl | hy
      · exact hd.1
      · exact e3 y hy
theorem readAll_len : ∀ {ws : List ByteArray} {out l : List Dee}, out.length ≤ 20 → readAll ws out = some l → l.length ≤ 20
  | [], out, l, hl, h => by rw [readAll] at h; rw [← Option.some.inj h]; exact hl
  | x :: r, out, l, hl, h => by
    rw [readAll] at h
    cases hx : readB x with
    | none => rw [hx] at h; cases h
    | some d =>
      rw [hx] at h
      simp only at h
      split at h
      · cases h
      exact readAll_len (by simp; omega) h
/-- What many deeds' text is, joined again. -/
theorem readsB_join {s : ByteArray} {l : List Dee} (h : readsB s = some l) : joinT 59 (l.map fun d => (showB d).data.toList) = s.data.toList ∧ ∀ d ∈ l, deedB d = true := by
  unfold readsB at h
  split at h
  · rename_i h0
    rw [← Option.some.inj h]
    rw [ByteArray.toList_eq] at h0
    exact ⟨h0.symm, by simp⟩
  · obtain ⟨ds, e1, e2, e3⟩ := readAll_some h
    rw [List.nil_append] at e1
    subst e1
    refine ⟨?_, e3⟩
    have := join_split 59 s
    have e : (((59 : UInt8).toNat : Nat) : Int) = 59 := rfl
    rw [e, ← e2, List.map_map] at this
    exact this
theorem readsB_fits {s : ByteArray} {l : List Dee} (h : readsB s = some l) : l.length ≤ 20 := by
  unfold readsB at h
  split at h
  · rw [← Option.some.inj h]; simp
  · exact readAll_len (by simp) h

def sumB (s : ByteArray) : Int := sumL s.data.toList
def frameB (no : Int) (d : Dee) : ByteArray := if inB 0 99999 no = true ∧ deedB d = true then ⟨(frameL no (showB d).data.toList).toArray⟩ else ByteArray.empty
def unframeB (s : ByteArray) : Option (Int × Dee) :=
  match splitB1 58 s with
  | [a, b, _] => match readL a.data.toList with
    | none => none
    | some n => match readB b with
      | none => none
      | some d => if (frameB n d).toList == s.toList then some (n, d) else none
  | _ => none
theorem frameB_list {no : Int} {d : Dee} (h : inB 0 99999 no = true) (hd : deedB d = true) : (frameB no d).data.toList = frameL no (showB d).data.toList := by
  rw [frameB, if_pos ⟨h, hd⟩]
theorem split3 {no : Int} {d : Dee} (h : inB 0 99999 no = true) (hd : deedB d = true) :
    splitB1 58 (frameB no d) = [itoaB no, showB d, itoaB (sumL (itoa no ++ 58 :: (showB d).data.toList)) ++ ⟨#[10]⟩] := by
  have := split_of (b := 58) (s := frameB no d) (x := itoaB no) (xs := [showB d, itoaB (sumL (itoa no ++ 58 :: (showB d).data.toList)) ++ ⟨#[10]⟩]) (by
    intro y hy
    simp only [List.mem_cons, List.not_mem_nil, or_false] at hy
    rcases hy with rfl | rfl | rfl
    · exact itoa_no58 _
    · exact show_no hd (by decide) (by decide) (by decide)
    · rw [ba_app, itoaB_list, List.mem_append, not_or]
      exact ⟨itoa_no58 _, by decide⟩) (by
    rw [frameB_list h hd]
    simp [joinT, frameL, itoaB_list])
  exact this
theorem unframe_frame {no : Int} {d : Dee} (h : inB 0 99999 no = true) (hd : deedB d = true) : unframeB (frameB no d) = some (no, d) := by
  have hn := inB_true h
  rw [unframeB, split3 h hd]
  simp only [itoaB_list, readL_itoa (n := no) (by omega) (by omega), read_show hd, BEq.rfl, if_true]
theorem unframe_some {s : ByteArray} {no : Int} {d : Dee} (h : unframeB s = some (no, d)) : inB 0 99999 no = true ∧ deedB d = true ∧ frameB no d = s := by
  unfold unframeB at h
  split at h
  · rename_i a b c e
    cases ha : readL a.data.toList with
    | none => rw [ha] at h; cases h
    | some n =>
      rw [ha] at h
      cases hb : readB b with
      | none => rw [hb] at h; cases h
      | some d' =>
        rw [hb] at h
        simp only at h
        split at h
        · rename_i hq
          obtain ⟨rfl, rfl⟩ := Prod.mk.inj (Option.some.inj h)
          have hs : frameB n d' = s := by
            rw [ByteArray.toList_eq, ByteArray.toList_eq] at hq
            exact ba_ext (by simpa using hq)
          by_cases hok : inB 0 99999 n = true ∧ deedB d' = true
          · exact ⟨hok.1, hok.2, hs⟩
          · rw [frameB, if_neg hok] at hs
            subst hs
            have q := congrArg List.length e
            have z : (splitB1 58 ByteArray.empty).length = 1 := rfl
            rw [z] at q
            simp at q
        · cases h
  · cases h
/-- The same, of lists of bytes. -/
def unL (p : List UInt8) : Option (Int × Dee) := unframeB ⟨p.toArray⟩
def showL (d : Dee) : List UInt8 := (showB d).data.toList
theorem shows_deeds : Shows deedB showL := fun d h => ⟨show_no h (by decide) (by decide) (by decide), show_no h (by decide) (by decide) (by decide), by have := show_len h; unfold showL; omega⟩
theorem unframes_deeds : Unframes unL deedB showL := by
  refine ⟨fun no d h0 h1 hd => ?_, fun p no d h => ?_⟩
  · have hin := inB_of h0 h1
    have := unframe_frame hin hd
    rw [unL]
    have e : (⟨(frameL no (showL d)).toArray⟩ : ByteArray) = frameB no d := by rw [frameB, if_pos ⟨hin, hd⟩]; rfl
    rw [e, this]
  · obtain ⟨h1, h2, h3⟩ := unframe_some h
    have := inB_true h1
    refine ⟨this.1, this.2, h2, ?_⟩
    have q := congrArg (fun b : ByteArray => b.data.toList) h3
    simp only at q
    rw [frameB_list h1 h2] at q
    unfold showL
    simpa using q.symm
/-- What FramesIn's loop has behind it: n bytes are left, the frame under way begins at f. -/
def framesF (file : ByteArray) (no : Int) : Nat → Nat → Nat → List Dee → List Dee × Nat
  | 0, _, f, out => (out, f)
  | n + 1, i, f, out => if byteN file i = 10 then
      match unframeB (file.extract f (i + 1)) with
      | none => (out, f)
      | some (m, d) => if m = no + out.length then framesF file no n (i + 1) (i + 1) (out ++ [d]) else (out, f)
    else framesF file no n (i + 1) f out
def framesB (file : ByteArray) (no : Int) : List Dee × Nat := if file.size ≤ 20000 then framesF file no file.size 0 0 [] else ([], 0)
theorem extract_mk (s : ByteArray) (a k : Nat) : s.extract a k = ⟨((s.data.toList.drop a).take (k - a)).toArray⟩ := ba_ext (by rw [extract_list])
theorem byteN_ten {s : ByteArray} {i : Nat} (h : i < s.size) : byteN s i = 10 ↔ s.data.toList[i]'h = 10 := by
  have h' : i < s.data.toList.length := h
  rw [byteN, List.getD_eq_getElem?_getD, List.getElem?_eq_getElem h', Option.getD_some, ← UInt8.toNat_inj]
  have : (10 : UInt8).toNat = 10 := rfl
  rw [this]; omega
/-- All that is read of a text. -/
def readsA (l : List UInt8) (no : Int) : List Dee × Nat := readsL unL l.length l no
theorem readsA_none {l : List UInt8} (h : (10 : UInt8) ∉ l) (no : Int) : readsA l no = ([], 0) := by
  unfold readsA
  cases l.length with
  | zero => rfl
  | succ k => rw [readsL, lineL_none _ h]
theorem readsA_line {l p r : List UInt8} (h : lineL l = some (p, r)) (no : Int) :
    readsA l no = match unL p with
      | none => ([], 0)
      | some (m, d) => if m = no then (d :: (readsA r (no + 1)).1, p.length + (readsA r (no + 1)).2) else ([], 0) := by
  obtain ⟨a, _, rfl, rfl⟩ := lineL_some h
  have hl : (a ++ [10] ++ r).length = (a.length + r.length) + 1 := by simp; omega
  rw [readsA, hl, readsL, h]
  simp only
  rw [reads_fuel (un := unL) r.length (a.length + r.length) r (no + 1) (Nat.le_refl _) (by omega)]
  cases hu : unL (a ++ [10]) with
  | none => rfl
  | some md => rfl
theorem framesF_reads (file : ByteArray) (no : Int) : ∀ (n i f : Nat) (out : List Dee), f ≤ i → i + n = file.size → (10 : UInt8) ∉ (file.data.toList.drop f).take (i - f) →
    framesF file no n i f out = (out ++ (readsA (file.data.toList.drop f) (no + out.length)).1, f + (readsA (file.data.toList.drop f) (no + out.length)).2) := by
  intro n
  induction n with
  | zero =>
    intro i f out hf hi hno
    have : (file.data.toList.drop f).take (i - f) = file.data.toList.drop f := List.take_of_length_le (by rw [List.length_drop, size_list]; omega)
    rw [this] at hno
    rw [framesF, readsA_none hno]; simp
  | succ n ih =>
    intro i f out hf hi hno
    have hlt : i < file.size := by omega
    have hlt' : i < file.data.toList.length := hlt
    have hsplit : file.data.toList.drop f = (file.data.toList.drop f).take (i - f) ++ file.data.toList.drop i := by
      have := (List.take_append_drop (i - f) (file.data.toList.drop f)).symm
      rw [List.drop_drop] at this
      have e : f + (i - f) = i := by omega
      rw [e] at this; exact this
    have hd : file.data.toList.drop i = file.data.toList[i] :: file.data.toList.drop (i + 1) := List.drop_eq_getElem_cons hlt'
    have hnext : (file.data.toList.drop f).take (i + 1 - f) = (file.data.toList.drop f).take (i - f) ++ [file.data.toList[i]] := by
      have : i + 1 - f = (i - f) + 1 := by omega
      rw [this, List.take_add_one, List.getElem?_drop]
      have : f + (i - f) = i := by omega
      rw [this, List.getElem?_eq_getElem hlt']; rfl
    rw [framesF]
    by_cases h10 : byteN file i = 10
    · rw [if_pos h10]
      have hc := (byteN_ten hlt).mp h10
      have hline : lineL (file.data.toList.drop f) = some ((file.data.toList.drop f).take (i - f) ++ [10], file.data.toList.drop (i + 1)) := by
        have := lineL_of ((file.data.toList.drop f).take (i - f)) (file.data.toList.drop (i + 1)) hno
        rw [← this]; congr 1
        rw [← hc, ← hd]; exact hsplit
      have hx : file.extract f (i + 1) = ⟨((file.data.toList.drop f).take (i - f) ++ [10]).toArray⟩ := by rw [extract_mk, hnext, hc]
      rw [readsA_line hline, hx]
      have hun : unframeB ⟨((file.data.toList.drop f).take (i - f) ++ [10]).toArray⟩ = unL ((file.data.toList.drop f).take (i - f) ++ [10]) := rfl
      rw [hun]
      cases hu : unL ((file.data.toList.drop f).take (i - f) ++ [10]) with
      | none => simp
      | some md =>
        obtain ⟨m, d⟩ := md
        simp only
        by_cases hm : m = no + (out.length : Int)
        · rw [if_pos hm, if_pos hm, ih (i + 1) (i + 1) (out ++ [d]) (Nat.le_refl _) (by omega) (by simp)]
          have e : no + ((out ++ [d]).length : Int) = no + (out.length : Int) + 1 := by simp; omega
          rw [e]
          have hlen : ((file.data.toList.drop f).take (i - f)).length = i - f := by rw [List.length_take, List.length_drop, size_list]; omega
          simp [hlen]; omega
        · rw [if_neg hm, if_neg hm]; simp
    · rw [if_neg h10, ih (i + 1) f out (by omega) (by omega) (by
        rw [hnext, List.mem_append, not_or]
        exact ⟨hno, by simp; exact fun q => h10 ((byteN_ten hlt).mpr q.symm)⟩)]
theorem framesB_reads {file : ByteArray} (no : Int) (h : file.size ≤ 20000) : framesB file no = readsA file.data.toList no := by
  rw [framesB, if_pos h, framesF_reads file no file.size 0 0 [] (Nat.le_refl _) (by omega) (by simp)]
  simp
theorem readsB_len (s : ByteArray) : ((readsB s).getD []).length ≤ 20 := by
  cases h : readsB s with
  | none => exact Nat.zero_le _
  | some l => exact readsB_fits h
theorem framesF_len (file : ByteArray) (no : Int) : ∀ (n i f : Nat) (out : List Dee), (framesF file no n i f out).1.length ≤ out.length + n
  | 0, _, _, _ => Nat.le_refl _
  | n + 1, i, f, out => by
    have hself : out.length ≤ out.length + (n + 1) := Nat.le_add_right _ _
    rw [framesF]
    split
    · split
      · exact hself
      · split
        · rename_i d _ _
          have := framesF_len file no n (i + 1) (i + 1) (out ++ [d])
          rw [List.length_append, List.length_singleton] at this
          refine Nat.le_trans this ?_
          omega
        · exact hself
    · exact Nat.le_trans (framesF_len file no n (i + 1) f out) (by omega)
theorem framesB_len (file : ByteArray) (no : Int) : (framesB file no).1.length ≤ 20000 := by
  unfold framesB
  split
  · have := framesF_len file no file.size 0 0 []
    rw [List.length_nil] at this; omega
  · exact Nat.zero_le _
end Go.Proofs.YtiijagmakkgnnaaDoor
namespace Go.Proofs.YtiijagmakkgnnaaDoor
open Go.ChangeShapes Go.WideShapes Go.ChangeAt Go.RowKit

/-- The bytes that came in: each of the first 'len' is there. -/
def Row (w : World) (a : Option Addr) (len : Nat) : Prop :=
  ∀ k, k < len → ∃ b off n, a = some ⟨b, off, none⟩ ∧ 0 ≤ n ∧ n ≤ 255 ∧ w.cell? ⟨b, off + k, none⟩ = some (.int .u8 n)

/-- A right cursor in block C over the slice (a, len, cap). -/
structure Cur (w : World) (C : Nat) (a : Option Addr) (len cap : Nat) : Prop where
  c0 : w.cell? ⟨C, 0, none⟩ = some (.slice a len cap)
  c1 : ∃ i : Nat, i ≤ len ∧ w.cell? ⟨C, 1, none⟩ = some (.int .i64 i)
  c2 : ∃ h : Int, w.cell? ⟨C, 2, none⟩ = some (.int .i64 h)
  fz : ∀ o, w.frozen? ⟨C, o, none⟩ = false
  row : Row w a len
  far : ∀ b off, a = some ⟨b, off, none⟩ → 0 < len → b ≠ C
  small : len ≤ 4096

/-- What a draw of a number leaves: a number of which P holds; only block C and what is new has turned; the cursor is right. -/
def Drawn (C : Nat) (a : Option Addr) (len cap : Nat) (P : Int → Prop) (w : World) (e : Ending) (w' : World) : Prop :=
  ∃ x : Int, P x ∧ e = .returned (.int .i64 x) ∧ Cur w' C a len cap ∧ w.grownBy w' (some C)

theorem grown_refl (w : World) (row : Option Nat) : w.grownBy w row := ⟨rfl, rfl, rfl, Nat.le_refl _, fun _ _ _ => rfl⟩
theorem grown_step {a b c : World} {row : Option Nat} (h : a.grownBy b row) (k : b.grownBy c row) : a.grownBy c row :=
  ⟨k.os.trans h.os, k.tape.trans h.tape, k.output.trans h.output, Nat.le_trans h.size k.size, fun i hi hne => (k.block i (Nat.lt_of_lt_of_le hi h.size) hne).trans (h.block i hi hne)⟩
theorem grown_draws {a w : World} {row : Option Nat} (h : a.grownBy w row) (n : Nat) : a.grownBy (w.drewN n) row := ⟨h.os, h.tape, h.output, h.size, h.block⟩
theorem grown_set {a w : World} {C : Nat} (h : a.grownBy w (some C)) (o : Nat) (u : Value) : a.grownBy (w.setCell ⟨C, o, none⟩ u) (some C) :=
  ⟨h.os, h.tape, h.output, by simpa [World.setCell] using h.size, fun i hi hne => (Below.heap_setCell w _ u i (by rintro rfl; exact hne rfl)).trans (h.block i hi hne)⟩
theorem grown_new {a w : World} {row : Option Nat} (h : a.grownBy w row) (o : Obj) : a.grownBy (w.alloc o) row :=
  ⟨h.os, h.tape, h.output, Nat.le_trans h.size (by simp), fun i hi hne => (Below.heap_alloc w o i (Nat.lt_of_lt_of_le hi h.size)).trans (h.block i hi hne)⟩
theorem grown_below {a w : World} {C : Nat} (h : a.grownBy w (some C)) {B : Nat} (hB : B ≤ C) (hs : B ≤ a.heap.size) : Below B a w :=
  ⟨h.os, h.tape, h.output, h.size, fun i hi => h.block i (by omega) (by intro e; injection e with e; omega)⟩
theorem below_grown {a w : World} (h : Below a.heap.size a w) (row : Option Nat) : a.grownBy w row := ⟨h.os, h.tape, h.output, h.size, fun i hi _ => h.block i hi⟩

theorem and255 (y : Int) : 0 ≤ bits .and .i64 y 255 ∧ bits .and .i64 y 255 ≤ 255 := by
  have h255 : (BitVec.ofInt 64 255).toNat = 2 ^ 8 - 1 := by decide
  have key : (BitVec.ofInt 64 y &&& BitVec.ofInt 64 255).toNat = (y % ((2 ^ 64 : Nat) : Int)).toNat % 2 ^ 8 := by
    rw [BitVec.toNat_and, BitVec.toNat_ofInt, h255, Nat.and_two_pow_sub_one_eq_mod]
  show 0 ≤ IntKind.i64.wrap ((BitVec.ofInt 64 y &&& BitVec.ofInt 64 255).toNat : Nat) ∧ IntKind.i64.wrap ((BitVec.ofInt 64 y &&& BitVec.ofInt 64 255).toNat : Nat) ≤ 255
  rw [key, IntKind.wrap_i64]
  omega

/-- A cell of another block than the one that was written. -/
theorem cell_far (w : World) (C o : Nat) (v : Value) (p : Addr) (h : p.block ≠ C) : (w.setCell ⟨C, o, none⟩ v).cell? p = w.cell? p :=
  World.cell?_setCell_other _ _ _ _ (by intro e; subst e; exact h rfl)

theorem lt_of_cell {w : World} {b o : Nat} {v : Value} (h : w.cell? ⟨b, o, none⟩ = some v) : b < w.heap.size := by
  by_cases hb : b < w.heap.size
  · exact hb
  · exfalso
    have : w.heap[b]? = none := by simp; omega
    simp [World.cell?, this] at h

theorem Row.grown {w w' : World} {a : Option Addr} {len C : Nat} (h : Row w a len) (hg : w.grownBy w' (some C)) (far : ∀ b off, a = some ⟨b, off, none⟩ → 0 < len → b ≠ C) : Row w' a len := by
  intro k hk
  obtain ⟨b, off, n, rfl, h0, h1, hc⟩ := h k hk
  exact ⟨b, off, n, rfl, h0, h1, hg.cell hc (by intro e; injection e with e; exact far b off rfl (by omega) e)⟩

theorem Row.below {w w' : World} {a : Option Addr} {len : Nat} (h : Row w a len) (hb : Below w.heap.size w w') : Row w' a len := by
  intro k hk
  obtain ⟨b, off, n, rfl, h0, h1, hc⟩ := h k hk
  exact ⟨b, off, n, rfl, h0, h1, by rw [hb.cell (lt_of_cell hc)]; exact hc⟩

/-- A right cursor stays right while blocks other than its own and its slice's are laid or turned. -/
theorem Cur.kept {w w' : World} {C : Nat} {a : Option Addr} {len cap : Nat} (h : Cur w C a len cap) (hb : Below w.heap.size w w') : Cur w' C a len cap := by
  have hC : C < w.heap.size := lt_of_cell h.c0
  obtain ⟨i, hi, h1⟩ := h.c1
  obtain ⟨q, h2⟩ := h.c2
  exact ⟨by rw [hb.cell hC]; exact h.c0, ⟨i, hi, by rw [hb.cell hC]; exact h1⟩, ⟨q, by rw [hb.cell hC]; exact h2⟩, fun o => by rw [hb.frozen hC]; exact h.fz o, h.row.below hb, h.far, h.small⟩

theorem Cur.byte {w w' : World} {C : Nat} {a : Option Addr} {len cap i : Nat} {q : Int} (h : Cur w C a len cap) (hg : w.grownBy w' (some C)) (h0 : w'.cell? ⟨C, 0, none⟩ = some (.slice a len cap))
    (hi : i ≤ len) (h1 : w'.cell? ⟨C, 1, none⟩ = some (.int .i64 i)) (h2 : w'.cell? ⟨C, 2, none⟩ = some (.int .i64 q)) (hf : ∀ o, w'.frozen? ⟨C, o, none⟩ = false) : Cur w' C a len cap :=
  ⟨h0, ⟨i, hi, h1⟩, ⟨q, h2⟩, hf, h.row.grown hg h.far, h.far, h.small⟩

theorem Drawn.mono {C : Nat} {a : Option Addr} {len cap : Nat} {P Q : Int → Prop} {w : World} (h : ∀ x, P x → Q x) : ∀ e w', Drawn C a len cap P w e w' → Drawn C a len cap Q w e w' :=
  fun _ _ ⟨x, hx, he, hc, hg⟩ => ⟨x, h x hx, he, hc, hg⟩

/-- What 'l1New' leaves: a right cursor in the block behind all that was there. -/
def NewCur (a : Option Addr) (len cap : Nat) (w : World) (e : Ending) (w' : World) : Prop :=
  e = .returned (.pointer (some ⟨w.heap.size, 0, none⟩)) ∧ Cur w' w.heap.size a len cap ∧ Below w.heap.size w w'

theorem new_cur {w : World} {a : Option Addr} {len cap : Nat} (h : Row w a len) (hs : len ≤ 4096) (q : Int) (T : TypeId) :
    Cur (w.alloc (.cells #[.slice a len cap, .int .i64 0, .int .i64 q] T)) w.heap.size a len cap :=
  ⟨by go_simp, ⟨0, by omega, by go_simp⟩, ⟨q, by go_simp⟩, fun o => by go_simp, h.below ((Below.refl _ _).alloc (Nat.le_refl _) _), fun b off e hl => by obtain ⟨b', off', n, e', _, _, hc⟩ := h 0 hl; have := lt_of_cell hc; rw [e] at e'; injection e' with e'; injection e' with e1; omega, hs⟩

/-- A cell of a block that a draw does not turn. -/
theorem kept_cell {w w' : World} {C b o : Nat} {v : Value} (hg : w.grownBy w' (some C)) (h : w.cell? ⟨b, o, none⟩ = some v) (hne : b ≠ C) : w'.cell? ⟨b, o, none⟩ = some v :=
  hg.cell h (by intro e; injection e with e; exact hne e)

/-- What came in can be drawn from. -/
structure Src (w : World) (a : Option Addr) (len : Nat) : Prop where
  row : Row w a len
  small : len ≤ 4096

theorem Src.kept {w w' : World} {a : Option Addr} {len : Nat} (h : Src w a len) (hb : Below w.heap.size w w') : Src w' a len :=
  ⟨h.row.below hb, h.small⟩

theorem below_of {w w1 w2 : World} (hb : Below w.heap.size w w1) (hg : w1.grownBy w2 (some w.heap.size)) : Below w.heap.size w w2 :=
  hb.trans (grown_below hg (Nat.le_refl _) hb.size)

end Go.Proofs.YtiijagmakkgnnaaDoor
