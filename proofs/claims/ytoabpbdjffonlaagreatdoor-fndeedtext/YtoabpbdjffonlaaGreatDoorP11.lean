/-
  Texts joined: ReadS.
-/
import Derived.Test.YtoabpbdjffonlaaGreatDoorP10
namespace Go.Proofs.YtoabpbdjffonlaaGreatDoor
open Go.ChangeShapes Go.WideShapes Go.ChangeAt Go.RowKit

def readI (neg : Bool) (l : List UInt8) (i : Nat) : Option Int :=
  if (l.drop i).length < 1 ∨ 9 < (l.drop i).length then none else if (l.drop i).all isDig = false then none
  else if (l.drop i).head? = some 48 ∧ (neg = true ∨ 1 < l.length) then none else some (if neg = true then -(valL (l.drop i) : Int) else valL (l.drop i))
theorem readL_neg {l : List UInt8} (h : (l.head? == some 45) = true) : readL l = readI true l 1 := by
  unfold readL readI
  simp only [h, if_true, List.drop_one, true_or, and_true]
theorem readL_pos {l : List UInt8} (h : (l.head? == some 45) = false) : readL l = readI false l 0 := by
  unfold readL readI
  simp only [h, Bool.false_eq_true, if_false, List.drop_zero, false_or]
theorem drop_size (s : ByteArray) (i : Nat) : (s.data.toList.drop i).length = s.size - i := by rw [List.length_drop]; rfl
theorem readI_short {neg : Bool} {s : ByteArray} {i : Nat} (h : s.size - i < 1 ∨ 9 < s.size - i) : readI neg s.data.toList i = none := by
  rw [readI, drop_size, if_pos h]
/-- The first ones up to k are digits. -/
def Digs (s : ByteArray) (i k : Nat) : Prop := ((s.data.toList.drop i).take (k - i)).all isDig = true
theorem take_at {s : ByteArray} {i k : Nat} (hi : i ≤ k) (h : k < s.size) : (s.data.toList.drop i).take (k + 1 - i) = (s.data.toList.drop i).take (k - i) ++ [s[k]] := by
  have h' : k < s.data.toList.length := h
  have : k + 1 - i = (k - i) + 1 := by omega
  rw [this, List.take_add_one, List.getElem?_drop]
  have : i + (k - i) = k := by omega
  rw [this, List.getElem?_eq_getElem h']; rfl
theorem Digs.succ {s : ByteArray} {i k : Nat} (h : Digs s i k) (hi : i ≤ k) (hk : k < s.size) (h1 : ¬ (s[k].toNat : Int) < 48) (h2 : ¬ (s[k].toNat : Int) > 57) : Digs s i (k + 1) := by
  unfold Digs
  rw [take_at hi hk, List.all_append, h, Bool.true_and, List.all_cons, List.all_nil, Bool.and_true, isDig, decide_eq_true_eq]
  omega
theorem Digs.all {s : ByteArray} {i : Nat} (h : Digs s i s.size) : (s.data.toList.drop i).all isDig = true := by
  unfold Digs at h
  rw [List.take_of_length_le (by rw [drop_size]; omega)] at h; exact h
theorem readI_bad {neg : Bool} {s : ByteArray} {i k : Nat} (hi : i ≤ k) (hk : k < s.size) (h : (s[k].toNat : Int) < 48 ∨ (s[k].toNat : Int) > 57) : readI neg s.data.toList i = none := by
  have hf : (s.data.toList.drop i).all isDig = false := by
    rw [Bool.eq_false_iff]
    intro q
    rw [List.all_eq_true] at q
    have hm : s[k] ∈ s.data.toList.drop i := by
      have h' : k < s.data.toList.length := hk
      have : s[k] = (s.data.toList.drop i)[k - i]'(by rw [drop_size]; omega) := by
        rw [List.getElem_drop]
        have e : i + (k - i) = k := by omega
        simp only [e]; rfl
      rw [this]; exact List.getElem_mem _
    have := digB_true (q _ hm)
    omega
  by_cases c : (s.data.toList.drop i).length < 1 ∨ 9 < (s.data.toList.drop i).length
  · rw [readI, if_pos c]
  · rw [readI, if_neg c, if_pos hf]
theorem valL_next {s : ByteArray} {i k : Nat} (hi : i ≤ k) (hk : k < s.size) : valL ((s.data.toList.drop i).take (k + 1 - i)) = valL ((s.data.toList.drop i).take (k - i)) * 10 + (s[k].toNat - 48) := by
  rw [take_at hi hk, valL_snoc]
theorem valL_small {s : ByteArray} {i k : Nat} (h : Digs s i k) (hk : k - i ≤ 9) : valL ((s.data.toList.drop i).take (k - i)) < 1000000000 := by
  have h1 := valL_lt _ _ rfl h
  have : ((s.data.toList.drop i).take (k - i)).length ≤ 9 := by rw [List.length_take]; omega
  have : (10 : Nat) ^ ((s.data.toList.drop i).take (k - i)).length ≤ 10 ^ 9 := Nat.pow_le_pow_right (by omega) this
  omega
theorem head_at {s : ByteArray} {i : Nat} (h : i < s.size) : (s.data.toList.drop i).head? = some s[i] := by
  have h' : i < s.data.toList.length := h
  rw [List.head?_drop, List.getElem?_eq_getElem h']; rfl
theorem is48 {c : UInt8} : some c = some 48 ↔ ((c.toNat : Int) == 48) = true := by
  rw [Option.some.injEq, ← UInt8.toNat_inj, beq_iff_eq]
  have : (48 : UInt8).toNat = 48 := rfl
  omega
theorem readI_zero {neg : Bool} {s : ByteArray} {i : Nat} (h : ¬ (s.size - i < 1 ∨ 9 < s.size - i)) (hd : Digs s i s.size) (hi : i < s.size) (h0 : ((s[i].toNat : Int) == 48) = true) (hn : neg = true ∨ 1 < s.size) :
    readI neg s.data.toList i = none := by
  rw [readI, drop_size, if_neg h, if_neg (by rw [hd.all]; simp), if_pos ⟨by rw [head_at hi]; exact is48.mpr h0, hn⟩]
theorem readI_ok {neg : Bool} {s : ByteArray} {i : Nat} (h : ¬ (s.size - i < 1 ∨ 9 < s.size - i)) (hd : Digs s i s.size) (hi : i < s.size) (h0 : ((s[i].toNat : Int) == 48) = false ∨ ¬ (neg = true ∨ 1 < s.size)) :
    readI neg s.data.toList i = some (if neg = true then -(valL ((s.data.toList.drop i).take (s.size - i)) : Int) else valL ((s.data.toList.drop i).take (s.size - i))) := by
  have e : (s.data.toList.drop i).take (s.size - i) = s.data.toList.drop i := List.take_of_length_le (by rw [drop_size]; omega)
  rw [e, readI, drop_size, if_neg h, if_neg (by rw [hd.all]; simp), if_neg]
  rintro ⟨q1, q2⟩
  rw [head_at hi, is48] at q1
  rcases h0 with h0 | h0
  · rw [q1] at h0; cases h0
  · exact h0 q2

def Read (s : ByteArray) (w : World) (e : Ending) (w' : World) : Prop :=
  e = .returned (.tuple #[.int .i64 ((readL s.data.toList).getD 0), .bool (readL s.data.toList).isSome]) ∧ w = w'
theorem Read.none {s : ByteArray} {w : World} (h : readL s.data.toList = none) : Read s w (.returned (.tuple #[.int .i64 0, .bool false])) w := by
  refine ⟨?_, rfl⟩; rw [h]; rfl
theorem Read.some {s : ByteArray} {w : World} {n : Int} (h : readL s.data.toList = some n) : Read s w (.returned (.tuple #[.int .i64 n, .bool true])) w := by
  refine ⟨?_, rfl⟩; rw [h]; rfl
theorem head_is {s : ByteArray} (h : 0 < s.size) : (s.data.toList.head? == some 45) = ((s[0].toNat : Int) == 45) := by
  have e := head_at (s := s) (i := 0) h
  rw [List.drop_zero] at e
  rw [e, Bool.eq_iff_iff, beq_iff_eq, Option.some.injEq, ← UInt8.toNat_inj, beq_iff_eq]
  have : (45 : UInt8).toNat = 45 := rfl
  omega

set_option maxHeartbeats 8000000 in
set_option maxRecDepth 100000 in
theorem l1Read_any (s : ByteArray) (w : World) (hs : s.size ≤ maxLen) : Calls Tryz.prog 32 #[.string s] w (Read s w) := by
  unfold maxLen at hs
  cases hq : (s.toList == [])
  case true =>
    have h0 : s.data.toList = [] := by rw [ByteArray.toList_eq] at hq; simpa using hq
    have HN := Lib.hid (Read.none (w := w) (show readL s.data.toList = none by rw [h0]; rfl))
    have hz : s.size = 0 := congrArg List.length h0
    go_enter Tryz.func32, Tryz.ntmps32
    go_wp2
    exact bodyPost_ret (v := .tuple #[.int .i64 0, .bool false]) (by simp [results, Tryz.results32, go_sem]) rfl HN.out
  have hz : 0 < s.size := by
    rcases Nat.eq_zero_or_pos s.size with e | e
    · have : s.data.toList = [] := List.length_eq_zero_iff.mp e
      rw [ByteArray.toList_eq, this] at hq; cases hq
    · exact e
  cases h45 : ((s[0].toNat : Int) == 45)
  case true =>
    have HL := Lib.hid ((readL_neg ((head_is hz).trans h45)))
    by_cases hsh : s.size - 1 < 1 ∨ 9 < s.size - 1
    · have HN := Lib.hid (Read.none (w := w) (HL.out.trans (readI_short hsh)))
      clear HL
      go_enter Tryz.func32, Tryz.ntmps32
      rcases hsh with hsh | hsh
      · first
          | omega
          | (go_wp2
             exact bodyPost_ret (v := .tuple #[.int .i64 0, .bool false]) (by simp [results, Tryz.results32, go_sem]) rfl HN.out)
      · go_wp2
        exact bodyPost_ret (v := .tuple #[.int .i64 0, .bool false]) (by simp [results, Tryz.results32, go_sem]) rfl HN.out
    have HSH := Lib.hid hsh
    have hb1 : 1 < s.size := by omega
    have hb2 : s.size ≤ 9 + 1 := by omega
    clear hsh
    go_enter Tryz.func32, Tryz.ntmps32
    go_wp2_with fail
    go_loop [6, 7] (fun n k => ∃ j : Nat, 1 ≤ j ∧ j ≤ s.size ∧ k = .int .i64 j ∧ n = .int .i64 (valL ((s.data.toList.drop 1).take (j - 1)) : Nat) ∧ Digs s 1 j) (fun _ k => s.size - (intOf k).toNat)
    case atStart => exact ⟨1, Nat.le_refl _, by omega, rfl, rfl, by unfold Digs; rw [Nat.sub_self]; rfl⟩
    case round =>
      obtain ⟨j, hij, hj, rfl, rfl, hd⟩ := hrel
      have hv := valL_small hd (by omega)
      have HD := Lib.hid hd
      obtain ⟨z, hzv⟩ : ∃ z, valL ((s.data.toList.drop 1).take (j - 1)) = z := ⟨_, rfl⟩
      rw [hzv] at hv ⊢
      have HZ := Lib.hid hzv
      clear hzv hd
      by_cases hlt : j < s.size
      · have hc := s[j].toNat_lt
        by_cases hc1 : (s[j].toNat : Int) < 48
        · have HN := Lib.hid (Read.none (w := w) (HL.out.trans (readI_bad hij hlt (.inl hc1))))
          clear HL
          go_wp2
          exact bodyPost_ret (v := .tuple #[.int .i64 0, .bool false]) (by simp [results, Tryz.results32, go_sem]) rfl HN.out
        by_cases hc2 : (s[j].toNat : Int) > 57
        · have HN := Lib.hid (Read.none (w := w) (HL.out.trans (readI_bad hij hlt (.inr hc2))))
          clear HL
          go_wp2
          exact bodyPost_ret (v := .tuple #[.int .i64 0, .bool false]) (by simp [results, Tryz.results32, go_sem]) rfl HN.out
        have HV := Lib.hid (valL_next hij hlt)
        have HD2 := Lib.hid (HD.out.succ hij hlt hc1 hc2)
        go_wp2
        go_round
        case rel => exact ⟨j + 1, by omega, by omega, by go_num, by rw [HV.out, HZ.out]; exact congrArg (Value.int .i64) (by omega), HD2.out⟩
        case measure => first | (simp [intOf]; done) | (simp [intOf]; omega)
      · obtain rfl : j = s.size := by omega
        cases h48 : ((s[1].toNat : Int) == 48)
        · have HN := Lib.hid (Read.some (w := w) (HL.out.trans (readI_ok HSH.out HD.out hb1 (.inl h48))))
          rw [HZ.out] at HN
          clear HL
          go_wp2
          exact bodyPost_ret (v := .tuple #[.int .i64 (-(z : Nat) : Int), .bool true]) (by simp [results, Tryz.results32, go_sem]) rfl HN.out
        · have HN := Lib.hid (Read.none (w := w) (HL.out.trans (readI_zero HSH.out HD.out hb1 h48 (.inl rfl))))
          clear HL
          go_wp2
          exact bodyPost_ret (v := .tuple #[.int .i64 0, .bool false]) (by simp [results, Tryz.results32, go_sem]) rfl HN.out
  case false =>
    have HL := Lib.hid ((readL_pos ((head_is hz).trans h45)))
    by_cases hsh : s.size - 0 < 1 ∨ 9 < s.size - 0
    · have HN := Lib.hid (Read.none (w := w) (HL.out.trans (readI_short hsh)))
      clear HL
      go_enter Tryz.func32, Tryz.ntmps32
      rcases hsh with hsh | hsh
      · first
          | omega
          | (go_wp2
             exact bodyPost_ret (v := .tuple #[.int .i64 0, .bool false]) (by simp [results, Tryz.results32, go_sem]) rfl HN.out)
      · go_wp2
        exact bodyPost_ret (v := .tuple #[.int .i64 0, .bool false]) (by simp [results, Tryz.results32, go_sem]) rfl HN.out
    have HSH := Lib.hid hsh
    have hb1 : 0 < s.size := by omega
    have hb2 : s.size ≤ 9 + 0 := by omega
    clear hsh
    go_enter Tryz.func32, Tryz.ntmps32
    go_wp2_with fail
    go_loop [6, 7] (fun n k => ∃ j : Nat, 0 ≤ j ∧ j ≤ s.size ∧ k = .int .i64 j ∧ n = .int .i64 (valL ((s.data.toList.drop 0).take (j - 0)) : Nat) ∧ Digs s 0 j) (fun _ k => s.size - (intOf k).toNat)
    case atStart => exact ⟨0, Nat.le_refl _, by omega, rfl, rfl, by unfold Digs; rw [Nat.sub_self]; rfl⟩
    case round =>
      obtain ⟨j, hij, hj, rfl, rfl, hd⟩ := hrel
      have hv := valL_small hd (by omega)
      have HD := Lib.hid hd
      obtain ⟨z, hzv⟩ : ∃ z, valL ((s.data.toList.drop 0).take (j - 0)) = z := ⟨_, rfl⟩
      rw [hzv] at hv ⊢
      have HZ := Lib.hid hzv
      clear hzv hd
      by_cases hlt : j < s.size
      · have hc := s[j].toNat_lt
        by_cases hc1 : (s[j].toNat : Int) < 48
        · have HN := Lib.hid (Read.none (w := w) (HL.out.trans (readI_bad hij hlt (.inl hc1))))
          clear HL
          go_wp2
          exact bodyPost_ret (v := .tuple #[.int .i64 0, .bool false]) (by simp [results, Tryz.results32, go_sem]) rfl HN.out
        by_cases hc2 : (s[j].toNat : Int) > 57
        · have HN := Lib.hid (Read.none (w := w) (HL.out.trans (readI_bad hij hlt (.inr hc2))))
          clear HL
          go_wp2
          exact bodyPost_ret (v := .tuple #[.int .i64 0, .bool false]) (by simp [results, Tryz.results32, go_sem]) rfl HN.out
        have HV := Lib.hid (valL_next hij hlt)
        have HD2 := Lib.hid (HD.out.succ hij hlt hc1 hc2)
        go_wp2
        go_round
        case rel => exact ⟨j + 1, by omega, by omega, by go_num, by rw [HV.out, HZ.out]; exact congrArg (Value.int .i64) (by omega), HD2.out⟩
        case measure => first | (simp [intOf]; done) | (simp [intOf]; omega)
      · obtain rfl : j = s.size := by omega
        cases h48 : ((s[0].toNat : Int) == 48)
        · have HN := Lib.hid (Read.some (w := w) (HL.out.trans (readI_ok HSH.out HD.out hb1 (.inl h48))))
          rw [HZ.out] at HN
          clear HL
          go_wp2
          exact bodyPost_ret (v := .tuple #[.int .i64 (z : Nat), .bool true]) (by simp [results, Tryz.results32, go_sem]) rfl HN.out
        · by_cases h1 : 1 < s.size
          · have HN := Lib.hid (Read.none (w := w) (HL.out.trans (readI_zero HSH.out HD.out hb1 h48 (.inr h1))))
            clear HL
            go_wp2
            exact bodyPost_ret (v := .tuple #[.int .i64 0, .bool false]) (by simp [results, Tryz.results32, go_sem]) rfl HN.out
          · have HN := Lib.hid (Read.some (w := w) (HL.out.trans (readI_ok HSH.out HD.out hb1 (.inr (by simp; omega)))))
            rw [HZ.out] at HN
            clear HL
            go_wp2
            exact bodyPost_ret (v := .tuple #[.int .i64 (z : Nat), .bool true]) (by simp [results, Tryz.results32, go_sem]) rfl HN.out
end Go.Proofs.YtoabpbdjffonlaaGreatDoor
