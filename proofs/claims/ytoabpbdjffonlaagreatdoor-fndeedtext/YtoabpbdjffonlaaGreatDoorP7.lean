/-
  Texts joined: DeedW, DeedX, PieceF.
-/
import Derived.Test.YtoabpbdjffonlaaGreatDoorP2
import Derived.Test.YtoabpbdjffonlaaGreatDoorP4
import Derived.Lib.ItoaNum
import Derived.Lib.Hide
namespace Go.Proofs.YtoabpbdjffonlaaGreatDoor
open Go.ChangeShapes Go.WideShapes Go.ChangeAt Go.RowKit

/-- Which letters a kind tells. -/
def tellsS (k : Int) : ByteArray := ([⟨#[77, 78]⟩, ⟨#[87]⟩, ⟨#[77, 78]⟩, ⟨#[87, 77, 78]⟩, ⟨#[87, 77, 78]⟩, ⟨#[87, 77, 84, 78]⟩, ⟨#[77, 78]⟩, ⟨#[77]⟩, ⟨#[77, 78]⟩, ⟨#[87, 84, 78]⟩, ByteArray.empty] : List ByteArray).getD (k - 1).toNat ByteArray.empty
theorem kinds {k : Int} (h1 : 1 ≤ k) (h2 : k ≤ 11) : k = 1 ∨ k = 2 ∨ k = 3 ∨ k = 4 ∨ k = 5 ∨ k = 6 ∨ k = 7 ∨ k = 8 ∨ k = 9 ∨ k = 10 ∨ k = 11 := by omega
set_option maxHeartbeats 4000000 in
set_option maxRecDepth 100000 in
theorem l15Tells_any (k : Int) (h1 : 1 ≤ k) (h2 : k ≤ 11) (w : World) :
    Calls Tryz.prog 31 #[.int .i64 k] w fun e w' => e = .returned (.string (tellsS k)) ∧ Below w.heap.size w w' := by
  rcases kinds h1 h2 with rfl | rfl | rfl | rfl | rfl | rfl | rfl | rfl | rfl | rfl | rfl
  all_goals
    clear h1 h2
    go_enter Tryz.func31, Tryz.ntmps31
    go_wp2
    go_ret
    exact ⟨rfl, below_new _ _⟩
/-- None of the first k bytes is c. -/
def NoLet (s : ByteArray) (c : Int) (k : Nat) : Prop := ∀ j (h : j < s.size), j < k → ((s[j].toNat : Int) == c) = false
instance (s : ByteArray) (c : Int) (k : Nat) : Decidable (NoLet s c k) := inferInstanceAs (Decidable (∀ j (h : j < s.size), j < k → ((s[j].toNat : Int) == c) = false))
def hasB (s : ByteArray) (c : Int) : Bool := !decide (NoLet s c s.size)
theorem has_no {s : ByteArray} {c : Int} (h : NoLet s c s.size) : hasB s c = false := by simp [hasB, h]
theorem has_yes {s : ByteArray} {c : Int} {k : Nat} (hk : k < s.size) (h : ((s[k].toNat : Int) == c) = true) : hasB s c = true := by
  have : ¬ NoLet s c s.size := fun hn => by rw [hn k hk hk] at h; cases h
  simp [hasB, this]
theorem NoLet.succ {s : ByteArray} {c : Int} {k : Nat} (h : NoLet s c k) (hk : k < s.size) (h1 : ((s[k].toNat : Int) == c) = false) : NoLet s c (k + 1) := fun j hj hlt => by
  by_cases e : j = k
  · subst e; exact h1
  · exact h j hj (by omega)
theorem tells_size (k : Int) : (tellsS k).size ≤ 4 := by
  unfold tellsS
  rcases Nat.lt_or_ge (k - 1).toNat 11 with h | h
  · generalize (k - 1).toNat = n at h
    match n, h with
    | 0, _ | 1, _ | 2, _ | 3, _ | 4, _ | 5, _ | 6, _ | 7, _ | 8, _ | 9, _ | 10, _ => decide
  · rw [List.getD_eq_getElem?_getD, List.getElem?_eq_none (by simpa using h)]; decide
set_option maxHeartbeats 4000000 in
set_option maxRecDepth 100000 in
theorem l15Has_any (k c : Int) (h1 : 1 ≤ k) (h2 : k ≤ 11) (w : World) :
    Calls Tryz.prog 35 #[.int .i64 k, .int .u8 c] w fun e w' => e = .returned (.bool (hasB (tellsS k) c)) ∧ Below w.heap.size w w' := by
  obtain ⟨s, hs⟩ : ∃ s, tellsS k = s := ⟨_, rfl⟩
  have hsz := tells_size k
  rw [hs] at hsz
  have HS := Lib.hid hs
  rw [hs]
  clear hs
  go_enter Tryz.func35, Tryz.ntmps35
  go_wp2_with fail
  refine (l15Tells_any k h1 h2 _).mono ?_
  rintro e w1 ⟨rfl, hb1⟩
  have HB := Lib.hid hb1
  clear hb1
  rw [HS.out]
  go_wp2_with fail
  go_loopw [6] (fun i w' => ∃ j : Nat, j ≤ s.size ∧ i = .int .i64 j ∧ w1 = w' ∧ NoLet s c j) (fun i _ => s.size - (intOf i).toNat)
  case atStart => exact ⟨0, Nat.zero_le _, rfl, rfl, fun _ _ h => by omega⟩
  case round =>
    obtain ⟨j, hj, rfl, rfl, hu⟩ := hrel
    have HU := Lib.hid hu
    clear hu
    by_cases hlt : j < s.size
    · cases hq : ((s[j].toNat : Int) == c)
      · have HN := Lib.hid (HU.out.succ hlt hq)
        go_wp2
        go_roundw
        case rel => exact ⟨j + 1, by omega, by go_num, by first | rfl | trivial, HN.out⟩
        case measure => simp [intOf]; omega
      · have HN := Lib.hid (has_yes hlt hq)
        go_wp2
        go_ret
        exact ⟨by rw [HN.out]; rfl, HB.out⟩
    · obtain rfl : j = s.size := by omega
      have HN := Lib.hid (has_no HU.out)
      go_wp2
      go_ret
      exact ⟨by rw [HN.out]; rfl, HB.out⟩
/-- A name where it is told, else nothing. -/
def nameIs (s : ByteArray) (t : Bool) : Bool := if t = true then nameB s else (s.toList == [])
set_option maxHeartbeats 1000000 in
set_option maxRecDepth 100000 in
theorem l15Name_any (s : ByteArray) (t : Bool) (w : World) (hs : s.size ≤ maxLen) :
    Calls Tryz.prog 36 #[.string s, .bool t] w fun e w' => e = .returned (.bool (nameIs s t)) ∧ w = w' := by
  cases t
  · cases hq : (s.toList == [])
    all_goals
      have HN := Lib.hid (show nameIs s false = _ from (if_neg (by decide)).trans hq)
      go_enter Tryz.func36, Tryz.ntmps36
      go_wp2
      go_ret
      exact ⟨by rw [HN.out]; rfl, rfl⟩
  · have HN := Lib.hid (show nameIs s true = nameB s from if_pos rfl)
    go_enter Tryz.func36, Tryz.ntmps36
    go_wp2_with fail
    refine (sNameOk_any s _ hs).mono ?_
    rintro e w' ⟨rfl, rfl⟩
    go_wp2
    go_ret
    exact ⟨by rw [HN.out]; rfl, rfl⟩
end Go.Proofs.YtoabpbdjffonlaaGreatDoor
namespace Go.Proofs.YtoabpbdjffonlaaGreatDoor
open Go.ChangeShapes Go.WideShapes Go.ChangeAt Go.RowKit

def mostN (k : Int) : Int := if hasB (tellsS k) 78 = true then 999999999 else 0
/-- Is it a right deed? -/
def deedB (d : Dee) : Bool := inB 1 11 d.kind && (nameIs d.who (hasB (tellsS d.kind) 87) && (nameIs d.mill (hasB (tellsS d.kind) 77) && (nameIs d.to (hasB (tellsS d.kind) 84) && inB 0 (mostN d.kind) d.n)))
section
variable {d : Dee}
theorem deed_k (h : inB 1 11 d.kind = false) : deedB d = false := by simp [deedB, h]
theorem deed_w (h : nameIs d.who (hasB (tellsS d.kind) 87) = false) : deedB d = false := by simp [deedB, h]
theorem deed_m (h : nameIs d.mill (hasB (tellsS d.kind) 77) = false) : deedB d = false := by simp [deedB, h]
theorem deed_t (h : nameIs d.to (hasB (tellsS d.kind) 84) = false) : deedB d = false := by simp [deedB, h]
theorem deed_n (h : inB 0 (mostN d.kind) d.n = false) : deedB d = false := by simp [deedB, h]
theorem deed_yes (h1 : inB 1 11 d.kind = true) (h2 : nameIs d.who (hasB (tellsS d.kind) 87) = true) (h3 : nameIs d.mill (hasB (tellsS d.kind) 77) = true) (h4 : nameIs d.to (hasB (tellsS d.kind) 84) = true) (h5 : inB 0 (mostN d.kind) d.n = true) : deedB d = true := by
  rw [deedB, h1, h2, h3, h4, h5]; rfl
theorem deed_true (h : deedB d = true) : (1 ≤ d.kind ∧ d.kind ≤ 11) ∧ nameIs d.who (hasB (tellsS d.kind) 87) = true ∧ nameIs d.mill (hasB (tellsS d.kind) 77) = true ∧ nameIs d.to (hasB (tellsS d.kind) 84) = true ∧ inB 0 (mostN d.kind) d.n = true := by
  simp only [deedB, Bool.and_eq_true] at h
  exact ⟨inB_true h.1, h.2⟩
theorem deed_cases (h : inB 1 11 d.kind = true) : (nameIs d.who (hasB (tellsS d.kind) 87) = false ∧ deedB d = false) ∨ (nameIs d.who (hasB (tellsS d.kind) 87) = true ∧ nameIs d.mill (hasB (tellsS d.kind) 77) = false ∧ deedB d = false) ∨ (nameIs d.who (hasB (tellsS d.kind) 87) = true ∧ nameIs d.mill (hasB (tellsS d.kind) 77) = true ∧ nameIs d.to (hasB (tellsS d.kind) 84) = false ∧ deedB d = false) ∨ (nameIs d.who (hasB (tellsS d.kind) 87) = true ∧ nameIs d.mill (hasB (tellsS d.kind) 77) = true ∧ nameIs d.to (hasB (tellsS d.kind) 84) = true ∧ inB 0 (mostN d.kind) d.n = false ∧ deedB d = false) ∨ (nameIs d.who (hasB (tellsS d.kind) 87) = true ∧ nameIs d.mill (hasB (tellsS d.kind) 77) = true ∧ nameIs d.to (hasB (tellsS d.kind) 84) = true ∧ inB 0 (mostN d.kind) d.n = true ∧ deedB d = true) := by
  cases q1 : nameIs d.who (hasB (tellsS d.kind) 87)
  · exact .inl ⟨rfl, deed_w q1⟩
  cases q2 : nameIs d.mill (hasB (tellsS d.kind) 77)
  · exact .inr (.inl ⟨rfl, rfl, deed_m q2⟩)
  cases q3 : nameIs d.to (hasB (tellsS d.kind) 84)
  · exact .inr (.inr (.inl ⟨rfl, rfl, rfl, deed_t q3⟩))
  cases q4 : inB 0 (mostN d.kind) d.n
  · exact .inr (.inr (.inr (.inl ⟨rfl, rfl, rfl, rfl, deed_n q4⟩)))
  · exact .inr (.inr (.inr (.inr ⟨rfl, rfl, rfl, rfl, deed_yes h q1 q2 q3 q4⟩)))
end

set_option maxHeartbeats 8000000 in
set_option maxRecDepth 100000 in
theorem sDeedOk_any (k n : Int) (who mill to : ByteArray) (w : World) (h1 : who.size ≤ maxLen) (h2 : mill.size ≤ maxLen) (h3 : to.size ≤ maxLen) :
    Calls Tryz.prog 14 #[.agg #[.int .i64 k, .string who, .string mill, .string to, .int .i64 n]] w fun e w' => e = .returned (.bool (deedB ⟨k, who, mill, to, n⟩)) ∧ Below w.heap.size w w' := by
  have HS1 := Lib.hid h1
  have HS2 := Lib.hid h2
  have HS3 := Lib.hid h3
  clear h1 h2 h3
  have HX := Lib.hid (RecAt.new Dee.cs w ⟨k, who, mill, to, n⟩ 25)
  have B0 := Lib.hid (below_new w (.cells #[.int .i64 k, .string who, .string mill, .string to, .int .i64 n] 25))
  obtain ⟨W, hW⟩ : ∃ W, w.alloc (.cells #[.int .i64 k, .string who, .string mill, .string to, .int .i64 n] 25) = W := ⟨_, rfl⟩
  rw [show w.alloc (.cells (Dee.cs ⟨k, who, mill, to, n⟩).toArray 25) = W from hW] at HX
  rw [hW] at B0
  have c0 := HX.out 0 _ rfl
  go_enter Tryz.func14, Tryz.ntmps14
  go_wp2_with fail
  refine (l1In_any _ _ _ _).mono ?_
  rintro e w' ⟨rfl, rfl⟩
  cases hk : inB 1 11 k
  · have HN := Lib.hid (deed_k (d := ⟨k, who, mill, to, n⟩) hk)
    go_wp2
    go_ret
    exact ⟨by rw [HN.out]; rfl, B0.out⟩
  have HK := Lib.hid (inB_true hk)
  have HKB := Lib.hid hk
  clear hk
  go_wp2_with fail
  refine (l15Has_any k 78 HK.out.1 HK.out.2 _).mono ?_
  rintro e w1 ⟨rfl, hb1⟩
  have HX1 := Lib.hid (HX.out.below hb1)
  have B1 := Lib.hid (below_trans B0.out hb1)
  clear hb1 HX B0 c0 hW
  have g0 := Grow.cell (HX1.out 0 _ rfl)
  have g1 := Grow.cell (HX1.out 1 _ rfl)
  have g2 := Grow.cell (HX1.out 2 _ rfl)
  have g3 := Grow.cell (HX1.out 3 _ rfl)
  have g4 := Grow.cell (HX1.out 4 _ rfl)
  clear HX1
  obtain ⟨most, hm⟩ : ∃ m, mostN k = m := ⟨_, rfl⟩
  have HM := Lib.hid hm
  cases hn : hasB (tellsS k) 78
  case' false => have hmv : most = 0 := by rw [← hm, mostN, hn]; rfl
  case' true => have hmv : most = 999999999 := by rw [← hm, mostN, hn]; rfl
  all_goals
    subst hmv
    clear hm hn
    rcases deed_cases (d := ⟨k, who, mill, to, n⟩) HKB.out with ⟨q1, hn⟩ | ⟨q1, q2, hn⟩ | ⟨q1, q2, q3, hn⟩ | ⟨q1, q2, q3, q4, hn⟩ | ⟨q1, q2, q3, q4, hn⟩
    all_goals
      have HN := Lib.hid hn
      clear hn
      (try simp only at q4)
      (try simp only at q3)
      (try simp only at q2)
      simp only at q1
      (try rw [HM.out] at q4)
      (try have Q4 := Lib.hid q4)
      (try have Q3 := Lib.hid q3)
      (try have Q2 := Lib.hid q2)
      have Q1 := Lib.hid q1
      obtain ⟨b1, e1⟩ : ∃ b, hasB (tellsS k) 87 = b := ⟨_, rfl⟩
      obtain ⟨b2, e2⟩ : ∃ b, hasB (tellsS k) 77 = b := ⟨_, rfl⟩
      obtain ⟨b3, e3⟩ : ∃ b, hasB (tellsS k) 84 = b := ⟨_, rfl⟩
      have E1 := Lib.hid e1
      have E2 := Lib.hid e2
      have E3 := Lib.hid e3
      rw [e1] at q1 Q1
      (try rw [e2] at q2 Q2)
      (try rw [e3] at q3 Q3)
      clear e1 e2 e3
      go_wp2
      refine wp_region_grow (by kernel_rfl) (by kernel_rfl) ?_
      repeat (go_big_quiet_step (first
        | (go_at_call 35; first
          | (with_reducible exact grow_call (bool_is E1.out) (l15Has_any k 87 HK.out.1 HK.out.2 _))
          | (with_reducible exact grow_call (bool_is E2.out) (l15Has_any k 77 HK.out.1 HK.out.2 _))
          | (with_reducible exact grow_call (bool_is E3.out) (l15Has_any k 84 HK.out.1 HK.out.2 _)))
        | (go_at_call 36; first
          | (with_reducible exact grow_same (bool_is Q1.out) (l15Name_any who b1 _ HS1.out))
          | (with_reducible exact grow_same (bool_is Q2.out) (l15Name_any mill b2 _ HS2.out))
          | (with_reducible exact grow_same (bool_is Q3.out) (l15Name_any to b3 _ HS3.out)))
        | (go_at_call 34; exact grow_same (bool_is Q4.out) (l1In_any _ _ _ _))))
      refine wpQuiet_nil ?_
      intro _ hw'
      obtain ⟨gq, rfl⟩ := hw'
      have HB2 := Lib.hid (below_trans B1.out gq.ok)
      go_wp2
      go_ret
      exact ⟨by rw [HN.out]; rfl, HB2.out⟩
end Go.Proofs.YtoabpbdjffonlaaGreatDoor
namespace Go.Proofs.YtoabpbdjffonlaaGreatDoor
open Go.Lib

/-! Texts cut at a byte -/
/-- What comes out of a text that is cut at each byte b: 'cur' is what the piece under way has. -/
def pieces (b : UInt8) (cur : List UInt8) : List UInt8 → List (List UInt8)
  | [] => [cur]
  | c :: r => if c = b then cur :: pieces b [] r else pieces b (cur ++ [c]) r
def joinT (b : UInt8) : List (List UInt8) → List UInt8
  | [] => []
  | [x] => x
  | x :: y :: r => x ++ b :: joinT b (y :: r)
theorem pieces_ne (b : UInt8) (cur l : List UInt8) : pieces b cur l ≠ [] := by
  induction l generalizing cur with
  | nil => simp [pieces]
  | cons c r ih =>
    by_cases h : c = b
    · simp [pieces, h]
    · rw [pieces, if_neg h]; exact ih _
theorem pieces_join (b : UInt8) (cur l : List UInt8) : joinT b (pieces b cur l) = cur ++ l := by
  induction l generalizing cur with
  | nil => simp [pieces, joinT]
  | cons c r ih =>
    rw [pieces]
    split
    · rename_i h; subst h
      have e := ih []
      cases hp : pieces c [] r with
      | nil => exact absurd hp (pieces_ne _ _ _)
      | cons x xs => rw [hp] at e; rw [joinT, e]; rfl
    · rw [ih]; simp
theorem pieces_pre (b : UInt8) (cur x l : List UInt8) (h : b ∉ x) : pieces b cur (x ++ l) = pieces b (cur ++ x) l := by
  induction x generalizing cur with
  | nil => simp
  | cons c r ih =>
    simp only [List.mem_cons, not_or] at h
    rw [List.cons_append, pieces, if_neg (fun e => h.1 e.symm), ih _ h.2]; simp
theorem pieces_of (b : UInt8) : ∀ (x : List UInt8) (xs : List (List UInt8)) (cur : List UInt8), (∀ y ∈ x :: xs, b ∉ y) → pieces b cur (joinT b (x :: xs)) = (cur ++ x) :: xs
  | x, [], cur, h => by
    have := pieces_pre b cur x [] (h x (by simp))
    rw [List.append_nil] at this
    rw [joinT, this]; rfl
  | x, y :: r, cur, h => by
    rw [joinT, pieces_pre b cur x _ (h x (by simp)), pieces, if_pos rfl, pieces_of b y r [] (fun z hz => h z (by simp at hz ⊢; exact .inr hz))]; rfl

/-- The same of bytes in memory, from place i on (n bytes are left). -/
def pieceF (b : Int) (s : ByteArray) : Nat → Nat → Nat → List ByteArray
  | f, i, 0 => [s.extract f i]
  | f, i, n + 1 => if ((s.data.toList.getD i 0).toNat : Int) = b then s.extract f i :: pieceF b s (i + 1) (i + 1) n else pieceF b s f (i + 1) n
def splitB1 (b : Int) (s : ByteArray) : List ByteArray := pieceF b s 0 0 s.size
theorem extract_list (s : ByteArray) (a k : Nat) : (s.extract a k).data.toList = (s.data.toList.drop a).take (k - a) := by
  rw [ByteArray.data_extract, Array.toList_extract, List.extract_eq_take_drop]
theorem size_list (s : ByteArray) : s.data.toList.length = s.size := rfl
theorem pieceF_list (b : UInt8) (s : ByteArray) : ∀ (n f i : Nat), f ≤ i → i + n = s.size → (pieceF b.toNat s f i n).map (·.data.toList) = pieces b ((s.data.toList.drop f).take (i - f)) (s.data.toList.drop i) := by
  intro n
  induction n with
  | zero =>
    intro f i hf hi
    have hd : s.data.toList.drop i = [] := List.drop_eq_nil_of_le (by rw [size_list]; omega)
    rw [hd]
    simp [pieceF, pieces]
  | succ n ih =>
    intro f i hf hi
    have hlt : i < s.data.toList.length := by rw [size_list]; omega
    have hd : s.data.toList.drop i = s.data.toList[i] :: s.data.toList.drop (i + 1) := List.drop_eq_getElem_cons hlt
    have hg : s.data.toList.getD i 0 = s.data.toList[i] := by rw [List.getD_eq_getElem?_getD, List.getElem?_eq_getElem hlt]; rfl
    rw [hd, pieceF, pieces, hg]
    have hiff : (((s.data.toList[i]).toNat : Int) = ((b.toNat : Nat) : Int)) ↔ s.data.toList[i] = b := by
      rw [← UInt8.toNat_inj]; omega
    by_cases hb : s.data.toList[i] = b
    · rw [if_pos (hiff.mpr hb), if_pos hb, List.map_cons, ih (i + 1) (i + 1) (Nat.le_refl _) (by omega), extract_list]
      simp
    · rw [if_neg (fun e => hb (hiff.mp e)), if_neg hb, ih f (i + 1) (by omega) (by omega)]
      congr 1
      have : i + 1 - f = (i - f) + 1 := by omega
      rw [this, List.take_add_one, List.getElem?_drop]
      have : f + (i - f) = i := by omega
      rw [this, List.getElem?_eq_getElem hlt]; rfl
theorem splitB1_list (b : UInt8) (s : ByteArray) : (splitB1 b.toNat s).map (·.data.toList) = pieces b [] s.data.toList := by
  rw [splitB1, pieceF_list b s s.size 0 0 (Nat.le_refl _) (by omega)]; simp
theorem pieceF_len (b : Int) (s : ByteArray) : ∀ n f i, (pieceF b s f i n).length ≤ n + 1
  | 0, f, i => by simp [pieceF]
  | n + 1, f, i => by
    rw [pieceF]; split
    · have := pieceF_len b s n (i + 1) (i + 1); simp; omega
    · have := pieceF_len b s n f (i + 1); omega
theorem pieceF_size (b : Int) (s : ByteArray) : ∀ n f i, ∀ x ∈ pieceF b s f i n, x.size ≤ s.size
  | 0, f, i, x, hx => by simp only [pieceF, List.mem_singleton] at hx; subst hx; rw [ByteArray.size_extract]; omega
  | n + 1, f, i, x, hx => by
    rw [pieceF] at hx; split at hx
    · rcases List.mem_cons.mp hx with rfl | hx
      · rw [ByteArray.size_extract]; omega
      · exact pieceF_size b s n _ _ x hx
    · exact pieceF_size b s n _ _ x hx
theorem pieceF_ne (b : Int) (s : ByteArray) : ∀ n f i, pieceF b s f i n ≠ []
  | 0, f, i => by simp [pieceF]
  | n + 1, f, i => by
    by_cases h : ((s.data.toList.getD i 0).toNat : Int) = b
    · rw [pieceF, if_pos h]; simp
    · rw [pieceF, if_neg h]; exact pieceF_ne b s n _ _
end Go.Proofs.YtoabpbdjffonlaaGreatDoor
