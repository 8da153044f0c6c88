/-
  Texts joined: DeedG, LayTxt, ReadL, DeeI, DeeJ, DeeK, ArgStrs, ArgRecs, ArgDeed, GlobL.
-/
import Derived.Test.YtiijagmakkgnnaaDoorJ5
import Derived.Lib.Join
import Derived.Shelf.Strings.SplitCore
import Derived.Shelf.Strings.Search3
import Derived.Shelf.Strings.Count
import Derived.Lib.SplitLaws
import Derived.Shelf.Strings.OnBuilder
import Derived.Shelf.LaysM
import Derived.SliceStrings
import Derived.ShutString
import Derived.ChangeOld
import Derived.Carry
import Derived.Deep.Slices
import Derived.Deep.Fields
import Derived.LaidLaws
import Derived.Stop.LaidErr
import Derived.MakeChecks
namespace Go.Proofs.YtiijagmakkgnnaaDoor
open Go.Lib

/-! Words of a deed -/
/-- What the program writes of a deed, right or not. -/
def wordsP (d : Dee) : List ByteArray := if 1 ≤ d.kind ∧ d.kind ≤ 11 then wordsOf d else [⟨#[]⟩]
theorem wordsP_in {d : Dee} (h1 : 1 ≤ d.kind) (h2 : d.kind ≤ 11) : wordsP d = wordsOf d := if_pos ⟨h1, h2⟩
theorem wordsP_out {d : Dee} (h : d.kind < 1 ∨ 11 < d.kind) : wordsP d = [⟨#[]⟩] := if_neg (by omega)
theorem wordsP_cons (d : Dee) : ∃ x0 rest, wordsP d = x0 :: rest := by
  unfold wordsP
  split
  · exact ⟨_, _, rfl⟩
  · exact ⟨_, _, rfl⟩
theorem split_show {d : Dee} (h : deedB d = true) : splitB1 32 (showB d) = wordsOf d :=
  split_of (b := 32) (s := showB d) (x := wordsS.getD (d.kind - 1).toNat ByteArray.empty) (xs := (tellsS d.kind).data.toList.map fun c => if c = 87 then d.who else if c = 77 then d.mill else if c = 84 then d.to else itoaB d.n)
    (fun y hy => words_no h (by decide) (by decide) y hy) (show_join h)
theorem readW_right {w : List ByteArray} {k : Int} {d : Dee} (h : readW w k = some d) : deedB d = true := by
  rw [readW] at h
  split at h
  · cases h
  split at h
  · cases h
  split at h
  · rename_i hg
    have e := Option.some.inj h
    rw [← e]; exact hg.2
  · cases h
/-- A right deed's words are read as that deed. -/
theorem readP_right {d : Dee} (h : deedB d = true) : readW (wordsP d) (placeV wordsS (sat (wordsP d) 0) + 1) = some d := by
  obtain ⟨⟨h1, h2⟩, _⟩ := deed_true h
  have e := read_show h
  rw [readB, split_show h] at e
  rw [wordsP_in h1 h2]; exact e
theorem readP_wrong {d r : Dee} (h : deedB d = false) (e : readW (wordsP d) (placeV wordsS (sat (wordsP d) 0) + 1) = some r) : r ≠ d := by
  intro q
  rw [← q, readW_right e] at h
  cases h
theorem itoa_len {n : Int} (h0 : -9223372036854775808 ≤ n) (h1 : n ≤ 9223372036854775807) : (itoaB n).size ≤ 20 := by
  have e : (itoaB n).size = (itoa n).length := rfl
  rw [e, itoa]
  split
  · have := dec_len (u := n.natAbs) (k := 18) (by omega)
    rw [List.length_cons]; omega
  · have := dec_len (u := n.toNat) (k := 18) (by omega)
    omega
theorem wordsP_size {d : Dee} {m : Nat} (hm : 20 ≤ m) (h0 : -9223372036854775808 ≤ d.n) (h1 : d.n ≤ 9223372036854775807) (hw : d.who.size ≤ m) (hi : d.mill.size ≤ m) (ht : d.to.size ≤ m) : (∀ x ∈ wordsP d, x.size ≤ m) ∧ (wordsP d).length ≤ 5 := by
  unfold wordsP
  split
  · rename_i hk
    have ht4 := tells_size d.kind
    have ht4' : (tellsS d.kind).data.toList.length ≤ 4 := ht4
    refine ⟨fun x hx => ?_, by rw [wordsOf]; simp; exact ht4'⟩
    rcases List.mem_cons.mp hx with rfl | hx
    · have hws : ∀ w ∈ wordsS, w.size ≤ 20 := by decide
      have := hws _ (word_mem hk.1 hk.2); omega
    · obtain ⟨e, _, rfl⟩ := List.mem_map.mp hx
      have := itoa_len h0 h1
      split
      · exact hw
      split
      · exact hi
      split
      · exact ht
      · omega
  · exact ⟨fun x hx => by simp only [List.mem_singleton] at hx; subst hx; exact Nat.zero_le _, by simp⟩
theorem joinT_join (b : UInt8) : ∀ xs : List (List UInt8), Lib.join xs [b] = joinT b xs
  | [] => rfl
  | [x] => by rw [Lib.join_one]; rfl
  | x :: y :: r => by
    rw [joinT, ← joinT_join b (y :: r)]
    simp [Lib.join, List.intercalate, List.intersperse]
theorem join_show {d : Dee} (h : deedB d = true) : (⟨(Lib.join ((wordsP d).map (·.data.toList)) [32]).toArray⟩ : ByteArray) = showB d := by
  obtain ⟨⟨h1, h2⟩, _⟩ := deed_true h
  apply ba_ext
  rw [wordsP_in h1 h2, joinT_join, show_join h]

/-! Cut no more than so many times -/
theorem pieces_cons (c b : UInt8) (l : List UInt8) (h : b ≠ c) : ∃ x t, pieces c [] l = x :: t ∧ pieces c [] (b :: l) = (b :: x) :: t := by
  cases e : pieces c [] l with
  | nil => exact absurd e (pieces_ne _ _ _)
  | cons x t =>
    refine ⟨x, t, rfl, ?_⟩
    rw [pieces, if_neg h]
    exact pieces_more c b l [] x t e
theorem splitK_pieces (c : UInt8) : ∀ (l : List UInt8) (k : Nat), splitK [c] 0 k l = pieces c [] l ∨ ((splitK [c] 0 k l).length = k + 1 ∧ k + 1 < (pieces c [] l).length ∧ (1 ≤ k → (splitK [c] 0 k l).head? = (pieces c [] l).head?))
  | [], k => by
    left
    cases k with
    | zero => rfl
    | succ k => rfl
  | b :: l, k => by
    by_cases h : b = c
    · subst h
      have hp : pieces b [] (b :: l) = [] :: pieces b [] l := by rw [pieces, if_pos rfl]
      cases k with
      | zero =>
        right
        refine ⟨rfl, ?_, fun h => by omega⟩
        rw [hp, List.length_cons]
        have := List.length_pos_iff.mpr (pieces_ne b [] l)
        omega
      | succ k =>
        have hs : splitK [b] 0 (k + 1) (b :: l) = [] :: splitK [b] 0 k l := by
          rw [splitK, index_here]
          simp
        rw [hs, hp]
        rcases splitK_pieces b l k with e | ⟨e1, e2, _⟩
        · left; rw [e]
        · right
          refine ⟨by rw [List.length_cons, e1], by rw [List.length_cons]; omega, fun _ => rfl⟩
    · obtain ⟨x, t, hx, hp⟩ := pieces_cons c b l h
      cases k with
      | zero =>
        rcases splitK_pieces c l 0 with e | ⟨e1, e2, _⟩
        · left
          rw [hx] at e
          have e' : [l] = x :: t := e
          obtain ⟨rfl, rfl⟩ := List.cons.inj e'
          rw [hp]; rfl
        · right
          refine ⟨rfl, ?_, fun h => by omega⟩
          rw [hp]; rw [hx] at e2; simpa using e2
      | succ k =>
        have ih := splitK_pieces c l (k + 1)
        by_cases hi : index l [c] = -1
        · have e1 : splitK [c] 0 (k + 1) l = [l] := by rw [splitK, hi]; rfl
          have e2 : splitK [c] 0 (k + 1) (b :: l) = [b :: l] := by rw [splitK, index_skip b c l h, hi]; rfl
          rw [e1] at ih
          rcases ih with e | ⟨e3, _⟩
          · left
            rw [hx] at e
            obtain ⟨rfl, rfl⟩ := List.cons.inj e
            rw [e2, hp]
          · simp at e3
        · have hge := Lib.index_ge l [c]
          obtain ⟨j, hj⟩ : ∃ j : Nat, index l [c] = j := ⟨(index l [c]).toNat, by omega⟩
          have z1 : (((j : Nat) : Int) == -1) = false := by rw [beq_eq_false_iff_ne]; omega
          have z2 : (((j : Nat) : Int) + 1 == -1) = false := by rw [beq_eq_false_iff_ne]; omega
          have u1 : (((j : Nat) : Int) + 1).toNat = j + 1 := by omega
          have u2 : ((j : Nat) : Int).toNat = j := by omega
          have e1 : splitK [c] 0 (k + 1) l = l.take j :: splitK [c] 0 k (l.drop (j + 1)) := by
            rw [splitK, hj]; simp only [z1, Bool.false_eq_true, if_false, u2]; simp
          have e2 : splitK [c] 0 (k + 1) (b :: l) = (b :: l.take j) :: splitK [c] 0 k (l.drop (j + 1)) := by
            rw [splitK, index_skip b c l h, hj]; simp only [z1, z2, Bool.false_eq_true, if_false, u1]; simp
          rw [e1, hx] at ih
          rw [e2, hp]
          rcases ih with e | ⟨e3, e4, e5⟩
          · left
            obtain ⟨rfl, rfl⟩ := List.cons.inj e
            rfl
          · right
            refine ⟨by simpa using e3, by simpa using e4, fun h1 => ?_⟩
            have := e5 h1
            simp only [List.head?_cons, Option.some.injEq] at this ⊢
            rw [this]
theorem split_ne (sep : ByteArray) (k : Nat) (s : ByteArray) : Lib.splitB sep 0 k s ≠ [] := by
  cases k with
  | zero => simp [Lib.splitB]
  | succ k => rw [Lib.splitB]; split <;> simp
theorem split_size {c : UInt8} : ∀ (s : ByteArray) (k : Nat), ∀ x ∈ Lib.splitB ⟨#[c]⟩ 0 k s, x.size ≤ s.size := by
  intro s k
  induction k generalizing s with
  | zero => intro x hx; simp only [Lib.splitB, List.mem_singleton] at hx; subst hx; exact Nat.le_refl _
  | succ k ih =>
    intro x hx
    rw [Lib.splitB] at hx
    split at hx
    · simp only [List.mem_singleton] at hx; subst hx; exact Nat.le_refl _
    · rcases List.mem_cons.mp hx with rfl | hx
      · rw [ByteArray.size_extract]; omega
      · have := ih _ x hx
        rw [ByteArray.size_extract] at this; omega
/-- strings.SplitN's pieces: all of them, or just so many where there are more, the first of them as it is. -/
theorem splitN_pieces (c : UInt8) (s : ByteArray) (n : Nat) (hn : 1 ≤ n) : Lib.splitB ⟨#[c]⟩ 0 (min n (s.size + 1) - 1) s = splitB1 c.toNat s ∨
    ((Lib.splitB ⟨#[c]⟩ 0 (min n (s.size + 1) - 1) s).length = n ∧ n < (splitB1 c.toNat s).length ∧ (2 ≤ n → sat (Lib.splitB ⟨#[c]⟩ 0 (min n (s.size + 1) - 1) s) 0 = sat (splitB1 c.toNat s) 0)) := by
  have h1 := Lib.splitB_data ⟨#[c]⟩ 0 (min n (s.size + 1) - 1) s
  have h2 := splitB1_list c s
  have hsz : (splitB1 c.toNat s).length ≤ s.size + 1 := pieceF_len _ _ _ _ _
  have hinj : ∀ a b : ByteArray, a.data.toList = b.data.toList → a = b := fun a b q => WideShapes.bytes_inj q
  generalize Lib.splitB ⟨#[c]⟩ 0 (min n (s.size + 1) - 1) s = p at h1 ⊢
  generalize splitB1 c.toNat s = q at h2 hsz ⊢
  have h1 : p.map (·.data.toList) = splitK [c] 0 (min n (s.size + 1) - 1) s.data.toList := h1
  rcases splitK_pieces c s.data.toList (min n (s.size + 1) - 1) with e | ⟨e1, e2, e3⟩
  · left
    exact (List.map_inj_right (fun a b q => hinj a b q)).mp (by rw [h1, h2, e])
  · right
    rw [← h1, List.length_map] at e1
    rw [← h2, List.length_map] at e2
    refine ⟨by omega, by omega, fun h => ?_⟩
    have e4 := e3 (by omega)
    rw [← h1, ← h2] at e4
    cases p with
    | nil => simp at e1
    | cons x r =>
      cases q with
      | nil => simp at e2
      | cons y t =>
        have : x.data.toList = y.data.toList := by simpa using e4
        exact hinj _ _ this
/-- Six words are as good as all. -/
theorem read_six (s : ByteArray) : readW (Lib.splitB ⟨#[32]⟩ 0 (min 6 (s.size + 1) - 1) s) (placeV wordsS (sat (Lib.splitB ⟨#[32]⟩ 0 (min 6 (s.size + 1) - 1) s) 0) + 1) = readB s := by
  rcases splitN_pieces 32 s 6 (by omega) with e | ⟨e1, e2, e3⟩
  · rw [e]; rfl
  · have e3 := e3 (by omega)
    have e32 : (((32 : UInt8).toNat : Nat) : Int) = 32 := rfl
    rw [e32] at e2 e3
    rw [readB, e3]
    generalize placeV wordsS (sat (splitB1 32 s) 0) + 1 = k
    have ht := tells_size k
    have no : ∀ w : List ByteArray, 6 ≤ w.length → readW w k = none := fun w hw => by
      rw [readW]
      split
      · rfl
      · rw [if_pos (by omega)]
    rw [no _ (by omega), no _ (by omega)]
theorem readAll_few : ∀ {ws : List ByteArray} {out l : List Dee}, readAll ws out = some l → out.length ≤ 20 → ws.length + out.length ≤ 20
  | [], out, l, _, ho => by simpa using ho
  | x :: r, out, l, h, ho => by
    rw [readAll] at h
    cases hx : readB x with
    | none => rw [hx] at h; cases h
    | some d =>
      rw [hx] at h
      simp only at h
      split at h
      · cases h
      · have := readAll_few h (by rw [List.length_append]; simp; omega)
        rw [List.length_append] at this
        simp at this ⊢; omega
theorem reads_many {s : ByteArray} (h : s.toList ≠ []) (hl : 20 < (splitB1 59 s).length) : readsB s = none := by
  rw [readsB, if_neg h]
  cases q : readAll (splitB1 59 s) [] with
  | none => rfl
  | some l => have := readAll_few q (by simp); simp at this; omega
/-- 21 texts are as good as all. -/
theorem reads_twenty (s : ByteArray) (h : s.toList ≠ []) : readsB s = if 20 < (Lib.splitB ⟨#[59]⟩ 0 (min 21 (s.size + 1) - 1) s).length then none else readAll (Lib.splitB ⟨#[59]⟩ 0 (min 21 (s.size + 1) - 1) s) [] := by
  have e59 : (((59 : UInt8).toNat : Nat) : Int) = 59 := rfl
  rcases splitN_pieces 59 s 21 (by omega) with e | ⟨e1, e2, _⟩
  · rw [e59] at e
    rw [e]
    by_cases hl : 20 < (splitB1 59 s).length
    · rw [if_pos hl, reads_many h hl]
    · rw [if_neg hl, readsB, if_neg h]
  · rw [e59] at e2
    rw [if_pos (by omega), reads_many h (by omega)]
end Go.Proofs.YtiijagmakkgnnaaDoor
namespace Go.Proofs.YtiijagmakkgnnaaDoor
open Go.Shelf

def laySplitN_ren : Go.Shelf.Ren := ⟨fun | 147 => 31 | 221 => 46 | 268 => 52 | 138 => 53 | 143 => 54 | 195 => 60 | 197 => 61 | 218 => 62 | 219 => 63 | 260 => 70 | 217 => 71 | 225 => 72 | 224 => 73 | 267 => 74 | 266 => 85 | 314 => 86 | n => n, fun | 9 => 9 | 3 => 3 | 31 => 43 | 4 => 4 | 0 => 0 | 105 => 97 | 21 => 21 | 5 => 5 | 46 => 108 | 119 => 121 | 139 => 124 | 138 => 123 | 146 => 125 | 51 => 117 | n => n, fun | 1 => 0 | 3 => 2 | 4 => 3 | n => n⟩
theorem laySplitN : Go.Proofs.LaysM.n147 Tryd.prog laySplitN_ren where
  mixed := by kernel_rfl
  f138 := Tryd.func53.trans (congrArg some (by kernel_rfl))
  f143 := Tryd.func54.trans (congrArg some (by kernel_rfl))
  f147 := Tryd.func31.trans (congrArg some (by kernel_rfl))
  f195 := Tryd.func60.trans (congrArg some (by kernel_rfl))
  f197 := Tryd.func61.trans (congrArg some (by kernel_rfl))
  f217 := Tryd.func71.trans (congrArg some (by kernel_rfl))
  f218 := Tryd.func62.trans (congrArg some (by kernel_rfl))
  f219 := Tryd.func63.trans (congrArg some (by kernel_rfl))
  f221 := Tryd.func46.trans (congrArg some (by kernel_rfl))
  f224 := Tryd.func73.trans (congrArg some (by kernel_rfl))
  f225 := Tryd.func72.trans (congrArg some (by kernel_rfl))
  f260 := Tryd.func70.trans (congrArg some (by kernel_rfl))
  f266 := Tryd.func85.trans (congrArg some (by kernel_rfl))
  f267 := Tryd.func74.trans (congrArg some (by kernel_rfl))
  f268 := Tryd.func52.trans (congrArg some (by kernel_rfl))
  f314 := Tryd.func86.trans (congrArg some (by kernel_rfl))
  t0 := Tryd.underlying0
  a0 := Tryd.isAgg0
  z0 := Tryd.sizeOf0
  v0 := Tryd.zeroValue0
  t3 := Tryd.underlying3
  a3 := Tryd.isAgg3
  z3 := Tryd.sizeOf3
  v3 := Tryd.zeroValue3
  t4 := Tryd.underlying4
  a4 := Tryd.isAgg4
  z4 := Tryd.sizeOf4
  v4 := Tryd.zeroValue4
  t5 := Tryd.underlying5
  a5 := Tryd.isAgg5
  z5 := Tryd.sizeOf5
  v5 := Tryd.zeroValue5
  t9 := Tryd.underlying9
  a9 := Tryd.isAgg9
  z9 := Tryd.sizeOf9
  v9 := Tryd.zeroValue9
  t21 := Tryd.underlying21
  a21 := Tryd.isAgg21
  z21 := Tryd.sizeOf21
  v21 := Tryd.zeroValue21
  t31 := Tryd.underlying43
  a31 := Tryd.isAgg43
  z31 := Tryd.sizeOf43
  v31 := Tryd.zeroValue43
  t46 := Tryd.underlying108
  a46 := Tryd.isAgg108
  z46 := Tryd.sizeOf108
  v46 := Tryd.zeroValue108
  t51 := Tryd.underlying117
  a51 := Tryd.isAgg117
  z51 := Tryd.sizeOf117
  v51 := Tryd.zeroValue117
  t105 := Tryd.underlying97
  a105 := Tryd.isAgg97
  z105 := Tryd.sizeOf97
  v105 := Tryd.zeroValue97
  t119 := Tryd.underlying121
  a119 := Tryd.isAgg121
  z119 := Tryd.sizeOf121
  t138 := Tryd.underlying123
  a138 := Tryd.isAgg123
  z138 := Tryd.sizeOf123
  v138 := Tryd.zeroValue123
  t139 := Tryd.underlying124
  a139 := Tryd.isAgg124
  z139 := Tryd.sizeOf124
  v139 := Tryd.zeroValue124
  t146 := Tryd.underlying125
  a146 := Tryd.isAgg125
  z146 := Tryd.sizeOf125
  v146 := Tryd.zeroValue125
  g1 := by kernel_rfl
  g3 := by kernel_rfl
  g4 := by kernel_rfl
  i0 := by kernel_rfl
  i3 := by kernel_rfl
  i4 := by kernel_rfl
  i5 := by kernel_rfl
  i9 := by kernel_rfl
  i21 := by kernel_rfl
  i31 := by kernel_rfl
  i46 := by kernel_rfl
  i51 := by kernel_rfl
  i105 := by kernel_rfl
  i138 := by kernel_rfl
  i139 := by kernel_rfl
  i146 := by kernel_rfl
  m1 := by kernel_rfl
  s1_3 := fun w h => Go.Proofs.cell_of_shapedOpen_int (zero := #[.int .i64 0]) (t := 3) h (of_decide_eq_true (by kernel_rfl)) (by kernel_rfl) rfl (by kernel_rfl) (by kernel_rfl) Tryd.underlying3
  m3 := by kernel_rfl
  m4 := by kernel_rfl

def layJoin_ren : Go.Shelf.Ren := ⟨fun | 156 => 29 | 165 => 43 | 166 => 44 | 169 => 45 | 240 => 50 | 241 => 51 | 276 => 58 | 277 => 59 | n => n, fun | 31 => 43 | 9 => 9 | 3 => 3 | 4 => 4 | 0 => 0 | 20 => 20 | 72 => 78 | 76 => 82 | 70 => 76 | 37 => 75 | 75 => 81 | 127 => 87 | 164 => 93 | 5 => 5 | 80 => 56 | n => n, fun | n => n⟩
theorem layJoin : Go.Proofs.Lays.n156 Tryd.prog layJoin_ren where
  mixed := by kernel_rfl
  f156 := Tryd.func29.trans (congrArg some (by kernel_rfl))
  f165 := Tryd.func43.trans (congrArg some (by kernel_rfl))
  f166 := Tryd.func44.trans (congrArg some (by kernel_rfl))
  f169 := Tryd.func45.trans (congrArg some (by kernel_rfl))
  f240 := Tryd.func50.trans (congrArg some (by kernel_rfl))
  f241 := Tryd.func51.trans (congrArg some (by kernel_rfl))
  f276 := Tryd.func58.trans (congrArg some (by kernel_rfl))
  f277 := Tryd.func59.trans (congrArg some (by kernel_rfl))
  t0 := Tryd.underlying0
  a0 := Tryd.isAgg0
  z0 := Tryd.sizeOf0
  v0 := Tryd.zeroValue0
  t3 := Tryd.underlying3
  a3 := Tryd.isAgg3
  z3 := Tryd.sizeOf3
  v3 := Tryd.zeroValue3
  t4 := Tryd.underlying4
  a4 := Tryd.isAgg4
  z4 := Tryd.sizeOf4
  v4 := Tryd.zeroValue4
  t9 := Tryd.underlying9
  a9 := Tryd.isAgg9
  z9 := Tryd.sizeOf9
  v9 := Tryd.zeroValue9
  t20 := Tryd.underlying20
  a20 := Tryd.isAgg20
  z20 := Tryd.sizeOf20
  v20 := Tryd.zeroValue20
  t31 := Tryd.underlying43
  a31 := Tryd.isAgg43
  z31 := Tryd.sizeOf43
  v31 := Tryd.zeroValue43
  t37 := Tryd.underlying75
  a37 := Tryd.isAgg75
  z37 := Tryd.sizeOf75
  v37 := Tryd.zeroValue75
  t70 := Tryd.underlying76
  a70 := Tryd.isAgg76
  z70 := Tryd.sizeOf76
  v70 := Tryd.zeroValue76
  t72 := Tryd.underlying78
  a72 := Tryd.isAgg78
  z72 := Tryd.sizeOf78
  v72 := Tryd.zeroValue78
  t75 := Tryd.underlying81
  a75 := Tryd.isAgg81
  z75 := Tryd.sizeOf81
  v75 := Tryd.zeroValue81
  t76 := Tryd.underlying82
  a76 := Tryd.isAgg82
  z76 := Tryd.sizeOf82
  v76 := Tryd.zeroValue82
  t127 := Tryd.underlying87
  a127 := Tryd.isAgg87
  z127 := Tryd.sizeOf87
  v127 := Tryd.zeroValue87
  t164 := Tryd.underlying93
  a164 := Tryd.isAgg93
  z164 := Tryd.sizeOf93
  v164 := Tryd.zeroValue93
theorem extraJoin : Go.Proofs.Builder.Extra Tryd.prog layJoin_ren where
  sizeBuilder := by kernel_rfl
  liesBuilder := by kernel_rfl
  t5 := Tryd.underlying5
  a5 := Tryd.isAgg5
  z5 := Tryd.sizeOf5
  v5 := Tryd.zeroValue5
  infoByte := by kernel_rfl
  cellsByte := by kernel_rfl
  sizeByte := by kernel_rfl
  neB5 := by decide
end Go.Proofs.YtiijagmakkgnnaaDoor
namespace Go.Proofs.YtiijagmakkgnnaaDoor
open Go.ChangeShapes Go.WideShapes Go.ChangeAt Go.RowKit

/-- What ReadDeeds hands back. -/
def ResL (o : Option (List Dee)) (w : World) (e : Ending) (w' : World) : Prop :=
  ∃ (a : Option Addr) (cap : Nat), e = .returned (.tuple #[.slice a (o.getD []).length cap, .bool o.isSome]) ∧ OwnR Dee.cs 5 w' w.heap.size a (o.getD []) ∧ Below w.heap.size w w'
/-- What its loop has behind it. -/
structure RdsRel (s : ByteArray) (ss : List ByteArray) (w : World) (b off : Nat) (j : Nat) (out : List Dee) (v : Value) (wr : World) : Prop where
  own : wr.ownsRow w.heap.size 26 5 v out.length (out.flatMap Dee.cs)
  all : readAll (ss.drop j) out = readsB s
  st : Strs wr (some ⟨b, off, none⟩) ss
  below : Below w.heap.size w wr
  few : out.length ≤ 20
  far : ∀ g, v.ownBlock = some g → g ≠ b
  bl : b < wr.heap.size
theorem readAll_at {ss : List ByteArray} {out : List Dee} {j : Nat} (h : j < ss.length) : readAll (ss.drop j) out = match readB (sat ss j) with
    | none => none
    | some d => if out.length = 20 then none else readAll (ss.drop (j + 1)) (out ++ [d]) := by
  rw [List.drop_eq_getElem_cons h, readAll, sat_eq h]
  cases readB ss[j] <;> rfl
theorem RdsRel.step {s : ByteArray} {ss : List ByteArray} {w wr w' : World} {b off j : Nat} {out : List Dee} {v : Value} (h : RdsRel s ss w b off j out v wr) (hb : Below wr.heap.size wr w') : RdsRel s ss w b off j out v w' :=
  ⟨own_below h.own hb, h.all, strs_below h.st hb, below_trans h.below hb, h.few, h.far, Nat.lt_of_lt_of_le h.bl hb.size⟩
theorem resL_none {w w' : World} (h : Below w.heap.size w w') (hl : w.heap.size ≤ w'.heap.size) : ResL none w (.returned (.tuple #[.slice (some ⟨w'.heap.size, 0, none⟩) 0 0, .bool false])) (w'.alloc (.cells #[] 26)) := by
  have e := ownR_new (f := Dee.cs) (c := 5) Dee.len w' [] 26
  exact ⟨_, _, rfl, OwnR.mono e hl, below_trans h (below_new _ _)⟩
theorem resL_none2 {w w2 : World} (o : Obj) (h : Below w.heap.size w w2) : ResL none w (.returned (.tuple #[.slice (some ⟨w2.heap.size + 1, 0, none⟩) 0 0, .bool false])) ((w2.alloc o).alloc (.cells #[] 26)) := by
  have e := resL_none (below_trans h (below_new w2 o)) (by rw [size_alloc]; have := h.size; omega)
  rw [size_alloc] at e; exact e
theorem resL_some {s : ByteArray} {ss : List ByteArray} {w wr : World} {b off : Nat} {out : List Dee} {v : Value} (h : RdsRel s ss w b off ss.length out v wr) : ResL (readsB s) w (.returned (.tuple #[v, .bool true])) wr := by
  have e := h.all
  rw [List.drop_length, readAll] at e
  rw [← e]
  obtain ⟨a, cap, rfl, ho, _⟩ := ownR_of Dee.len h.own
  exact ⟨a, cap, rfl, ho, h.below⟩

theorem RdsRel.more {s : ByteArray} {ss : List ByteArray} {w w2 w6 : World} {b off j g6 c6 : Nat} {out : List Dee} {d : Dee} {v : Value} {o1 o2 : Obj} (h : RdsRel s ss w b off j out v w2)
    (hn : readsB s = readAll (ss.drop (j + 1)) (out ++ [d])) (hf : out.length + 1 ≤ 20) (ho : w6.ownsRow w.heap.size 26 5 (.slice (some ⟨g6, 0, none⟩) (out.length + 1) c6) (out.length + 1) (out.flatMap Dee.cs ++ [d].flatMap Dee.cs))
    (hg : ((w2.alloc o1).alloc o2).grownBy w6 v.ownBlock) (ha : v.ownBlock = some g6 ∨ g6 = w2.heap.size + 1 + 1) : RdsRel s ss w b off (j + 1) (out ++ [d]) (.slice (some ⟨g6, 0, none⟩) (out.length + 1) c6) w6 := by
  have hs1 := size_alloc w2 o1
  have hs2 := size_alloc (w2.alloc o1) o2
  have hle := h.below.size
  refine ⟨by rw [List.flatMap_append, List.length_append]; exact ho, hn.symm, ?_, bgrown (below_trans (below_trans h.below (below_new w2 o1)) (below_new _ o2)) (by omega) hg (own_lo h.own), by rw [List.length_append]; exact hf, ?_, ?_⟩
  · have h2 := strs_below (strs_below h.st (below_new w2 o1)) (below_new _ o2)
    intro k u hk
    obtain ⟨b', off', e, hc⟩ := h2 k u hk
    injection e with e; injection e with e1 e2
    subst e1; subst e2
    refine ⟨_, _, rfl, hg.cell hc ?_⟩
    intro q
    exact h.far _ q.symm rfl
  · intro g q
    have q : g6 = g := by simpa [Value.ownBlock] using q
    subst q
    rcases ha with ha | ha
    · exact h.far _ ha
    · have := h.bl; omega
  · have := h.bl; have := hg.size; omega
set_option maxHeartbeats 16000000 in
set_option maxRecDepth 100000 in
theorem sReadDeeds_any (s : ByteArray) (w : World) (hs : s.size ≤ 1048576) :
    Calls Tryd.prog 13 #[.string s] w (ResL (readsB s) w) := by
  obtain ⟨i0, hi, hz0, hz1, hz2⟩ := info_parts info_Deed
  have HI := Lib.hid hi
  have HZ0 := Lib.hid hz0
  have HZ1 := Lib.hid hz1
  have HZ2 := Lib.hid hz2
  clear hi hz0 hz1 hz2
  obtain ⟨W0, hW0⟩ : ∃ W0, w.alloc (.cells #[] 26) = W0 := ⟨_, rfl⟩
  have B0 := Lib.hid (show Below w.heap.size w W0 from by rw [← hW0]; exact below_new _ _)
  have hsz0 : W0.heap.size = w.heap.size + 1 := by rw [← hW0]; exact size_alloc _ _
  have O0 := Lib.hid (show W0.ownsRow w.heap.size 26 5 (.slice (some ⟨w.heap.size, 0, none⟩) 0 0) 0 (([] : List Dee).flatMap Dee.cs) from by
    rw [← hW0]; exact ⟨by simp, .inr ⟨w.heap.size, 0, #[], rfl, Nat.le_refl _, heap_alloc_new _ _, Nat.le_refl _, Nat.zero_le _, by simp, by simp⟩⟩)
  have HZ := Lib.hid hsz0
  clear hsz0
  cases hq : (s.toList == [])
  case true =>
    have h0 : s.toList = [] := by simpa using hq
    have HN := Lib.hid (show ResL (readsB s) w (.returned (.tuple #[.slice (some ⟨w.heap.size, 0, none⟩) 0 0, .bool true])) W0 from by
      rw [readsB, if_pos h0]
      obtain ⟨a, cap, e, ho, _⟩ := ownR_of (xs := ([] : List Dee)) Dee.len O0.out
      injection e with e1 e2 e3
      subst e1
      exact ⟨_, _, rfl, ho, B0.out⟩)
    go_enter Tryd.func13, Tryd.ntmps13
    go_wp2
    exact bodyPost_ret (v := .tuple #[.slice (some ⟨w.heap.size, 0, none⟩) 0 0, .bool true]) (by simp [results, Tryd.results13, go_sem]) rfl HN.out
  have HE := Lib.hid (show readsB s = readAll (splitB1 59 s) [] from if_neg (by simpa using hq))
  go_enter Tryd.func13, Tryd.ntmps13
  go_wp2_with fail
  refine (l1Split_any s 59 _ hs).mono ?_
  rintro e w1 ⟨a, cap, rfl, hst, hnew, hb1⟩
  clear hW0 hq
  have hlen : (splitB1 59 s).length ≤ s.size + 1 := pieceF_len _ _ _ _ _
  have hpos : 0 < (splitB1 59 s).length := List.length_pos_iff.mpr (pieceF_ne _ _ _ _ _)
  have hsmall : ∀ x ∈ splitB1 59 s, x.size ≤ s.size := pieceF_size _ _ _ _ _
  obtain ⟨ss, hss⟩ : ∃ ss, splitB1 59 s = ss := ⟨_, rfl⟩
  rw [hss] at hst hlen hpos hsmall ⊢
  have HSM := Lib.hid hsmall
  obtain ⟨b, off, rfl, hc0⟩ := strs_sat hst 0 hpos
  have HR := Lib.hid (show RdsRel s ss w b off 0 [] (.slice (some ⟨w.heap.size, 0, none⟩) 0 0) w1 from
    ⟨own_below O0.out hb1, by rw [List.drop_zero, HE.out, hss], hst, below_trans B0.out hb1, Nat.zero_le _, fun g hg => by
      have hg : w.heap.size = g := by simpa [Value.ownBlock] using hg
      have := hnew b off rfl; have := HZ.out; omega, lt_of_cell hc0⟩)
  clear hss hst hnew hb1 hc0 hsmall hpos O0 B0 HE
  have HL := Lib.hid hlen
  go_wp2_with fail
  go_loopw [4, 6] (fun v i wr => ∃ (j : Nat) (out : List Dee), j ≤ ss.length ∧ i = .int .i64 j ∧ RdsRel s ss w b off j out v wr) (fun _ i _ => ss.length - (intOf i).toNat)
  case atStart => exact ⟨0, [], Nat.zero_le _, rfl, HR.out⟩
  case round =>
    clear HR
    obtain ⟨j, out, hj, rfl, hr⟩ := hrel
    have HR := Lib.hid hr
    clear hr
    by_cases hlt : j < ss.length
    · obtain ⟨b', off', e', hcj⟩ := strs_sat HR.out.st j hlt
      obtain ⟨rfl, rfl⟩ : b = b' ∧ off = off' := by injection e' with e'; injection e' with e1 e2; exact ⟨e1, e2⟩
      clear e'
      have HSJ := Lib.hid (sat_size HSM.out j)
      have HA := Lib.hid (HR.out.all.symm.trans (readAll_at hlt))
      obtain ⟨av, cv, hv, _, _⟩ := ownR_of Dee.len HR.out.own
      subst hv
      go_wp2_with fail
      refine (sReadDeed_any (sat ss j) _ (by have := HSJ.out; omega)).mono ?_
      rintro e w2 ⟨rfl, hb2⟩
      have HR2 := Lib.hid (HR.out.step hb2)
      clear hb2 HR hcj
      cases ho : readB (sat ss j) with
      | none =>
        rw [ho] at HA
        have HNO := Lib.hid (show readsB s = none from HA.out)
        go_wp2
        exact bodyPost_ret (v := .tuple #[.slice (some ⟨w2.heap.size + 1, 0, none⟩) 0 0, .bool false]) (by simp [results, Tryd.results13, go_sem]) rfl (by rw [HNO.out]; exact resL_none2 _ HR2.out.below)
      | some d =>
        rw [ho] at HA
        have hfew := HR2.out.few
        by_cases h20 : out.length = 20
        · have HNO := Lib.hid (show readsB s = none from HA.out.trans (if_pos h20))
          have hb20 : ((out.length : Int) == 20) = true := by simp; omega
          go_wp2
          exact bodyPost_ret (v := .tuple #[.slice (some ⟨w2.heap.size + 1, 0, none⟩) 0 0, .bool false]) (by simp [results, Tryd.results13, go_sem]) rfl (by rw [HNO.out]; exact resL_none2 _ HR2.out.below)
        have hb20 : ((out.length : Int) == 20) = false := by simp; omega
        have HNX := Lib.hid (show readsB s = readAll (ss.drop (j + 1)) (out ++ [d]) from HA.out.trans (if_neg h20))
        have HOW := Lib.hid (((HR2.out.own.alloc (.cells #[.int .i64 d.kind, .string d.who, .string d.mill, .string d.to, .int .i64 d.n] 26)).alloc (.cells #[.int .i64 d.kind, .string d.who, .string d.mill, .string d.to, .int .i64 d.n] 26)))
        have hle2 : w.heap.size ≤ w2.heap.size := HR2.out.below.size
        have HBL := Lib.hid (own_lo HR2.out.own)
        go_wp2_with (at_builtin; refine wpList_append_lies _ rfl _ _ 30 rfl w.heap.size 26 i0 (.agg #[.int .i64 0, .string ByteArray.empty, .string ByteArray.empty, .string ByteArray.empty, .int .i64 0]) 5 64 Tryd.underlying30 HI.out HZ0.out HZ1.out HZ2.out rfl (by decide) _ _ _ rfl HOW.out ⟨w2.heap.size + 1, 0, none⟩ 1 1 ([d].flatMap Dee.cs) rfl ?c0 ?c1 (flat_one Dee.one _) (by decide) ?c3 ?c4 ?c5 _ rfl ?_)
        case c0 => rfl
        case c1 =>
          intro k u hk
          obtain ⟨b'', off'', e, hc⟩ := lies_new (w2.alloc (.cells #[.int .i64 d.kind, .string d.who, .string d.mill, .string d.to, .int .i64 d.n] 26)) d.cs 26 k u (by simpa using hk)
          rw [size_alloc] at e
          injection e with e; injection e with e1 e2; subst e1; subst e2
          rw [add_plain]; exact hc
        case c3 => unfold maxLen; omega
        case c4 => omega
        case c5 => rw [size_alloc, size_alloc]; omega
        intro g6 c6 w6 hown6 hgrow hat hlt6
        have HR3 := Lib.hid (RdsRel.more (d := d) HR2.out HNX.out (by omega) hown6 hgrow hat)
        clear hown6 hgrow hat hlt6
        go_wp2
        go_roundw
        case rel => exact ⟨j + 1, out ++ [d], by omega, by go_num, HR3.out⟩
        case measure => simp [intOf]; omega
    · obtain rfl : j = ss.length := by omega
      have HN := Lib.hid (resL_some HR.out)
      obtain ⟨av, cv, hv, _, _⟩ := ownR_of Dee.len HR.out.own
      subst hv
      go_wp2
      exact bodyPost_ret (v := .tuple #[.slice av out.length cv, .bool true]) (by simp [results, Tryd.results13, go_sem]) rfl HN.out
end Go.Proofs.YtiijagmakkgnnaaDoor
namespace Go.Proofs.YtiijagmakkgnnaaDoor
open Go.ChangeShapes Go.WideShapes Go.ChangeAt Go.RowKit

theorem bytes_iff' {a b : ByteArray} : a.toList = b.toList ↔ a = b := ⟨fun h => WideShapes.bytes_inj (by rw [ByteArray.toList_eq, ByteArray.toList_eq] at h; exact h), fun h => by rw [h]⟩
open Classical in
set_option maxRecDepth 100000 in
theorem eq_Dee (p q : Dee) (w : World) : (Op.equalIn 10000 26 (.agg #[.int .i64 p.kind, .string p.who, .string p.mill, .string p.to, .int .i64 p.n]) (.agg #[.int .i64 q.kind, .string q.who, .string q.mill, .string q.to, .int .i64 q.n])).run Tryd.prog w = .ok (decide (p = q)) w := by
  have hs : Tryd.prog.stoodInHeld 26 = false := by kernel_rfl
  have hu : Tryd.prog.underlying 26 = some (.struct (Tryd.prog.fieldsOf 26)) := by kernel_rfl
  rw [run_equalIn_agg _ 9999 _ _ _ hu hs]
  simp [Program.fieldsOf, Tryd.underlying26, Op.eqFields, go_sem, bytes_iff']
  obtain ⟨p0, p1, p2, p3, p4⟩ := p
  obtain ⟨q0, q1, q2, q3, q4⟩ := q
  simp only [Dee.mk.injEq]
  by_cases h0 : p0 = q0 <;> by_cases h1 : p1 = q1 <;> by_cases h2 : p2 = q2 <;> by_cases h3 : p3 = q3 <;> by_cases h4 : p4 = q4 <;> simp_all

open Classical in
theorem eq_Dee_t {p q : Dee} (h : p = q) (w : World) : (Op.equalIn 10000 26 (.agg #[.int .i64 p.kind, .string p.who, .string p.mill, .string p.to, .int .i64 p.n]) (.agg #[.int .i64 q.kind, .string q.who, .string q.mill, .string q.to, .int .i64 q.n])).run Tryd.prog w = .ok true w := (eq_Dee p q w).trans (by rw [decide_eq_true h])
open Classical in
theorem eq_Dee_f {p q : Dee} (h : p ≠ q) (w : World) : (Op.equalIn 10000 26 (.agg #[.int .i64 p.kind, .string p.who, .string p.mill, .string p.to, .int .i64 p.n]) (.agg #[.int .i64 q.kind, .string q.who, .string q.mill, .string q.to, .int .i64 q.n])).run Tryd.prog w = .ok false w := (eq_Dee p q w).trans (by rw [decide_eq_false h])
theorem iwords_any (k n : Int) (who mill to : ByteArray) (w : World) (h0 : -9223372036854775808 ≤ n) (h1 : n ≤ 9223372036854775807) (hg : Glob w) :
    Calls Tryd.prog 25 #[.agg #[.int .i64 k, .string who, .string mill, .string to, .int .i64 n]] w (WordsL (wordsP ⟨k, who, mill, to, n⟩) w) := by
  by_cases hk : 1 ≤ k ∧ k ≤ 11
  · rw [wordsP_in (d := ⟨k, who, mill, to, n⟩) hk.1 hk.2]
    rcases kinds hk.1 hk.2 with rfl | rfl | rfl | rfl | rfl | rfl | rfl | rfl | rfl | rfl | rfl
    · exact iwords_1 n who mill to w h0 h1 hg
    · exact iwords_2 n who mill to w h0 h1 hg
    · exact iwords_3 n who mill to w h0 h1 hg
    · exact iwords_4 n who mill to w h0 h1 hg
    · exact iwords_5 n who mill to w h0 h1 hg
    · exact iwords_6 n who mill to w h0 h1 hg
    · exact iwords_7 n who mill to w h0 h1 hg
    · exact iwords_8 n who mill to w h0 h1 hg
    · exact iwords_9 n who mill to w h0 h1 hg
    · exact iwords_10 n who mill to w h0 h1 hg
    · exact iwords_11 n who mill to w h0 h1 hg
  · have hk' : k < 1 ∨ 11 < k := by omega
    rw [wordsP_out (d := ⟨k, who, mill, to, n⟩) hk']
    exact iwords_no hk' n who mill to w
set_option maxHeartbeats 2000000 in
set_option maxRecDepth 100000 in
theorem iDeedOk_any (k n : Int) (who mill to : ByteArray) (w : World) (h1 : who.size ≤ 281474976710656) (h2 : mill.size ≤ 281474976710656) (h3 : to.size ≤ 281474976710656) (hn0 : -9223372036854775808 ≤ n) (hn1 : n ≤ 9223372036854775807) (hg : Glob w) (h8 : 8 ≤ w.heap.size) :
    Calls Tryd.prog 10 #[.agg #[.int .i64 k, .string who, .string mill, .string to, .int .i64 n]] w fun e w' => e = .returned (.bool (deedB ⟨k, who, mill, to, n⟩)) ∧ Below w.heap.size w w' := by
  have HN0 := Lib.hid hn0
  have HN1 := Lib.hid hn1
  have HG := Lib.hid hg
  have H8 := Lib.hid h8
  have HX := Lib.hid (RecAt.new Dee.cs w ⟨k, who, mill, to, n⟩ 26)
  have B0 := Lib.hid (below_new w (.cells #[.int .i64 k, .string who, .string mill, .string to, .int .i64 n] 26))
  obtain ⟨W, hW⟩ : ∃ W, w.alloc (.cells #[.int .i64 k, .string who, .string mill, .string to, .int .i64 n] 26) = W := ⟨_, rfl⟩
  rw [show w.alloc (.cells (Dee.cs ⟨k, who, mill, to, n⟩).toArray 26) = W from hW] at HX
  rw [hW] at B0
  have HSZ := Lib.hid (wordsP_size (d := ⟨k, who, mill, to, n⟩) (m := 281474976710656) (by omega) hn0 hn1 h1 h2 h3)
  obtain ⟨x0, rest, hxs⟩ := wordsP_cons ⟨k, who, mill, to, n⟩
  have HRY := Lib.hid (fun h => readP_right (d := ⟨k, who, mill, to, n⟩) h)
  have HRN := Lib.hid (fun h r e => readP_wrong (d := ⟨k, who, mill, to, n⟩) (r := r) h e)
  rw [hxs] at HSZ HRY HRN
  have HXS := Lib.hid hxs
  clear hn0 hn1 hg h8 h1 h2 h3 hxs
  have c0 := HX.out 0 _ rfl
  have c1 := HX.out 1 _ rfl
  have c2 := HX.out 2 _ rfl
  have c3 := HX.out 3 _ rfl
  have c4 := HX.out 4 _ rfl
  go_enter Tryd.func10, Tryd.ntmps10
  go_wp2_with fail
  refine (iwords_any k n who mill to _ HN0.out HN1.out (HG.out.below B0.out)).mono ?_
  rintro e w1 ⟨g, rfl, hgl, hcells, hb1⟩
  rw [HXS.out] at hcells ⊢
  have HC := Lib.hid hcells
  have HGL := Lib.hid hgl
  have B1 := Lib.hid (below_trans B0.out hb1)
  have HX1 := Lib.hid (HX.out.below hb1)
  clear hcells hgl hb1 c0 c1 c2 c3 c4
  go_wp2_with fail
  refine (deedIn_any (b := g) (off := 0) (c := (x0 :: rest).length) (x0 := x0) (rest := rest) HC.out HGL.out (Nat.le_refl _) (by have := HSZ.out.2; simp at this; omega) HSZ.out.1 (HG.out.below B1.out) (Nat.le_trans H8.out B1.out.size)).mono ?_
  rintro e w2 ⟨rfl, hb2⟩
  have B2 := Lib.hid (below_trans B1.out hb2)
  have HX2 := Lib.hid (HX1.out.below hb2)
  clear hb2 hW
  cases ho : readW (x0 :: rest) (placeV wordsS x0 + 1) with
  | none =>
    have HN := Lib.hid (show deedB ⟨k, who, mill, to, n⟩ = false by
      cases q : deedB ⟨k, who, mill, to, n⟩ with
      | false => rfl
      | true =>
        have e := HRY.out q
        rw [show sat (x0 :: rest) 0 = x0 from rfl, ho] at e; cases e)
    have B3 := Lib.hid (below_trans B2.out (below_new w2 (.cells #[.int .i64 0, .string ByteArray.empty, .string ByteArray.empty, .string ByteArray.empty, .int .i64 0] 26)))
    clear ho
    simp only [Option.getD_none, Option.isSome_none, zeroD]
    go_wp2
    go_ret
    exact ⟨by rw [HN.out]; rfl, B3.out⟩
  | some r =>
    have B3 := Lib.hid (below_trans B2.out (below_new w2 (.cells #[.int .i64 r.kind, .string r.who, .string r.mill, .string r.to, .int .i64 r.n] 26)))
    have hlt := lt_of_cell (HX2.out 0 _ rfl)
    have c0 := HX2.out 0 _ rfl
    have c1 := HX2.out 1 _ rfl
    have c2 := HX2.out 2 _ rfl
    have c3 := HX2.out 3 _ rfl
    have c4 := HX2.out 4 _ rfl
    by_cases hr : r = ⟨k, who, mill, to, n⟩
    · have HN := Lib.hid (show deedB ⟨k, who, mill, to, n⟩ = true from hr ▸ readW_right ho)
      have heq := eq_Dee_t hr
      simp only at heq
      clear ho hr
      simp only [Option.getD_some, Option.isSome_some]
      go_wp2
      go_ret
      exact ⟨by rw [HN.out]; rfl, B3.out⟩
    · have HN := Lib.hid (show deedB ⟨k, who, mill, to, n⟩ = false by
        cases q : deedB ⟨k, who, mill, to, n⟩ with
        | false => rfl
        | true =>
          have e := HRY.out q
          rw [show sat (x0 :: rest) 0 = x0 from rfl, ho] at e
          exact absurd (Option.some.inj e) hr)
      have heq := eq_Dee_f hr
      simp only at heq
      clear ho hr
      simp only [Option.getD_some, Option.isSome_some]
      go_wp2
      go_ret
      exact ⟨by rw [HN.out]; rfl, B3.out⟩
end Go.Proofs.YtiijagmakkgnnaaDoor
namespace Go.Proofs.YtiijagmakkgnnaaDoor
open Go.ChangeShapes Go.WideShapes Go.ChangeAt Go.RowKit

theorem index_one (x : ByteArray) (c : UInt8) : Lib.index x.data.toList [c] = Lib.indexByte x.data.toList c := by
  have := Lib.one x ⟨#[c]⟩ rfl
  have e : (((((⟨#[c]⟩ : ByteArray)[0]'(Nat.lt_succ_self 0)).toNat : Nat) : Int)).toNat.toUInt8 = c := by
    show (((c.toNat : Nat) : Int)).toNat.toUInt8 = c
    simp
  rw [e] at this; exact this
set_option maxHeartbeats 1000000 in
set_option maxRecDepth 100000 in
/-- strings.SplitN at one byte. -/
theorem splitN_any (s : ByteArray) (c : UInt8) (n : Nat) (w : World) (hs : s.size < 4294967281) (hn : 1 ≤ n) (hn63 : n ≤ 9223372036854775807) :
    Calls Tryd.prog 31 #[.string s, .string ⟨#[c]⟩, .int .i64 n] w fun e w' =>
      e = .returned (.slice (some ⟨w.heap.size, 0, none⟩) (Lib.splitB ⟨#[c]⟩ 0 (min n (s.size + 1) - 1) s).length (min n (s.size + 1))) ∧ w' = w.alloc (.cells (Lib.cellsOf (Lib.splitB ⟨#[c]⟩ 0 (min n (s.size + 1) - 1) s) (min n (s.size + 1))) 9) := by
  have L := laySplitN
  have hI := fun (x : ByteArray) (cs : Array Value) (_ : x.size ≤ s.size) => (Any.strings_Index_one (ρ := laySplitN_ren) { L with } x c (w.alloc (.cells cs (laySplitN_ren.t 9)))).mono (R' := fun e w' => e = .returned (.int .i64 (Lib.index x.data.toList [c])) ∧ w' = w.alloc (.cells cs (laySplitN_ren.t 9))) fun e w' h => ⟨by rw [h.1, index_one], h.2⟩
  have hC := (Any.strings_Count_one (ρ := laySplitN_ren) { L with } s c w).mono (R' := fun e w' => e = .returned (.int .i64 ((Lib.count s.data.toList [c] : Nat) : Int)) ∧ w' = w) fun e w' h => ⟨by rw [h.1, Lib.count_one]; rfl, h.2⟩
  have h := Any.strings_genSplit_core (ρ := laySplitN_ren) { L with } L.i9 s ⟨#[c]⟩ 0 (n : Int) (min n (s.size + 1)) w hs (Nat.le_refl _) (Nat.zero_le _) hI hC (by omega) (by omega) (by rw [if_neg (by omega)]; omega)
  have H := Lib.hid h
  clear h hI hC
  go_enter Tryd.func31, Tryd.ntmps31
  go_wp2_with fail
  refine H.out.mono ?_
  rintro e w' ⟨rfl, hw⟩
  rw [hw]
  go_wp2
  go_ret
  exact ⟨rfl, rfl⟩
theorem split_cells {w : World} {p : List ByteArray} {N : Nat} : ∀ k u, p[k]? = some u → (w.alloc (.cells (Lib.cellsOf p N) 9)).cell? ⟨w.heap.size, 0 + k, none⟩ = some (.string u) := by
  intro k u hk
  rw [Nat.zero_add, World.cell?_alloc_mark]
  unfold Lib.cellsOf
  have hk' : k < p.length := by
    rcases Nat.lt_or_ge k p.length with h | h
    · exact h
    · rw [List.getElem?_eq_none h] at hk; cases hk
  rw [List.getElem?_toArray, List.getElem?_append_left (by simpa using hk'), List.getElem?_map, hk]; rfl

set_option maxHeartbeats 1000000 in
set_option maxRecDepth 100000 in
theorem iShowDeed_any (k n : Int) (who mill to : ByteArray) (w : World) (h1 : who.size ≤ 1048576) (h2 : mill.size ≤ 1048576) (h3 : to.size ≤ 1048576) (hn0 : -9223372036854775808 ≤ n) (hn1 : n ≤ 9223372036854775807) (hg : Glob w) (h8 : 8 ≤ w.heap.size) :
    Calls Tryd.prog 12 #[.agg #[.int .i64 k, .string who, .string mill, .string to, .int .i64 n]] w fun e w' => e = .returned (.string (showB ⟨k, who, mill, to, n⟩)) ∧ Below w.heap.size w w' := by
  have HN0 := Lib.hid hn0
  have HN1 := Lib.hid hn1
  have HG := Lib.hid hg
  have H8 := Lib.hid h8
  have HS1 := Lib.hid h1
  have HS2 := Lib.hid h2
  have HS3 := Lib.hid h3
  have HX := Lib.hid (RecAt.new Dee.cs w ⟨k, who, mill, to, n⟩ 26)
  have B0 := Lib.hid (below_new w (.cells #[.int .i64 k, .string who, .string mill, .string to, .int .i64 n] 26))
  obtain ⟨W, hW⟩ : ∃ W, w.alloc (.cells #[.int .i64 k, .string who, .string mill, .string to, .int .i64 n] 26) = W := ⟨_, rfl⟩
  rw [show w.alloc (.cells (Dee.cs ⟨k, who, mill, to, n⟩).toArray 26) = W from hW] at HX
  rw [hW] at B0
  have HSZ := Lib.hid (wordsP_size (d := ⟨k, who, mill, to, n⟩) (m := 1048576) (by omega) hn0 hn1 h1 h2 h3)
  clear hn0 hn1 hg h8 h1 h2 h3
  have c0 := HX.out 0 _ rfl
  have c1 := HX.out 1 _ rfl
  have c2 := HX.out 2 _ rfl
  have c3 := HX.out 3 _ rfl
  have c4 := HX.out 4 _ rfl
  go_enter Tryd.func12, Tryd.ntmps12
  go_wp2_with fail
  refine (iDeedOk_any k n who mill to _ (by have := HS1.out; omega) (by have := HS2.out; omega) (by have := HS3.out; omega) HN0.out HN1.out (HG.out.below B0.out) (Nat.le_trans H8.out B0.out.size)).mono ?_
  rintro e w1 ⟨rfl, hb1⟩
  have B1 := Lib.hid (below_trans B0.out hb1)
  have HX1 := Lib.hid (HX.out.below hb1)
  clear hb1 c0 c1 c2 c3 c4
  cases hok : deedB ⟨k, who, mill, to, n⟩
  · have HN := Lib.hid (show showB ⟨k, who, mill, to, n⟩ = ByteArray.empty by rw [showB, hok]; rfl)
    clear hok
    go_wp2
    go_ret
    exact ⟨by rw [HN.out]; rfl, B1.out⟩
  have HJ := Lib.hid (join_show hok)
  clear hok hW
  obtain ⟨xs, hxs⟩ : ∃ xs, wordsP ⟨k, who, mill, to, n⟩ = xs := ⟨_, rfl⟩
  rw [hxs] at HSZ HJ
  have HXS := Lib.hid hxs
  clear hxs
  have c0 := HX1.out 0 _ rfl
  have c1 := HX1.out 1 _ rfl
  have c2 := HX1.out 2 _ rfl
  have c3 := HX1.out 3 _ rfl
  have c4 := HX1.out 4 _ rfl
  go_wp2_with fail
  refine (iwords_any k n who mill to _ HN0.out HN1.out (HG.out.below B1.out)).mono ?_
  rintro e w2 ⟨g, rfl, hgl, hcells, hb2⟩
  rw [HXS.out] at hcells ⊢
  have HC := Lib.hid hcells
  have HGL := Lib.hid hgl
  have B2 := Lib.hid (below_trans B1.out hb2)
  clear hcells hgl hb2 c0 c1 c2 c3 c4
  go_wp2_with fail
  refine (Any.strings_Join layJoin extraJoin g 0 xs.length xs ⟨#[32]⟩ _ HC.out HGL.out (by have := HSZ.out.2; omega) (Nat.le_refl _) (by
    rw [show (⟨#[32]⟩ : ByteArray).data.toList = [32] from rfl, joinT_join]
    have h1 := joinL_len 32 1048576 (xs.map (·.data.toList)) (fun x hx => by obtain ⟨y, hy, rfl⟩ := List.mem_map.mp hx; exact HSZ.out.1 y hy)
    have h2 := HSZ.out.2
    rw [List.length_map] at h1
    have h3 : (1048576 + 1) * xs.length ≤ (1048576 + 1) * 5 := Nat.mul_le_mul_left _ h2
    omega)).mono ?_
  rintro e w3 ⟨rfl, hb3⟩
  have B3 := Lib.hid (below_trans B2.out hb3)
  clear hb3
  rw [show (⟨#[32]⟩ : ByteArray).data.toList = [32] from rfl, HJ.out]
  go_wp2
  go_ret
  exact ⟨rfl, B3.out⟩

set_option maxHeartbeats 1000000 in
set_option maxRecDepth 100000 in
theorem iReadDeed_any (s : ByteArray) (w : World) (hs : s.size ≤ 1048576) (hg : Glob w) (h8 : 8 ≤ w.heap.size) :
    Calls Tryd.prog 19 #[.string s] w (ReadD s w) := by
  have HS := Lib.hid hs
  have HG := Lib.hid hg
  have H8 := Lib.hid h8
  clear hs hg h8
  have B0 := Lib.hid (below_new w (.cells #[.int .i64 0, .string ⟨#[]⟩, .string ⟨#[]⟩, .string ⟨#[]⟩, .int .i64 0] 26))
  have Z0 := Lib.hid (ZeroAt.new w)
  obtain ⟨W0, hW0⟩ : ∃ W0, w.alloc zeroO = W0 := ⟨_, rfl⟩
  rw [hW0] at Z0
  rw [show w.alloc (.cells #[.int .i64 0, .string ⟨#[]⟩, .string ⟨#[]⟩, .string ⟨#[]⟩, .int .i64 0] 26) = W0 from hW0] at B0
  have HW0 := Lib.hid hW0
  clear hW0
  have HRD := Lib.hid (read_six s)
  have hlen := Lib.splitB_length_le ⟨#[32]⟩ 0 (min 6 (s.size + 1) - 1) s
  have hsz : ∀ x ∈ Lib.splitB ⟨#[32]⟩ 0 (min 6 (s.size + 1) - 1) s, x.size ≤ 281474976710656 := by
    have hh := HS.out
    intro x hx
    have := split_size (c := 32) s _ x hx
    omega
  have hne : Lib.splitB ⟨#[32]⟩ 0 (min 6 (s.size + 1) - 1) s ≠ [] := split_ne _ _ _
  go_enter Tryd.func19, Tryd.ntmps19
  go_wp2_with fail
  refine (splitN_any s 32 6 _ (by have := HS.out; omega) (by omega) (by omega)).mono ?_
  rintro e w1 ⟨rfl, hw1⟩
  rw [show w.alloc (.cells #[.int .i64 0, .string ⟨#[]⟩, .string ⟨#[]⟩, .string ⟨#[]⟩, .int .i64 0] 26) = W0 from HW0.out] at hw1 ⊢
  obtain ⟨p, hp⟩ : ∃ p, Lib.splitB ⟨#[32]⟩ 0 (min 6 (s.size + 1) - 1) s = p := ⟨_, rfl⟩
  rw [hp] at hw1 HRD hlen hsz hne ⊢
  clear hp
  obtain ⟨x0, rest, rfl⟩ : ∃ x0 rest, p = x0 :: rest := by
    cases p with
    | nil => exact absurd rfl hne
    | cons x r => exact ⟨x, r, rfl⟩
  have HC := Lib.hid (split_cells (w := W0) (p := x0 :: rest) (N := min 6 (s.size + 1)))
  rw [← hw1] at HC
  have hb1 : Below W0.heap.size W0 w1 := by rw [hw1]; exact below_new _ _
  have hgl : W0.heap.size < w1.heap.size := by rw [hw1, size_alloc]; exact Nat.lt_succ_self _
  have B1 := Lib.hid (below_trans B0.out hb1)
  have Z1 := Lib.hid (Z0.out.step hb1)
  have HGL := Lib.hid hgl
  have HSZ := Lib.hid hsz
  have HLN := Lib.hid hlen
  clear hw1 hb1 hgl hsz hlen hne
  go_wp2_with fail
  refine (deedIn_any (b := W0.heap.size) (off := 0) (c := min 6 (s.size + 1)) (x0 := x0) (rest := rest) HC.out HGL.out (by have := HLN.out; simp at this; omega) (by have := HLN.out; simp at this; omega) HSZ.out (HG.out.below B1.out) (Nat.le_trans H8.out B1.out.size)).mono ?_
  rintro e w2 ⟨rfl, hb2⟩
  rw [show readW (x0 :: rest) (placeV wordsS x0 + 1) = readB s from HRD.out]
  have B2 := Lib.hid (below_trans B1.out hb2)
  have Z2 := Lib.hid (Z1.out.step hb2)
  clear hb2
  have r0 := Z2.out.c0
  have r1 := Z2.out.c1
  have r2 := Z2.out.c2
  have r3 := Z2.out.c3
  have r4 := Z2.out.c4
  have rf := Z2.out.fz
  obtain ⟨o, ho⟩ : ∃ o, readB s = o := ⟨_, rfl⟩
  rw [ho]
  have HO := Lib.hid ho
  clear ho
  go_wp2
  exact bodyPost_ret (v := .tuple #[.agg #[.int .i64 (o.getD (zeroD 0)).kind, .string (o.getD (zeroD 0)).who, .string (o.getD (zeroD 0)).mill, .string (o.getD (zeroD 0)).to, .int .i64 (o.getD (zeroD 0)).n], .bool o.isSome]) (by simp [results, Tryd.results19, go_sem, r0, r1, r2, r3, r4]) rfl ⟨by rw [HO.out], below_set5 B2.out (Nat.le_refl _) _ _ _ _ _⟩
end Go.Proofs.YtiijagmakkgnnaaDoor
namespace Go.Proofs.YtiijagmakkgnnaaDoor
open Go.ChangeShapes Go.WideShapes Go.ChangeAt Go.RowKit

theorem resL_nil {w w' : World} (h : Below w.heap.size w w') : ResL none w (.returned (.tuple #[.slice none 0 0, .bool false])) w' :=
  ⟨none, 0, rfl, ⟨fun k u hk => by simp at hk, .inl rfl⟩, h⟩
theorem resL_empty {w w' : World} (h : Below w.heap.size w w') : ResL (some []) w (.returned (.tuple #[.slice none 0 0, .bool true])) w' :=
  ⟨none, 0, rfl, ⟨fun k u hk => by simp at hk, .inl rfl⟩, h⟩
set_option maxHeartbeats 16000000 in
set_option maxRecDepth 100000 in
theorem iReadDeeds_any (s : ByteArray) (w : World) (hs : s.size ≤ 1048576) (hg : Glob w) (h8 : 8 ≤ w.heap.size) :
    Calls Tryd.prog 14 #[.string s] w (ResL (readsB s) w) := by
  obtain ⟨i0, hi, hz0, hz1, hz2⟩ := info_parts info_Deed
  have HI := Lib.hid hi
  have HZ0 := Lib.hid hz0
  have HZ1 := Lib.hid hz1
  have HZ2 := Lib.hid hz2
  have HS := Lib.hid hs
  have HG := Lib.hid hg
  have H8 := Lib.hid h8
  clear hi hz0 hz1 hz2 hs hg h8
  cases hq : (s.toList == [])
  case true =>
    have h0 : s.toList = [] := by simpa using hq
    have HN := Lib.hid (show readsB s = some [] from by rw [readsB, if_pos h0])
    go_enter Tryd.func14, Tryd.ntmps14
    go_wp2
    go_ret2
    rw [HN.out]
    exact resL_empty (Below.refl _ _)
  have HE := Lib.hid (reads_twenty s (by simpa using hq))
  have hlen := Lib.splitB_length_le ⟨#[59]⟩ 0 (min 21 (s.size + 1) - 1) s
  have hsz := split_size (c := 59) s (min 21 (s.size + 1) - 1)
  have hne : Lib.splitB ⟨#[59]⟩ 0 (min 21 (s.size + 1) - 1) s ≠ [] := split_ne _ _ _
  go_enter Tryd.func14, Tryd.ntmps14
  go_wp2_with fail
  refine (splitN_any s 59 21 _ (by have := HS.out; omega) (by omega) (by omega)).mono ?_
  rintro e w1 ⟨rfl, hw1⟩
  obtain ⟨ss, hp⟩ : ∃ p, Lib.splitB ⟨#[59]⟩ 0 (min 21 (s.size + 1) - 1) s = p := ⟨_, rfl⟩
  rw [hp] at hw1 HE hlen hsz hne ⊢
  have hls : ss.length ≤ 21 := by omega
  have hst : Strs w1 (some ⟨w.heap.size, 0, none⟩) ss := by
    intro k u hk
    rw [List.getElem?_map] at hk
    obtain ⟨x, hx, rfl⟩ := Option.map_eq_some_iff.mp hk
    exact ⟨_, _, rfl, by rw [hw1]; exact split_cells k x hx⟩
  have hb1 : Below w.heap.size w w1 := by rw [hw1]; exact below_new _ _
  have hgl : w.heap.size < w1.heap.size := by rw [hw1, size_alloc]; exact Nat.lt_succ_self _
  have HST := Lib.hid hst
  have B1 := Lib.hid hb1
  have HGL := Lib.hid hgl
  have HSM := Lib.hid hsz
  obtain ⟨N, hN⟩ : ∃ N, min 21 (s.size + 1) = N := ⟨_, rfl⟩
  rw [hN]
  clear hp hw1 hst hb1 hgl hsz hne hq hlen hN
  by_cases h20 : 20 < ss.length
  · have HN := Lib.hid (show readsB s = none from HE.out.trans (if_pos h20))
    go_wp2
    go_ret2
    rw [HN.out]
    exact resL_nil B1.out
  have HE2 := Lib.hid (show readsB s = readAll ss [] from HE.out.trans (if_neg h20))
  have hl20 : ss.length ≤ 20 := by omega
  have HR := Lib.hid (show RdsRel s ss w w.heap.size 0 0 [] (.slice none 0 0) w1 from
    ⟨⟨by simp, .inl ⟨rfl, rfl⟩⟩, by rw [List.drop_zero, HE2.out], HST.out, B1.out, Nat.zero_le _, fun g hg => by simp [Value.ownBlock] at hg, HGL.out⟩)
  clear HE HST h20 hls
  go_wp2_with fail
  go_loopw [5, 19] (fun v i wr => ∃ (j : Nat) (out : List Dee), j ≤ ss.length ∧ out.length = j ∧ i = .int .i64 j ∧ RdsRel s ss w w.heap.size 0 j out v wr) (fun _ i _ => ss.length - (intOf i).toNat)
  case atStart => exact ⟨0, [], Nat.zero_le _, rfl, rfl, HR.out⟩
  case round =>
    clear HR
    obtain ⟨j, out, hj, hoj, rfl, hr⟩ := hrel
    have HOJ := Lib.hid hoj
    have HR := Lib.hid hr
    clear hr hoj
    by_cases hlt : j < ss.length
    · obtain ⟨b', off', e', hcj⟩ := strs_sat HR.out.st j hlt
      obtain ⟨rfl, rfl⟩ : w.heap.size = b' ∧ 0 = off' := by injection e' with e'; injection e' with e1 e2; exact ⟨e1, e2⟩
      clear e'
      have HCJ := Lib.hid hcj
      have hcj' := HCJ.out
      rw [Nat.zero_add] at hcj'
      have HSJ := Lib.hid (sat_size HSM.out j)
      have HA := Lib.hid (HR.out.all.symm.trans (readAll_at hlt))
      obtain ⟨av, cv, hv, _, _⟩ := ownR_of Dee.len HR.out.own
      subst hv
      go_wp2_with fail
      refine (iReadDeed_any (sat ss j) _ (by have := HSJ.out; have := HS.out; omega) (HG.out.below HR.out.below) (Nat.le_trans H8.out HR.out.below.size)).mono ?_
      rintro e w2 ⟨rfl, hb2⟩
      have HR2 := Lib.hid (HR.out.step hb2)
      clear hb2 HR hcj hcj'
      cases ho : readB (sat ss j) with
      | none =>
        rw [ho] at HA
        have HNO := Lib.hid (show readsB s = none from HA.out)
        simp only [Option.getD_none, Option.isSome_none, zeroD]
        go_wp2
        go_ret2
        rw [HNO.out]
        exact resL_nil (below_trans HR2.out.below (below_new _ _))
      | some d =>
        rw [ho] at HA
        have hfew := HR2.out.few
        have hol := HOJ.out
        have HNX := Lib.hid (show readsB s = readAll (ss.drop (j + 1)) (out ++ [d]) from HA.out.trans (if_neg (by omega)))
        have HOW := Lib.hid (((HR2.out.own.alloc (.cells #[.int .i64 d.kind, .string d.who, .string d.mill, .string d.to, .int .i64 d.n] 26)).alloc (.cells #[.int .i64 d.kind, .string d.who, .string d.mill, .string d.to, .int .i64 d.n] 26)))
        have hle2 : w.heap.size ≤ w2.heap.size := HR2.out.below.size
        have HBL := Lib.hid (own_lo HR2.out.own)
        simp only [Option.getD_some, Option.isSome_some]
        clear hol
        go_wp2_with (at_builtin; refine wpList_append_lies _ rfl _ _ 30 rfl w.heap.size 26 i0 (.agg #[.int .i64 0, .string ByteArray.empty, .string ByteArray.empty, .string ByteArray.empty, .int .i64 0]) 5 64 Tryd.underlying30 HI.out HZ0.out HZ1.out HZ2.out rfl (by decide) _ _ _ rfl HOW.out ⟨w2.heap.size + 1, 0, none⟩ 1 1 ([d].flatMap Dee.cs) rfl ?c0 ?c1 (flat_one Dee.one _) (by decide) ?c3 ?c4 ?c5 _ rfl ?_)
        case c0 => rfl
        case c1 =>
          intro k u hk
          simpa [Dee.cs] using hk
        case c3 => exact Nat.le_of_lt (by unfold maxLen; omega)
        case c4 => omega
        case c5 => omega
        intro g6 c6 w6 hown6 hgrow hat hlt6
        have HR3 := Lib.hid (RdsRel.more (d := d) HR2.out HNX.out (by have := HOJ.out; omega) hown6 hgrow hat)
        have HO3 := Lib.hid (show (out ++ [d]).length = j + 1 by rw [List.length_append, HOJ.out]; rfl)
        clear hown6 hgrow hat hlt6
        go_wp2
        go_roundw
        case rel => exact ⟨j + 1, out ++ [d], by omega, HO3.out, by go_num, HR3.out⟩
        case measure => simp [intOf]; omega
    · obtain rfl : j = ss.length := by omega
      have HN := Lib.hid (resL_some HR.out)
      obtain ⟨av, cv, hv, _, _⟩ := ownR_of Dee.len HR.out.own
      subst hv
      go_wp2
      go_ret2
      exact HN.out
end Go.Proofs.YtiijagmakkgnnaaDoor
namespace Go.Proofs.YtiijagmakkgnnaaDoor
open Go.ChangeShapes Go.WideShapes Go.ChangeAt Go.RowKit

set_option maxRecDepth 100000 in
theorem laidOut : laidOutB Tryd.prog = true := by kernel_rfl
set_option maxRecDepth 100000 in
theorem ownKnobNone : ownKnob Tryd.prog.godebug = none := by kernel_rfl

set_option maxRecDepth 100000 in
theorem arg_strs {H : Type} {enc : TypeId × Value → H} {W : World} {r : Reach} {base : Nat} {v : Value} {d : DataW H} {p : List MemPlace}
    (hv : Value.okWide Tryd.prog W r base 43 v) (h : DataW.Trod enc Tryd.prog W 0 (fun _ => true) true 43 v d p) :
    ∃ a cap ss, v = .slice a ss.length cap ∧ Strs W a ss ∧ ss.length ≤ 9223372036854775807 ∧ ∀ s ∈ ss, s.size ≤ 9223372036854775807 := by
  obtain ⟨a0, len, cap, rfl⟩ := okWide_slice Tryd.underlying43 hv
  obtain ⟨fuel, hf⟩ := h
  rcases open_strings Tryd.underlying43 Tryd.underlying9 (by kernel_rfl) hf with ⟨hcs, _⟩ | ⟨x, l, c, ss, hcs, _, hl, hm, hz, _, hcell, hsz⟩
  · simp [Value.cells] at hcs
    obtain ⟨rfl, rfl, rfl⟩ := hcs
    exact ⟨none, 0, [], rfl, Lies.nil _ _, by simp, by simp⟩
  · simp [Value.cells] at hcs
    obtain ⟨rfl, rfl, rfl⟩ := hcs
    simp only [if_true] at hz
    have hlen : (ss.take len).length = len := by simp; omega
    refine ⟨some x, cap, ss.take len, by rw [hlen], ?_, ?_, fun s hs => ?_⟩
    · intro k v hk
      have hkl : k < (ss.take len).length := by
        have := (List.getElem?_eq_some_iff.1 hk).1
        simpa using this
      have hks : k < ss.length := by omega
      have hv : v = .string (ss.getD k ByteArray.empty) := by
        rw [List.getElem?_map, List.getElem?_take_of_lt (by omega), List.getElem?_eq_getElem hks] at hk
        simp only [Option.map_some, Option.some.injEq] at hk
        rw [← hk, List.getD_eq_getElem?_getD, List.getElem?_eq_getElem hks, Option.getD_some]
      subst hv
      obtain ⟨b, off, spot⟩ := x
      have hc := hcell k hks
      have h0 := hcell 0 (by omega)
      have hspot : spot = none := by simpa [Addr.add] using World.cell?_spot h0
      subst hspot
      exact ⟨b, off, rfl, by rw [← Go.WideShapes.add_plain]; exact hc⟩
    · rw [hlen]; unfold maxLen at hm; omega
    · have := hsz s (List.mem_of_mem_take hs); unfold maxLen at this; omega
end Go.Proofs.YtiijagmakkgnnaaDoor
namespace Go.Proofs.YtiijagmakkgnnaaDoor
open Go.ChangeShapes Go.WideShapes Go.ChangeAt Go.RowKit

section
variable {H : Type} {enc : TypeId × Value → H} {W : World}

set_option maxRecDepth 100000 in
/-- A record whose fields are of one cell each: each cell reads by its field's type. -/
theorem rec_fields {P : Program} {t : TypeId} {fs : Array Field} {fuel : Nat} {cs : List Value} {x : DataW H × List MemPlace} (hs : P.underlying t = some (.struct fs)) (hone : Go.Deep.oneCellFields P fs = true) (hC : P.cellsOf t = fs.size)
    (h : DataW.trod enc P W 0 (fun _ => true) true fuel t cs = some x) :
    cs.length = fs.size ∧ ∃ n, ∀ (j : Nat) (f : Field), fs[j]? = some f → ∃ v y, cs[j]? = some v ∧ DataW.trod enc P W 0 (fun _ => true) true n f.type [v] = some y := by
  obtain ⟨xs, n, _, _, hl, hxl, hf⟩ := DataW.trod_struct hs h
  rw [hC] at hl
  refine ⟨hl, n, fun j f hj => ?_⟩
  obtain ⟨ho, hk⟩ := Go.Deep.hone_of hone j f hj
  have hjl : j < fs.size := (Array.getElem?_eq_some_iff.1 hj).1
  have hjc : j < cs.length := by omega
  have hjx : j < xs.length := by omega
  have h1 := hf j f hj
  rw [ho, hk, List.drop_eq_getElem_cons hjc, List.take_succ_cons, List.take_zero] at h1
  exact ⟨cs[j], xs[j], List.getElem?_eq_getElem hjc, by rw [h1]; exact List.getElem?_eq_getElem hjx⟩

set_option maxRecDepth 100000 in
theorem list_choose {α : Type} {Q : Nat → α → Prop} : ∀ (n : Nat), (∀ i, i < n → ∃ x, Q i x) → ∃ xs : List α, xs.length = n ∧ ∀ k (h : k < xs.length), Q k xs[k]
  | 0, _ => ⟨[], rfl, fun k h => by simp at h⟩
  | n + 1, h => by
    obtain ⟨xs, hl, hq⟩ := list_choose n (fun i hi => h i (by omega))
    obtain ⟨x, hx⟩ := h n (by omega)
    refine ⟨xs ++ [x], by simp [hl], fun k hk => ?_⟩
    by_cases e : k < xs.length
    · rw [List.getElem_append_left e]; exact hq k e
    · have : k = xs.length := by simp at hk; omega
      subst this
      rw [List.getElem_append_right (Nat.le_refl _)]
      simp only [Nat.sub_self, List.getElem_cons_zero, hl]
      exact hx

set_option maxRecDepth 100000 in
/-- A list of records. -/
theorem arg_recs {α : Type} {f : α → List Value} {c : Nat} {Z : α → Prop} {P : Program} {t e : TypeId} {r : Reach} {b0 : Nat} {v : Value} {d : DataW H} {p : List MemPlace}
    (ht : P.underlying t = some (.slice e)) (hC : P.cellsOf e = c) (hc : ∀ x, (f x).length = c) (h0 : 0 < c)
    (each : ∀ fuel cs x, DataW.trod enc P W 0 (fun _ => true) true fuel e cs = some x → ∃ r : α, cs = f r ∧ Z r)
    (hv : Value.okWide P W r b0 t v) (h : DataW.Trod enc P W 0 (fun _ => true) true t v d p) :
    ∃ a cap xs, v = .slice a xs.length cap ∧ Recs f W a xs ∧ xs.length ≤ 9223372036854775807 ∧ ∀ x ∈ xs, Z x := by
  obtain ⟨a0, len, cap, rfl⟩ := okWide_slice ht hv
  obtain ⟨fuel, hf⟩ := h
  rcases Go.Deep.open_slice ht hf with ⟨hcs, _⟩ | ⟨ad, l, cc, m, n, D, Pl, hcs, _, hl, hm, hmm, _, hi⟩
  · simp [Value.cells] at hcs
    obtain ⟨rfl, rfl, rfl⟩ := hcs
    exact ⟨none, 0, [], rfl, Lies.nil _ _, by simp, by simp⟩
  · simp [Value.cells] at hcs
    obtain ⟨rfl, rfl, rfl⟩ := hcs
    simp only [if_true] at hmm
    subst hmm
    have hall : ∀ i, i < len → ∃ x : α, (∀ j v, (f x)[j]? = some v → W.cell? (ad.add (i * c + j)) = some v) ∧ Z x := by
      intro i hlt
      obtain ⟨cs', hcells, htr⟩ := hi i (by omega)
      obtain ⟨x, rfl, hz⟩ := each _ _ _ htr
      obtain ⟨_, hlen, hat⟩ := World.cells?_some hcells
      refine ⟨x, fun j v hj => ?_, hz⟩
      have hjl : j < P.cellsOf e := by rw [← hlen]; exact (List.getElem?_eq_some_iff.1 hj).1
      have := hat j hjl
      rw [hj, hC, Go.Deep.add_add] at this
      exact this
    obtain ⟨xs, hxl, hxs⟩ := list_choose len hall
    refine ⟨some ad, m, xs, by rw [hxl], ?_, ?_, ?_⟩
    · obtain ⟨b, off, spot⟩ := ad
      by_cases hpos : 0 < len
      · have hk0 : 0 < xs.length := by omega
        have hfl : 0 < (f xs[0]).length := by rw [hc]; exact h0
        have hc0 := (hxs 0 hk0).1 0 (f xs[0])[0] (List.getElem?_eq_getElem hfl)
        have hspot : spot = none := by simpa [Addr.add] using World.cell?_spot hc0
        subst hspot
        refine Recs.mk hc fun k hk j v hj => ?_
        have := (hxs k hk).1 j v hj
        rw [Go.WideShapes.add_plain] at this
        exact this
      · have : xs = [] := List.eq_nil_of_length_eq_zero (by omega)
        subst this
        exact Lies.nil _ _
    · rw [hxl]; unfold maxLen at hm; omega
    · intro x hx
      obtain ⟨k, hk, rfl⟩ := List.getElem_of_mem hx
      exact (hxs k hk).2

set_option maxRecDepth 100000 in
/-- A record by value. -/
theorem arg_rec {α : Type} {f : α → List Value} {Z : α → Prop} {P : Program} {t : TypeId} {fs : Array Field} {r : Reach} {b0 : Nat} {v : Value} {d : DataW H} {p : List MemPlace}
    (ht : P.underlying t = some (.struct fs)) (each : ∀ fuel cs x, DataW.trod enc P W 0 (fun _ => true) true fuel t cs = some x → ∃ r : α, cs = f r ∧ Z r)
    (hv : Value.okWide P W r b0 t v) (h : DataW.Trod enc P W 0 (fun _ => true) true t v d p) : ∃ x, v = .agg (f x).toArray ∧ Z x := by
  obtain ⟨cs, rfl, hsz⟩ := okWide_struct ht hv
  obtain ⟨fuel, hf⟩ := h
  obtain ⟨x, e, hz⟩ := each _ _ _ hf
  refine ⟨x, ?_, hz⟩
  rw [← e]
  simp [Value.cells]
end
end Go.Proofs.YtiijagmakkgnnaaDoor
namespace Go.Proofs.YtiijagmakkgnnaaDoor
open Go.ChangeShapes Go.WideShapes Go.ChangeAt Go.RowKit


set_option maxRecDepth 100000 in
theorem each_Deed {H : Type} {enc : TypeId × Value → H} {W : World} (fuel : Nat) (cs : List Value) (x : DataW H × List MemPlace) (h : DataW.trod enc Tryd.prog W 0 (fun _ => true) true fuel 23 cs = some x) : ∃ r : Dee, cs = r.cs ∧ r.fits := by
  obtain ⟨hl, n, hf⟩ := rec_fields Tryd.underlying23 (by kernel_rfl) (by kernel_rfl) h
  match cs, hl with
  | [c0, c1, c2, c3, c4], _ =>
    obtain ⟨u0, y0, e0, t0⟩ := hf 0 _ rfl
    injection e0 with e0; subst e0
    obtain ⟨v0, g0, _, _⟩ := DataW.trod_int Tryd.underlying2 t0
    injection g0 with g0 _; subst g0
    obtain ⟨u1, y1, e1, t1⟩ := hf 1 _ rfl
    injection e1 with e1; subst e1
    obtain ⟨v1, g1, _, s1⟩ := DataW.trod_string Tryd.underlying9 t1
    injection g1 with g1 _; subst g1
    obtain ⟨u2, y2, e2, t2⟩ := hf 2 _ rfl
    injection e2 with e2; subst e2
    obtain ⟨v2, g2, _, s2⟩ := DataW.trod_string Tryd.underlying9 t2
    injection g2 with g2 _; subst g2
    obtain ⟨u3, y3, e3, t3⟩ := hf 3 _ rfl
    injection e3 with e3; subst e3
    obtain ⟨v3, g3, _, s3⟩ := DataW.trod_string Tryd.underlying9 t3
    injection g3 with g3 _; subst g3
    obtain ⟨u4, y4, e4, t4⟩ := hf 4 _ rfl
    injection e4 with e4; subst e4
    obtain ⟨v4, g4, _, _⟩ := DataW.trod_int Tryd.underlying2 t4
    injection g4 with g4 _; subst g4
    unfold maxLen at s1 s2 s3
    exact ⟨⟨v0, v1, v2, v3, v4⟩, rfl, by simp only [Dee.fits]; omega⟩

set_option maxRecDepth 100000 in
theorem arg_Deed {H : Type} {enc : TypeId × Value → H} {W : World} {r : Reach} {b0 : Nat} {v : Value} {d : DataW H} {p : List MemPlace} (hv : Value.okWide Tryd.prog W r b0 23 v) (h : DataW.Trod enc Tryd.prog W 0 (fun _ => true) true 23 v d p) :
    ∃ x : Dee, v = .agg x.cs.toArray ∧ x.fits := arg_rec Tryd.underlying23 each_Deed hv h

end Go.Proofs.YtiijagmakkgnnaaDoor
namespace Go.Proofs.YtiijagmakkgnnaaDoor
open Go.ChangeShapes Go.WideShapes Go.ChangeAt Go.RowKit

theorem starred : "*" ++ "errors.errorString" = "*errors.errorString" := by decide
theorem rowErr (u : TypeId) (h : Tryd.prog.typeName? 3 u = some "*errors.errorString") : u = 133 :=
  typeName_ptr_named (nm := "errors.errorString") (by rw [starred]; kernel_rfl) (by kernel_rfl) (by decide) u (by rw [starred]; exact h)
theorem gPow : Tryd.prog.globalNamed "internal/strconv.uint64pow10" = some 1 := by kernel_rfl
theorem gPowT : (Tryd.prog.globals[1]?).map (·.type) = some 116 := by kernel_rfl
theorem gRng : Tryd.prog.globalNamed "strconv.ErrRange" = some 5 := by kernel_rfl
theorem gRngT : (Tryd.prog.globals[5]?).map (·.type) = some 81 := by kernel_rfl
theorem gSyn : Tryd.prog.globalNamed "strconv.ErrSyntax" = some 4 := by kernel_rfl
theorem gSynT : (Tryd.prog.globals[4]?).map (·.type) = some 81 := by kernel_rfl
theorem gBig : Tryd.prog.globalNamed "math/bits.deBruijn64tab" = some 7 := by kernel_rfl
theorem powData : Rows.laid_internal_strconv_uint64pow10 (H := Unit) = Lib.tabData .u64 Lib.pow10Tab := by kernel_rfl
theorem glob_tab {W : World} {r : List (String × DataW Unit)} (h : laidMet Tryd.prog (("internal/strconv.uint64pow10", Rows.laid_internal_strconv_uint64pow10) :: r) W) : Lib.TabIs Tryd.prog W "internal/strconv.uint64pow10" .u64 Lib.pow10Tab := by
  rw [powData] at h
  exact Lib.tabIs_of_head (rest := r) gPow gPowT Tryd.underlying116 Tryd.underlying102 (by kernel_rfl) (by kernel_rfl) h
theorem glob_rng {W : World} {r : List (String × DataW Unit)} (h : laidMet Tryd.prog (("strconv.ErrRange", Rows.laid_strconv_ErrRange) :: r) W) : ∃ t p, W.cell? ⟨5, 0, none⟩ = some (.iface t p) := by
  obtain ⟨a, s, hv, -⟩ := laid_sentinel h gRng gRngT Tryd.underlying81 rowErr Tryd.underlying133 Tryd.underlying135 rfl rfl Tryd.underlying9 (by kernel_rfl) (by kernel_rfl)
  exact ⟨_, _, by simpa using World.var?_cell gRng hv 0⟩
theorem glob_syn {W : World} {r : List (String × DataW Unit)} (h : laidMet Tryd.prog (("strconv.ErrSyntax", Rows.laid_strconv_ErrSyntax) :: r) W) : ∃ t p, W.cell? ⟨4, 0, none⟩ = some (.iface t p) := by
  obtain ⟨a, s, hv, -⟩ := laid_sentinel h gSyn gSynT Tryd.underlying81 rowErr Tryd.underlying133 Tryd.underlying135 rfl rfl Tryd.underlying9 (by kernel_rfl) (by kernel_rfl)
  exact ⟨_, _, by simpa using World.var?_cell gSyn hv 0⟩
theorem glob_size {W : World} {d : DataW Unit} {r : List (String × DataW Unit)} (h : laidMet Tryd.prog (("math/bits.deBruijn64tab", d) :: r) W) : 8 ≤ W.heap.size := by
  obtain ⟨ps, ⟨g, t, cs, fuel, p, q, hg, ht, hv, hd, _, _⟩, _, _⟩ := h
  unfold World.var? at hv
  rw [gBig] at hv
  simp only [Option.bind_some] at hv
  rcases Nat.lt_or_ge 7 W.heap.size with h' | h'
  · omega
  · rw [show 7 = 7 from rfl, Array.getElem?_eq_none h'] at hv
    cases hv
theorem glob5 {W : World} {d1 d2 : DataW Unit} (h : laidMet Tryd.prog [("math/bits.deBruijn32tab", d1), ("math/bits.deBruijn64tab", d2), ("internal/strconv.uint64pow10", Rows.laid_internal_strconv_uint64pow10), ("strconv.ErrRange", Rows.laid_strconv_ErrRange), ("strconv.ErrSyntax", Rows.laid_strconv_ErrSyntax)] W) : Glob W ∧ 8 ≤ W.heap.size :=
  ⟨⟨glob_tab h.tail.tail, glob_syn h.tail.tail.tail.tail, glob_rng h.tail.tail.tail⟩, glob_size h.tail⟩
theorem glob7 {W : World} {d1 d2 d3 d4 : DataW Unit} (h : laidMet Tryd.prog [("math/bits.deBruijn32tab", d1), ("math/bits.deBruijn64tab", d2), ("internal/strconv.uint64pow10", Rows.laid_internal_strconv_uint64pow10), ("unicode/utf8.acceptRanges", d3), ("strconv.ErrRange", Rows.laid_strconv_ErrRange), ("strconv.ErrSyntax", Rows.laid_strconv_ErrSyntax), ("unicode/utf8.first", d4)] W) : Glob W ∧ 8 ≤ W.heap.size :=
  ⟨⟨glob_tab h.tail.tail, glob_syn h.tail.tail.tail.tail.tail, glob_rng h.tail.tail.tail.tail⟩, glob_size h.tail⟩
end Go.Proofs.YtiijagmakkgnnaaDoor
