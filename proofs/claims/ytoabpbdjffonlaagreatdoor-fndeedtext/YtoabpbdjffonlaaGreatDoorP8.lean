/-
  Texts joined: FrameF, TextF, FrameD.
-/
import Derived.Test.YtoabpbdjffonlaaGreatDoorP2
import Derived.Test.YtoabpbdjffonlaaGreatDoorP6
import Derived.Test.YtoabpbdjffonlaaGreatDoorP7
namespace Go.Proofs.YtoabpbdjffonlaaGreatDoor
open Go.Lib

/-! One byte that is another one -/
theorem dec_byte (u : Nat) : ∀ c ∈ decDigits u, isDig c = true := by
  have := (dec_val u).2.1
  rw [List.all_eq_true] at this; exact this
section
variable {D : Type} (un : List UInt8 → Option (Int × D))
variable {un} {ok : D → Bool} {show' : D → List UInt8}
end
end Go.Proofs.YtoabpbdjffonlaaGreatDoor
namespace Go.Proofs.YtoabpbdjffonlaaGreatDoor
open Go.Lib
/-! What a deed is as a text, and how it is read -/
def wordsS : List ByteArray := [⟨#[111, 112, 101, 110]⟩, ⟨#[106, 111, 105, 110]⟩, ⟨#[99, 117, 116]⟩, ⟨#[108, 101, 110, 100]⟩, ⟨#[108, 111, 111, 115, 101, 110]⟩, ⟨#[115, 104, 105, 102, 116]⟩, ⟨#[102, 105, 110, 101]⟩, ⟨#[109, 101, 110, 100]⟩, ⟨#[101, 97, 114, 110]⟩, ⟨#[103, 105, 118, 101]⟩, ⟨#[115, 101, 97, 115, 111, 110]⟩]
/-- The byte of that number. -/
def byteN (t : ByteArray) (j : Nat) : Int := ((t.data.toList.getD j 0).toNat : Int)
theorem byteN_eq {t : ByteArray} {j : Nat} (h : j < t.size) : byteN t j = (t[j].toNat : Int) := by
  have h' : j < t.data.toList.length := h
  rw [byteN, List.getD_eq_getElem?_getD, List.getElem?_eq_getElem h']; rfl
def addF (d : Dee) (s : ByteArray) (c : Int) : ByteArray :=
  if c = 87 then s ++ ⟨#[32]⟩ ++ d.who else if c = 77 then s ++ ⟨#[32]⟩ ++ d.mill else if c = 84 then s ++ ⟨#[32]⟩ ++ d.to else if c = 78 then s ++ ⟨#[32]⟩ ++ itoaB d.n else s
def textN (d : Dee) (t s : ByteArray) : Nat → ByteArray
  | 0 => s
  | j + 1 => addF d (textN d t s j) (byteN t j)
/-- A deed's text. -/
def showB (d : Dee) : ByteArray := if deedB d = true then textN d (tellsS d.kind) (wordsS.getD (d.kind - 1).toNat ByteArray.empty) (tellsS d.kind).size else ByteArray.empty
def stepR (w : List ByteArray) (x : Dee × Bool) (c : Int) (j : Nat) : Dee × Bool :=
  if c = 87 then ({ x.1 with who := sat w (j + 1) }, x.2) else if c = 77 then ({ x.1 with mill := sat w (j + 1) }, x.2) else if c = 84 then ({ x.1 with to := sat w (j + 1) }, x.2)
  else if c = 78 then ({ x.1 with n := (readL (sat w (j + 1)).data.toList).getD 0 }, (readL (sat w (j + 1)).data.toList).isSome) else x
def runR (w : List ByteArray) (t : ByteArray) (x : Dee × Bool) : Nat → Dee × Bool
  | 0 => x
  | j + 1 => stepR w (runR w t x j) (byteN t j) j
def zeroD (k : Int) : Dee := ⟨k, ByteArray.empty, ByteArray.empty, ByteArray.empty, 0⟩
/-- The deed of a kind that the words tell. -/
def readW (w : List ByteArray) (k : Int) : Option Dee :=
  if k = 0 then none else if w.length ≠ (tellsS k).size + 1 then none
  else if (runR w (tellsS k) (zeroD k, true) (tellsS k).size).2 = true ∧ deedB (runR w (tellsS k) (zeroD k, true) (tellsS k).size).1 = true then some (runR w (tellsS k) (zeroD k, true) (tellsS k).size).1 else none
/-- The deed that a text tells. -/
def readB (s : ByteArray) : Option Dee := readW (splitB1 32 s) (placeV wordsS (sat (splitB1 32 s) 0) + 1)

theorem ba_ext {a b : ByteArray} (h : a.data.toList = b.data.toList) : a = b := WideShapes.bytes_inj h
theorem ba_app (a b : ByteArray) : (a ++ b).data.toList = a.data.toList ++ b.data.toList := by
  rw [ByteArray.data_append, Array.toList_append]
theorem itoaB_list (n : Int) : (itoaB n).data.toList = itoa n := rfl
/-- The words of a deed's text. -/
def wordsOf (d : Dee) : List ByteArray :=
  wordsS.getD (d.kind - 1).toNat ByteArray.empty :: (tellsS d.kind).data.toList.map fun c => if c = 87 then d.who else if c = 77 then d.mill else if c = 84 then d.to else itoaB d.n
theorem show_join {d : Dee} (h : deedB d = true) : (showB d).data.toList = joinT 32 ((wordsOf d).map (·.data.toList)) := by
  obtain ⟨⟨h1, h2⟩, _⟩ := deed_true h
  rw [showB, if_pos h]
  obtain ⟨k, who, mill, to, n⟩ := d
  simp only at h1 h2
  clear h
  rcases kinds h1 h2 with rfl | rfl | rfl | rfl | rfl | rfl | rfl | rfl | rfl | rfl | rfl <;>
    simp [wordsOf, tellsS, wordsS, textN, addF, byteN, joinT, itoaB_list, ByteArray.size]
theorem name_byte {s : ByteArray} (h : nameB s = true) {c : UInt8} (hc : c ∈ s.data.toList) : 97 ≤ c.toNat ∧ c.toNat ≤ 122 := by
  obtain ⟨_, _, h3⟩ := nameB_true h
  obtain ⟨j, hj, rfl⟩ := List.getElem_of_mem hc
  have := letB_true (h3 j hj hj)
  have e : s[j]'hj = s.data.toList[j] := rfl
  rw [e] at this
  omega
theorem name_no {s : ByteArray} (h : nameB s = true) {c : UInt8} (hc : c.toNat < 97) : c ∉ s.data.toList := fun q => by have := name_byte h q; omega
theorem nameIs_no {s : ByteArray} {t : Bool} (h : nameIs s t = true) {c : UInt8} (hc : c.toNat < 97) : c ∉ s.data.toList ∧ s.size ≤ 6 := by
  unfold nameIs at h
  split at h
  · exact ⟨name_no h hc, (nameB_true h).2.1⟩
  · have : s.data.toList = [] := by rw [ByteArray.toList_eq] at h; simpa using h
    have h0 : s.size = 0 := by have := congrArg List.length this; exact this
    exact ⟨by rw [this]; simp, by omega⟩
theorem mostN_le (k : Int) : mostN k ≤ 999999999 := by unfold mostN; split <;> omega
theorem deed_num {d : Dee} (h : deedB d = true) : 0 ≤ d.n ∧ d.n ≤ 999999999 := by
  have := (deed_true h).2.2.2.2
  have := inB_true this
  have := mostN_le d.kind
  omega
theorem itoa_small {n : Int} (h0 : 0 ≤ n) {c : UInt8} (hc : c ∈ itoa n) : 48 ≤ c.toNat ∧ c.toNat ≤ 57 := by
  rw [itoa, if_neg (by omega)] at hc
  exact digB_true (dec_byte _ _ hc)
theorem words_no {d : Dee} (h : deedB d = true) {c : UInt8} (hc97 : c.toNat < 97) (hc : c.toNat < 48 ∨ 57 < c.toNat) : ∀ x ∈ wordsOf d, c ∉ x.data.toList := by
  obtain ⟨⟨h1, h2⟩, h3, h4, h5, h6⟩ := deed_true h
  have hn := deed_num h
  intro x hx
  rcases List.mem_cons.mp hx with rfl | hx
  · have hw : ∀ w ∈ wordsS, ∀ c ∈ w.data.toList, 97 ≤ c.toNat := by decide
    intro q
    have : wordsS.getD (d.kind - 1).toNat ByteArray.empty ∈ wordsS := by
      have hlt : (d.kind - 1).toNat < wordsS.length := by simp [wordsS]; omega
      rw [List.getD_eq_getElem?_getD, List.getElem?_eq_getElem hlt]; exact List.getElem_mem _
    have := hw _ this c q
    omega
  · obtain ⟨e, _, rfl⟩ := List.mem_map.mp hx
    by_cases e1 : e = 87
    · rw [if_pos e1]; exact (nameIs_no h3 (by omega)).1
    rw [if_neg e1]
    by_cases e2 : e = 77
    · rw [if_pos e2]; exact (nameIs_no h4 (by omega)).1
    rw [if_neg e2]
    by_cases e3 : e = 84
    · rw [if_pos e3]; exact (nameIs_no h5 (by omega)).1
    rw [if_neg e3]
    intro q
    have := itoa_small hn.1 q
    omega
theorem word_mem {k : Int} (h1 : 1 ≤ k) (h2 : k ≤ 11) : wordsS.getD (k - 1).toNat ByteArray.empty ∈ wordsS := by
  have hlt : (k - 1).toNat < wordsS.length := by simp [wordsS]; omega
  rw [List.getD_eq_getElem?_getD, List.getElem?_eq_getElem hlt]; exact List.getElem_mem _
theorem words_len {d : Dee} (h : deedB d = true) : (∀ x ∈ wordsOf d, x.data.toList.length ≤ 9) ∧ (wordsOf d).length ≤ 5 := by
  obtain ⟨⟨h1, h2⟩, h3, h4, h5, h6⟩ := deed_true h
  have hn := deed_num h
  have ht := tells_size d.kind
  have ht' : (tellsS d.kind).data.toList.length ≤ 4 := ht
  refine ⟨fun x hx => ?_, by rw [wordsOf]; simp; exact ht'⟩
  rcases List.mem_cons.mp hx with rfl | hx
  · have hw : ∀ w ∈ wordsS, w.data.toList.length ≤ 9 := by decide
    exact hw _ (word_mem h1 h2)
  · obtain ⟨e, _, rfl⟩ := List.mem_map.mp hx
    have z : (48 : UInt8).toNat < 97 := by decide
    by_cases e1 : e = 87
    · rw [if_pos e1]; have := (nameIs_no h3 z).2; rw [size_list]; omega
    rw [if_neg e1]
    by_cases e2 : e = 77
    · rw [if_pos e2]; have := (nameIs_no h4 z).2; rw [size_list]; omega
    rw [if_neg e2]
    by_cases e3 : e = 84
    · rw [if_pos e3]; have := (nameIs_no h5 z).2; rw [size_list]; omega
    rw [if_neg e3, itoaB_list, itoa, if_neg (by omega)]
    exact dec_len (k := 8) (by omega)
theorem joinL_len (b : UInt8) (m : Nat) : ∀ xs : List (List UInt8), (∀ x ∈ xs, x.length ≤ m) → (joinT b xs).length ≤ (m + 1) * xs.length
  | [], _ => by simp [joinT]
  | [x], h => by have := h x (by simp); simp [joinT]; omega
  | x :: y :: r, h => by
    have h1 := h x (by simp)
    have h2 := joinL_len b m (y :: r) (fun z hz => h z (by simp at hz ⊢; exact .inr hz))
    rw [joinT, List.length_append, List.length_cons, List.length_cons, Nat.mul_succ]
    omega
theorem show_len {d : Dee} (h : deedB d = true) : (showB d).data.toList.length ≤ 50 := by
  rw [show_join h]
  have ⟨h1, h2⟩ := words_len h
  have := joinL_len 32 9 ((wordsOf d).map (·.data.toList)) (fun x hx => by obtain ⟨y, hy, rfl⟩ := List.mem_map.mp hx; exact h1 y hy)
  rw [List.length_map] at this; omega
theorem split_of {b : UInt8} {s : ByteArray} {x : ByteArray} {xs : List ByteArray} (h : ∀ y ∈ x :: xs, b ∉ y.data.toList) (e : s.data.toList = joinT b ((x :: xs).map (·.data.toList))) : splitB1 b.toNat s = x :: xs := by
  have h1 := splitB1_list b s
  rw [e, List.map_cons, pieces_of b _ _ [] (by
    intro y hy
    rcases List.mem_cons.mp hy with rfl | hy
    · exact h x (by simp)
    · obtain ⟨z, hz, rfl⟩ := List.mem_map.mp hy
      exact h z (by simp [hz])), List.nil_append] at h1
  have h2 : (splitB1 b.toNat s).map (·.data.toList) = (x :: xs).map (·.data.toList) := h1
  exact (List.map_inj_right (fun a b q => ba_ext q)).mp h2
theorem join_split (b : UInt8) (s : ByteArray) : joinT b ((splitB1 b.toNat s).map (·.data.toList)) = s.data.toList := by
  rw [splitB1_list, pieces_join]; rfl
theorem place_word {k : Int} (h1 : 1 ≤ k) (h2 : k ≤ 11) : placeV wordsS (wordsS.getD (k - 1).toNat ByteArray.empty) = k - 1 := by
  rcases kinds h1 h2 with rfl | rfl | rfl | rfl | rfl | rfl | rfl | rfl | rfl | rfl | rfl <;> decide +kernel
theorem untold {s : ByteArray} (h : nameIs s false = true) : s = ByteArray.empty := by
  unfold nameIs at h
  rw [if_neg (by simp)] at h
  rw [ByteArray.toList_eq] at h
  exact ba_ext (by simpa using h)
set_option maxHeartbeats 1000000 in
set_option maxRecDepth 100000 in
/-- What is shown is read. -/
theorem read_show {d : Dee} (h : deedB d = true) : readB (showB d) = some d := by
  have hsp : splitB1 32 (showB d) = wordsOf d := by
    have := split_of (b := 32) (s := showB d) (x := wordsS.getD (d.kind - 1).toNat ByteArray.empty) (xs := (tellsS d.kind).data.toList.map fun c => if c = 87 then d.who else if c = 77 then d.mill else if c = 84 then d.to else itoaB d.n)
      (fun y hy => words_no h (by decide) (by decide) y hy) (show_join h)
    exact this
  obtain ⟨⟨h1, h2⟩, h3, h4, h5, h6⟩ := deed_true h
  have hn := deed_num h
  rw [readB, hsp]
  have h0 : sat (wordsOf d) 0 = wordsS.getD (d.kind - 1).toNat ByteArray.empty := rfl
  rw [h0, place_word h1 h2]
  have hk : d.kind - 1 + 1 = d.kind := by omega
  have hr := readL_itoa (n := d.n) (by omega) (by omega)
  rw [hk, readW, if_neg (by omega), if_neg (by rw [wordsOf, List.length_cons, List.length_map]; exact fun q => q rfl)]
  suffices hrun : runR (wordsOf d) (tellsS d.kind) (zeroD d.kind, true) (tellsS d.kind).size = (d, true) by
    rw [hrun, if_pos ⟨rfl, h⟩]
  obtain ⟨k, who, mill, to, n⟩ := d
  simp only at h1 h2 h3 h4 h5 h6 hr
  clear h hsp h0 hk hn
  rcases kinds h1 h2 with rfl | rfl | rfl | rfl | rfl | rfl | rfl | rfl | rfl | rfl | rfl <;>
    (first
      | (have e := untold (s := who) h3; subst e)
      | skip) <;>
    (first
      | (have e := untold (s := mill) h4; subst e)
      | skip) <;>
    (first
      | (have e := untold (s := to) h5; subst e)
      | skip) <;>
    (first
      | (have e : n = 0 := by
          have q := inB_true h6
          have hm : ∀ k : Int, hasB (tellsS k) 78 = false → mostN k = 0 := fun k hk => by rw [mostN, hk]; rfl
          rw [hm _ (by decide)] at q; omega
         subst e)
      | skip) <;>
    simp [runR, stepR, wordsOf, tellsS, byteN, sat, zeroD, hr, ByteArray.size, itoaB_list]
theorem read_num {x : ByteArray} {n : Int} (h : (readL x.data.toList).isSome = true) (hn : (readL x.data.toList).getD 0 = n) : x = itoaB n := by
  cases hr : readL x.data.toList with
  | none => rw [hr] at h; cases h
  | some m =>
    rw [hr] at hn
    simp only [Option.getD_some] at hn
    subst hn
    exact ba_ext (readL_some hr).1
theorem len2 {α : Type} {l : List α} (h : l.length = 2) : ∃ a b, l = [a, b] := by
  match l, h with
  | [a, b], _ => exact ⟨a, b, rfl⟩
theorem len3 {α : Type} {l : List α} (h : l.length = 3) : ∃ a b c, l = [a, b, c] := by
  match l, h with
  | [a, b, c], _ => exact ⟨a, b, c, rfl⟩
theorem len4 {α : Type} {l : List α} (h : l.length = 4) : ∃ a b c d, l = [a, b, c, d] := by
  match l, h with
  | [a, b, c, d], _ => exact ⟨a, b, c, d, rfl⟩
theorem len5 {α : Type} {l : List α} (h : l.length = 5) : ∃ a b c d e, l = [a, b, c, d, e] := by
  match l, h with
  | [a, b, c, d, e], _ => exact ⟨a, b, c, d, e, rfl⟩
theorem placeV_word {s : ByteArray} (h : placeV wordsS s + 1 ≠ 0) : ∃ k : Int, 1 ≤ k ∧ k ≤ 11 ∧ placeV wordsS s + 1 = k ∧ s = wordsS.getD (k - 1).toNat ByteArray.empty := by
  have hb : placeV wordsS s = -1 ∨ 0 ≤ placeV wordsS s := by
    have : ∀ n, placeUp wordsS s n = -1 ∨ 0 ≤ placeUp wordsS s n := by
      intro n
      induction n with
      | zero => exact .inl rfl
      | succ n ih => rw [placeUp]; split <;> (try split) <;> omega
    exact this _
  rcases hb with hb | hb
  · omega
  · obtain ⟨j, e, hj, hq⟩ := place_hit hb
    have hl : wordsS.length = 11 := rfl
    refine ⟨j + 1, by omega, by omega, by omega, ?_⟩
    have : ((j : Int) + 1 - 1).toNat = j := by omega
    rw [this]
    have hq' : (sat wordsS j).data.toList = s.data.toList := by
      rw [ByteArray.toList_eq, ByteArray.toList_eq] at hq; simpa using hq
    exact (ba_ext hq').symm
set_option maxHeartbeats 2000000 in
set_option maxRecDepth 100000 in
/-- What is read is shown so. -/
theorem read_some {s : ByteArray} {d : Dee} (h : readB s = some d) : deedB d = true ∧ showB d = s := by
  have hj := join_split 32 s
  rw [readB] at h
  have e32 : (((32 : UInt8).toNat : Nat) : Int) = 32 := rfl
  rw [e32] at hj
  generalize splitB1 32 s = w at h hj
  rw [readW] at h
  split at h
  · cases h
  rename_i hk
  obtain ⟨k, h1, h2, hk1, hw0⟩ := placeV_word hk
  rw [hk1] at h
  clear hk hk1
  split at h
  · cases h
  rename_i hl
  have hl : w.length = (tellsS k).size + 1 := Classical.not_not.mp hl
  by_cases hg : (runR w (tellsS k) (zeroD k, true) (tellsS k).size).2 = true ∧ deedB (runR w (tellsS k) (zeroD k, true) (tellsS k).size).1 = true
  case neg => rw [if_neg hg] at h; cases h
  rw [if_pos hg] at h
  have hd := Option.some.inj h
  obtain ⟨hg, hok⟩ := hg
  rw [hd] at hok
  refine ⟨hok, ba_ext ?_⟩
  rw [show_join hok, ← hj]
  congr 1
  clear h hj hok
  rcases kinds h1 h2 with rfl | rfl | rfl | rfl | rfl | rfl | rfl | rfl | rfl | rfl | rfl
  · obtain ⟨a, b, c, rfl⟩ := len3 (show w.length = 3 from hl)
    simp only [sat, List.getD_cons_zero] at hw0
    subst hd hw0
    have hnum := read_num (x := c) (by simpa [runR, stepR, tellsS, byteN, sat, ByteArray.size, zeroD] using hg) rfl
    have q := congrArg (fun b : ByteArray => b.data.toList) hnum
    simp only [itoaB_list] at q
    simp [wordsOf, wordsS, runR, stepR, tellsS, byteN, sat, zeroD, ByteArray.size, itoaB_list, ← q]
  · obtain ⟨a, b, rfl⟩ := len2 (show w.length = 2 from hl)
    simp only [sat, List.getD_cons_zero] at hw0
    subst hd hw0
    simp [wordsOf, wordsS, runR, stepR, tellsS, byteN, sat, zeroD, ByteArray.size]
  · obtain ⟨a, b, c, rfl⟩ := len3 (show w.length = 3 from hl)
    simp only [sat, List.getD_cons_zero] at hw0
    subst hd hw0
    have hnum := read_num (x := c) (by simpa [runR, stepR, tellsS, byteN, sat, ByteArray.size, zeroD] using hg) rfl
    have q := congrArg (fun b : ByteArray => b.data.toList) hnum
    simp only [itoaB_list] at q
    simp [wordsOf, wordsS, runR, stepR, tellsS, byteN, sat, zeroD, ByteArray.size, itoaB_list, ← q]
  · obtain ⟨a, b, c, e, rfl⟩ := len4 (show w.length = 4 from hl)
    simp only [sat, List.getD_cons_zero] at hw0
    subst hd hw0
    have hnum := read_num (x := e) (by simpa [runR, stepR, tellsS, byteN, sat, ByteArray.size, zeroD] using hg) rfl
    have q := congrArg (fun b : ByteArray => b.data.toList) hnum
    simp only [itoaB_list] at q
    simp [wordsOf, wordsS, runR, stepR, tellsS, byteN, sat, zeroD, ByteArray.size, itoaB_list, ← q]
  · obtain ⟨a, b, c, e, rfl⟩ := len4 (show w.length = 4 from hl)
    simp only [sat, List.getD_cons_zero] at hw0
    subst hd hw0
    have hnum := read_num (x := e) (by simpa [runR, stepR, tellsS, byteN, sat, ByteArray.size, zeroD] using hg) rfl
    have q := congrArg (fun b : ByteArray => b.data.toList) hnum
    simp only [itoaB_list] at q
    simp [wordsOf, wordsS, runR, stepR, tellsS, byteN, sat, zeroD, ByteArray.size, itoaB_list, ← q]
  · obtain ⟨a, b, c, e, f, rfl⟩ := len5 (show w.length = 5 from hl)
    simp only [sat, List.getD_cons_zero] at hw0
    subst hd hw0
    have hnum := read_num (x := f) (by simpa [runR, stepR, tellsS, byteN, sat, ByteArray.size, zeroD] using hg) rfl
    have q := congrArg (fun b : ByteArray => b.data.toList) hnum
    simp only [itoaB_list] at q
    simp [wordsOf, wordsS, runR, stepR, tellsS, byteN, sat, zeroD, ByteArray.size, itoaB_list, ← q]
  · obtain ⟨a, b, c, rfl⟩ := len3 (show w.length = 3 from hl)
    simp only [sat, List.getD_cons_zero] at hw0
    subst hd hw0
    have hnum := read_num (x := c) (by simpa [runR, stepR, tellsS, byteN, sat, ByteArray.size, zeroD] using hg) rfl
    have q := congrArg (fun b : ByteArray => b.data.toList) hnum
    simp only [itoaB_list] at q
    simp [wordsOf, wordsS, runR, stepR, tellsS, byteN, sat, zeroD, ByteArray.size, itoaB_list, ← q]
  · obtain ⟨a, b, rfl⟩ := len2 (show w.length = 2 from hl)
    simp only [sat, List.getD_cons_zero] at hw0
    subst hd hw0
    simp [wordsOf, wordsS, runR, stepR, tellsS, byteN, sat, zeroD, ByteArray.size]
  · obtain ⟨a, b, c, rfl⟩ := len3 (show w.length = 3 from hl)
    simp only [sat, List.getD_cons_zero] at hw0
    subst hd hw0
    have hnum := read_num (x := c) (by simpa [runR, stepR, tellsS, byteN, sat, ByteArray.size, zeroD] using hg) rfl
    have q := congrArg (fun b : ByteArray => b.data.toList) hnum
    simp only [itoaB_list] at q
    simp [wordsOf, wordsS, runR, stepR, tellsS, byteN, sat, zeroD, ByteArray.size, itoaB_list, ← q]
  · obtain ⟨a, b, c, e, rfl⟩ := len4 (show w.length = 4 from hl)
    simp only [sat, List.getD_cons_zero] at hw0
    subst hd hw0
    have hnum := read_num (x := e) (by simpa [runR, stepR, tellsS, byteN, sat, ByteArray.size, zeroD] using hg) rfl
    have q := congrArg (fun b : ByteArray => b.data.toList) hnum
    simp only [itoaB_list] at q
    simp [wordsOf, wordsS, runR, stepR, tellsS, byteN, sat, zeroD, ByteArray.size, itoaB_list, ← q]
  · obtain ⟨a, rfl⟩ := List.length_eq_one_iff.mp (show w.length = 1 from hl)
    simp only [sat, List.getD_cons_zero] at hw0
    subst hd hw0
    simp [wordsOf, wordsS, runR, tellsS, zeroD, ByteArray.size]
end Go.Proofs.YtoabpbdjffonlaaGreatDoor
namespace Go.Proofs.YtoabpbdjffonlaaGreatDoor
open Go.Lib
/-! Many deeds in one text, and deeds in frames -/
def readAll : List ByteArray → List Dee → Option (List Dee)
  | [], out => some out
  | x :: r, out => match readB x with
    | none => none
    | some d => if out.length = 20 then none else readAll r (out ++ [d])
def readsB (s : ByteArray) : Option (List Dee) := if s.toList = [] then some [] else readAll (splitB1 59 s) []
theorem readAll_some : ∀ {ws : List ByteArray} {out l : List Dee}, readAll ws out = some l → ∃ ds, l = out ++ ds ∧ ds.map showB = ws ∧ ∀ d ∈ ds, deedB d = true
  | [], out, l, h => ⟨[], by rw [readAll] at h; simpa using (Option.some.inj h).symm, rfl, by simp⟩
  | x :: r, out, l, h => by
    rw [readAll] at h
    cases hx : readB x with
    | none => rw [hx] at h; cases h
    | some d =>
      rw [hx] at h
      simp only at h
      split at h
      · cases h
      obtain ⟨ds, e1, e2, e3⟩ := readAll_some h
      have hd := read_some hx
      refine ⟨d :: ds, by rw [e1]; simp, by rw [List.map_cons, e2, hd.2], fun y hy => ?_⟩
      rcases List.mem_cons.mp hy with rfl | hy
      · exact hd.1
      · exact e3 y hy
theorem readAll_len : ∀ {ws : List ByteArray} {out l : List Dee}, out.length ≤ 20 → readAll ws out = some l → l.length ≤ 20
  | [], out, l, hl, h => by rw [readAll] at h; rw [← Option.some.inj h]; exact hl
  | x :: r, out, l, hl, h => by
    rw [readAll] at h
    cases hx : readB x with
    | none => rw [hx] at h; cases h
    | some d =>
      rw [hx] at h
      simp only at h
      split at h
      · cases h
      exact readAll_len (by simp; omega) h
theorem readsB_fits {s : ByteArray} {l : List Dee} (h : readsB s = some l) : l.length ≤ 20 := by
  unfold readsB at h
  split at h
  · rw [← Option.some.inj h]; simp
  · exact readAll_len (by simp) h

theorem readsB_len (s : ByteArray) : ((readsB s).getD []).length ≤ 20 := by
  cases h : readsB s with
  | none => exact Nat.zero_le _
  | some l => exact readsB_fits h
end Go.Proofs.YtoabpbdjffonlaaGreatDoor
