/-
  Texts joined: ReadD.
-/
import Derived.Test.YtoabpbdjffonlaaGreatDoorP9
import Derived.Test.YtoabpbdjffonlaaGreatDoorP10
import Derived.Test.YtoabpbdjffonlaaGreatDoorP11
import Derived.Deep.RegionWith
namespace Go.Proofs.YtoabpbdjffonlaaGreatDoor
open Go.ChangeShapes Go.WideShapes Go.ChangeAt Go.RowKit

theorem RecAt.put {w : World} {B o : Nat} {x y : Dee} {v : Value} (h : RecAt Dee.cs w B x) (ho : o < 5) (e : Dee.cs y = (Dee.cs x).set o v) : RecAt Dee.cs (w.setCell ⟨B, o, none⟩ v) B y := by
  intro j u hj
  rw [e, List.getElem?_set] at hj
  have hx : (Dee.cs x)[o]? = some ((Dee.cs x)[o]'ho) := List.getElem?_eq_getElem ho
  by_cases q : o = j
  · subst q
    rw [if_pos rfl, if_pos (show o < (Dee.cs x).length from ho)] at hj
    rw [World.cell?_setCell_same _ _ _ (h o _ hx)]; exact hj
  · rw [if_neg q] at hj
    rw [World.cell?_setCell_other _ _ _ _ (by intro z; injection z with _ z; exact q z)]; exact h j u hj
theorem RecAt.far {w : World} {B D o : Nat} {x : Dee} {v : Value} (h : RecAt Dee.cs w B x) (hne : B ≠ D) : RecAt Dee.cs (w.setCell ⟨D, o, none⟩ v) B x :=
  fun j u hj => (World.cell?_setCell_far _ _ _ _ (by simpa using fun e : D = B => hne e.symm)).trans (h j u hj)
theorem strs_far {w : World} {a : Option Addr} {ss : List ByteArray} {D o : Nat} {v : Value} (h : Strs w a ss) (hne : ∀ b off, a = some ⟨b, off, none⟩ → b ≠ D) : Strs (w.setCell ⟨D, o, none⟩ v) a ss := by
  intro k u hk
  obtain ⟨b, off, rfl, hc⟩ := h k u hk
  exact ⟨b, off, rfl, (World.cell?_setCell_far _ _ _ _ (by simpa using fun e : D = b => hne b off rfl e.symm)).trans hc⟩
theorem strs_below {w w' : World} {a : Option Addr} {ss : List ByteArray} (h : Strs w a ss) (hb : Below w.heap.size w w') : Strs w' a ss := by
  intro k u hk
  obtain ⟨b, off, rfl, hc⟩ := h k u hk
  exact ⟨b, off, rfl, (hb.cell (lt_of_cell hc)).trans hc⟩

/-- A text is read: the deed's box D, the result's box R, the words at a. -/
structure RWay (w : World) (R D : Nat) (a : Option Addr) (ss : List ByteArray) (x : Dee) (W : World) : Prop where
  d : RecAt Dee.cs W D x
  df : ∀ o, W.frozen? ⟨D, o, none⟩ = false
  r : RecAt Dee.cs W R (zeroD 0)
  rf : ∀ o, W.frozen? ⟨R, o, none⟩ = false
  st : Strs W a ss
  below : Below w.heap.size w W
  rD : R < D
  dl : D < W.heap.size
  wR : w.heap.size ≤ R
  far : ∀ b off, a = some ⟨b, off, none⟩ → b ≠ D
theorem RWay.step {w W W' : World} {R D : Nat} {a : Option Addr} {ss : List ByteArray} {x : Dee} (h : RWay w R D a ss x W) (hb : Below W.heap.size W W') : RWay w R D a ss x W' :=
  ⟨h.d.below hb, fun o => (hb.frozen (p := ⟨D, o, none⟩) h.dl).trans (h.df o), h.r.below hb, fun o => (hb.frozen (p := ⟨R, o, none⟩) (Nat.lt_trans h.rD h.dl)).trans (h.rf o), strs_below h.st hb, below_trans h.below hb, h.rD,
    Nat.lt_of_lt_of_le h.dl hb.size, h.wR, h.far⟩
theorem RWay.put {w W : World} {R D o : Nat} {a : Option Addr} {ss : List ByteArray} {x y : Dee} {v : Value} (h : RWay w R D a ss x W) (ho : o < 5) (e : Dee.cs y = (Dee.cs x).set o v) : RWay w R D a ss y (W.setCell ⟨D, o, none⟩ v) :=
  ⟨h.d.put ho e, fun o' => by rw [World.frozen?_setCell]; exact h.df o', h.r.far (by have := h.rD; omega), fun o' => by rw [World.frozen?_setCell]; exact h.rf o', strs_far h.st h.far, h.below.setCell (by have := h.rD; have := h.wR; show w.heap.size ≤ D; omega) v, h.rD, by have := h.dl; simpa [World.setCell] using this, h.wR, h.far⟩

def ReadD (s : ByteArray) (w : World) (e : Ending) (w' : World) : Prop :=
  e = .returned (.tuple #[.agg #[.int .i64 ((readB s).getD (zeroD 0)).kind, .string ((readB s).getD (zeroD 0)).who, .string ((readB s).getD (zeroD 0)).mill, .string ((readB s).getD (zeroD 0)).to, .int .i64 ((readB s).getD (zeroD 0)).n], .bool (readB s).isSome]) ∧ Below w.heap.size w w'
theorem ReadD.none {s : ByteArray} {w w' : World} (h : readB s = none) (hb : Below w.heap.size w w') : ReadD s w (.returned (.tuple #[.agg #[.int .i64 0, .string ByteArray.empty, .string ByteArray.empty, .string ByteArray.empty, .int .i64 0], .bool false])) w' := by
  refine ⟨?_, hb⟩; rw [h]; rfl
theorem ReadD.some {s : ByteArray} {w w' : World} {d : Dee} (h : readB s = some d) (hb : Below w.heap.size w w') : ReadD s w (.returned (.tuple #[.agg #[.int .i64 d.kind, .string d.who, .string d.mill, .string d.to, .int .i64 d.n], .bool true])) w' := by
  refine ⟨?_, hb⟩; rw [h]; rfl
theorem Words.strs {w w' : World} (h : Words w w') : Strs w' (some ⟨w.heap.size, 0, none⟩) wordsS := by rw [h]; exact wordsW_strs w
theorem place_bd (s : ByteArray) : -1 ≤ placeV wordsS s ∧ placeV wordsS s < 11 := placeUp_bd wordsS s 11

theorem at_words {w : World} {g : Nat} (s : ByteArray) (h : Strs w (some ⟨g, 0, none⟩) wordsS) :
    Calls Tryz.prog 29 #[.slice (some ⟨g, 0, none⟩) 11 11, .string s] w fun e w' => e = .returned (.int .i64 (placeV wordsS s)) ∧ w = w' := l1At_any (ss := wordsS) 11 s h (by decide)
/-- The words stand at g; what was there ahead still is. -/
structure WordsAt (w : World) (g : Nat) (w' : World) : Prop where
  st : Strs w' (some ⟨g, 0, none⟩) wordsS
  below : Below w.heap.size w w'
  lt : w.heap.size < w'.heap.size
theorem wordsA (w : World) : Calls Tryz.prog 30 #[] w.drew fun e w' => e = .returned (.slice (some ⟨w.heap.size, 0, none⟩) 11 11) ∧ WordsAt w w.heap.size w' := by
  refine (l15Words_any _).mono ?_
  rintro e w' ⟨rfl, hw⟩
  have hw : Words w.drew w' := hw
  exact ⟨rfl, hw.strs, undrew_below hw.below, by rw [show w' = wordsW w.drew from hw, wordsW_size]; exact Nat.lt_succ_self _⟩
abbrev zeroO : Obj := .cells #[.int .i64 0, .string ⟨#[]⟩, .string ⟨#[]⟩, .string ⟨#[]⟩, .int .i64 0] 25
theorem size_alloc (w : World) (o : Obj) : (w.alloc o).heap.size = w.heap.size + 1 := by show (w.heap.push _).size = _; rw [Array.size_push]
/-- A fresh box, its cells. -/
structure ZeroAt (w : World) (D : Nat) : Prop where
  c0 : w.cell? ⟨D, 0, none⟩ = some (.int .i64 0)
  c1 : w.cell? ⟨D, 1, none⟩ = some (.string ⟨#[]⟩)
  c2 : w.cell? ⟨D, 2, none⟩ = some (.string ⟨#[]⟩)
  c3 : w.cell? ⟨D, 3, none⟩ = some (.string ⟨#[]⟩)
  c4 : w.cell? ⟨D, 4, none⟩ = some (.int .i64 0)
  fz : ∀ o, w.frozen? ⟨D, o, none⟩ = false
theorem ZeroAt.new (w : World) : ZeroAt (w.alloc zeroO) w.heap.size := by
  have h := RecAt.new Dee.cs w (zeroD 0) 25
  exact ⟨h 0 _ rfl, h 1 _ rfl, h 2 _ rfl, h 3 _ rfl, h 4 _ rfl, fun i => World.frozen?_alloc_at (w := w) #[.int .i64 0, .string ⟨#[]⟩, .string ⟨#[]⟩, .string ⟨#[]⟩, .int .i64 0] 25 w.heap.size i rfl⟩
theorem ZeroAt.step {w w' : World} {D : Nat} (h : ZeroAt w D) (hb : Below w.heap.size w w') : ZeroAt w' D := by
  have hl := lt_of_cell h.c0
  exact ⟨(hb.cell hl).trans h.c0, (hb.cell hl).trans h.c1, (hb.cell hl).trans h.c2, (hb.cell hl).trans h.c3, (hb.cell hl).trans h.c4, fun o => (hb.frozen (p := ⟨D, o, none⟩) hl).trans (h.fz o)⟩
theorem wordsB (w : World) : Calls Tryz.prog 30 #[] (w.alloc zeroO).drew fun e w' => e = .returned (.slice (some ⟨w.heap.size + 1, 0, none⟩) 11 11) ∧ WordsAt w (w.heap.size + 1) w' ∧ ZeroAt w' w.heap.size := by
  refine (wordsA (w.alloc zeroO)).mono ?_
  rintro e w' ⟨rfl, hw⟩
  have e1 : (w.alloc zeroO).heap.size = w.heap.size + 1 := size_alloc _ _
  have hst := hw.st
  have hlt := hw.lt
  rw [e1] at hst hlt
  refine ⟨by rw [e1], ⟨hst, below_trans (below_new w zeroO) hw.below, by omega⟩, (ZeroAt.new w).step hw.below⟩
/-- What lies there ahead of the deed's own box. -/
structure RHalf (w : World) (R : Nat) (a : Option Addr) (ss : List ByteArray) (W : World) : Prop where
  r : RecAt Dee.cs W R (zeroD 0)
  rf : ∀ o, W.frozen? ⟨R, o, none⟩ = false
  st : Strs W a ss
  below : Below w.heap.size w W
  rl : R < W.heap.size
  wR : w.heap.size ≤ R
theorem RHalf.step {w W W' : World} {R : Nat} {a : Option Addr} {ss : List ByteArray} (h : RHalf w R a ss W) (hb : Below W.heap.size W W') : RHalf w R a ss W' :=
  ⟨h.r.below hb, fun o => (hb.frozen (p := ⟨R, o, none⟩) h.rl).trans (h.rf o), strs_below h.st hb, below_trans h.below hb, Nat.lt_of_lt_of_le h.rl hb.size, h.wR⟩
theorem rwayA {w w1 w2 : World} {R g : Nat} {a : Option Addr} {ss : List ByteArray} (k : Int) (h : RHalf w R a ss w1) (hw : WordsAt w1 g w2) (ha : ∀ b off, a = some ⟨b, off, none⟩ → b < w1.heap.size) :
    RWay w R w2.heap.size a ss (zeroD k) (w2.alloc (.cells #[.int .i64 k, .string ⟨#[]⟩, .string ⟨#[]⟩, .string ⟨#[]⟩, .int .i64 0] 25)) := by
  have h2 := h.step hw.below
  have h3 := h2.step (below_new w2 (.cells #[.int .i64 k, .string ⟨#[]⟩, .string ⟨#[]⟩, .string ⟨#[]⟩, .int .i64 0] 25))
  exact ⟨RecAt.new Dee.cs w2 (zeroD k) 25, fun i => World.frozen?_alloc_at (w := w2) #[.int .i64 k, .string ⟨#[]⟩, .string ⟨#[]⟩, .string ⟨#[]⟩, .int .i64 0] 25 w2.heap.size i rfl, h3.r, h3.rf, h3.st, h3.below, h2.rl,
    by rw [size_alloc]; exact Nat.lt_succ_self _, h.wR, fun b off e => by have := ha b off e; have := hw.lt; omega⟩
theorem rwayB {w w1 w2 : World} {R g : Nat} {a : Option Addr} {ss : List ByteArray} (k : Int) (h : RHalf w R a ss w1) (hw : WordsAt w1 g w2) (hz : ZeroAt w2 w1.heap.size) (ha : ∀ b off, a = some ⟨b, off, none⟩ → b < w1.heap.size) :
    RWay w R w1.heap.size a ss (zeroD k) (((((w2.setCell ⟨w1.heap.size, 0, none⟩ (.int .i64 k)).setCell ⟨w1.heap.size, 1, none⟩ (.string ⟨#[]⟩)).setCell ⟨w1.heap.size, 2, none⟩ (.string ⟨#[]⟩)).setCell ⟨w1.heap.size, 3, none⟩ (.string ⟨#[]⟩)).setCell ⟨w1.heap.size, 4, none⟩ (.int .i64 0)) := by
  have h2 := h.step hw.below
  have hd : RecAt Dee.cs w2 w1.heap.size (zeroD 0) := by
    intro j v hj
    match j, hj with
    | 0, hj => obtain rfl := Option.some.inj hj; exact hz.c0
    | 1, hj => obtain rfl := Option.some.inj hj; exact hz.c1
    | 2, hj => obtain rfl := Option.some.inj hj; exact hz.c2
    | 3, hj => obtain rfl := Option.some.inj hj; exact hz.c3
    | 4, hj => obtain rfl := Option.some.inj hj; exact hz.c4
    | j + 5, hj => simp [Dee.cs] at hj
  have base : RWay w R w1.heap.size a ss (zeroD 0) w2 := ⟨hd, hz.fz, h2.r, h2.rf, h2.st, h2.below, h.rl, lt_of_cell hz.c0, h.wR, fun b off e => by have := ha b off e; omega⟩
  have s0 := base.put (o := 0) (y := zeroD k) (v := .int .i64 k) (by decide) rfl
  have s1 := s0.put (o := 1) (y := zeroD k) (v := .string ⟨#[]⟩) (by decide) rfl
  have s2 := s1.put (o := 2) (y := zeroD k) (v := .string ⟨#[]⟩) (by decide) rfl
  have s3 := s2.put (o := 3) (y := zeroD k) (v := .string ⟨#[]⟩) (by decide) rfl
  exact s3.put (o := 4) (y := zeroD k) (v := .int .i64 0) (by decide) rfl
theorem below_set5 {B : Nat} {w W : World} (h : Below B w W) {R : Nat} (hR : B ≤ R) (v0 v1 v2 v3 v4 : Value) :
    Below B w (((((W.setCell ⟨R, 0, none⟩ v0).setCell ⟨R, 1, none⟩ v1).setCell ⟨R, 2, none⟩ v2).setCell ⟨R, 3, none⟩ v3).setCell ⟨R, 4, none⟩ v4) :=
  ((((h.setCell hR v0).setCell hR v1).setCell hR v2).setCell hR v3).setCell hR v4
theorem readW_zero (w : List ByteArray) : readW w 0 = none := if_pos rfl
theorem readW_len {w : List ByteArray} {k : Int} (h : w.length ≠ (tellsS k).size + 1) : readW w k = none := by
  by_cases h0 : k = 0
  · rw [readW, if_pos h0]
  · rw [readW, if_neg h0, if_pos h]
theorem readW_bad {w : List ByteArray} {k : Int} (h : (runR w (tellsS k) (zeroD k, true) (tellsS k).size).2 = false ∨ deedB (runR w (tellsS k) (zeroD k, true) (tellsS k).size).1 = false) : readW w k = none := by
  by_cases h0 : k = 0
  · rw [readW, if_pos h0]
  by_cases hl : w.length ≠ (tellsS k).size + 1
  · rw [readW, if_neg h0, if_pos hl]
  rw [readW, if_neg h0, if_neg hl, if_neg]
  rintro ⟨q1, q2⟩
  rcases h with h | h
  · rw [h] at q1; cases q1
  · rw [h] at q2; cases q2
theorem readW_ok {w : List ByteArray} {k : Int} (h0 : k ≠ 0) (hl : w.length = (tellsS k).size + 1) (h1 : (runR w (tellsS k) (zeroD k, true) (tellsS k).size).2 = true) (h2 : deedB (runR w (tellsS k) (zeroD k, true) (tellsS k).size).1 = true) :
    readW w k = some (runR w (tellsS k) (zeroD k, true) (tellsS k).size).1 := by
  rw [readW, if_neg h0, if_neg (fun q => q hl), if_pos ⟨h1, h2⟩]
theorem stepR_w {w : List ByteArray} {x : Dee × Bool} {c : Int} {j : Nat} (h : (c == 87) = true) : stepR w x c j = ({ x.1 with who := sat w (j + 1) }, x.2) := if_pos (by simpa using h)
theorem stepR_m {w : List ByteArray} {x : Dee × Bool} {c : Int} {j : Nat} (h1 : (c == 87) = false) (h : (c == 77) = true) : stepR w x c j = ({ x.1 with mill := sat w (j + 1) }, x.2) := by
  rw [stepR, if_neg (by simpa using h1), if_pos (by simpa using h)]
theorem stepR_t {w : List ByteArray} {x : Dee × Bool} {c : Int} {j : Nat} (h1 : (c == 87) = false) (h2 : (c == 77) = false) (h : (c == 84) = true) : stepR w x c j = ({ x.1 with to := sat w (j + 1) }, x.2) := by
  rw [stepR, if_neg (by simpa using h1), if_neg (by simpa using h2), if_pos (by simpa using h)]
theorem stepR_n {w : List ByteArray} {x : Dee × Bool} {c : Int} {j : Nat} (h1 : (c == 87) = false) (h2 : (c == 77) = false) (h3 : (c == 84) = false) (h : (c == 78) = true) :
    stepR w x c j = ({ x.1 with n := (readL (sat w (j + 1)).data.toList).getD 0 }, (readL (sat w (j + 1)).data.toList).isSome) := by
  rw [stepR, if_neg (by simpa using h1), if_neg (by simpa using h2), if_neg (by simpa using h3), if_pos (by simpa using h)]
theorem stepR_o {w : List ByteArray} {x : Dee × Bool} {c : Int} {j : Nat} (h1 : (c == 87) = false) (h2 : (c == 77) = false) (h3 : (c == 84) = false) (h : (c == 78) = false) : stepR w x c j = x := by
  rw [stepR, if_neg (by simpa using h1), if_neg (by simpa using h2), if_neg (by simpa using h3), if_neg (by simpa using h)]
theorem sat_size {w : List ByteArray} {m : Nat} (h : ∀ x ∈ w, x.size ≤ m) (j : Nat) : (sat w j).size ≤ m := by
  unfold sat
  rcases Nat.lt_or_ge j w.length with hj | hj
  · rw [List.getD_eq_getElem?_getD, List.getElem?_eq_getElem hj]; exact h _ (List.getElem_mem _)
  · rw [List.getD_eq_getElem?_getD, List.getElem?_eq_none hj]; exact Nat.zero_le _
theorem runR_size {w : List ByteArray} {m : Nat} (h : ∀ x ∈ w, x.size ≤ m) (t : ByteArray) (k : Int) : ∀ j, (runR w t (zeroD k, true) j).1.who.size ≤ m ∧ (runR w t (zeroD k, true) j).1.mill.size ≤ m ∧ (runR w t (zeroD k, true) j).1.to.size ≤ m
  | 0 => ⟨Nat.zero_le _, Nat.zero_le _, Nat.zero_le _⟩
  | j + 1 => by
    have ⟨i1, i2, i3⟩ := runR_size h t k j
    have hs := sat_size h (j + 1)
    rw [runR, stepR]
    split
    · exact ⟨hs, i2, i3⟩
    split
    · exact ⟨i1, hs, i3⟩
    split
    · exact ⟨i1, i2, hs⟩
    split
    · exact ⟨i1, i2, i3⟩
    · exact ⟨i1, i2, i3⟩
set_option maxHeartbeats 16000000 in
set_option maxRecDepth 100000 in
theorem sReadDeed_any (s : ByteArray) (w : World) (hs : s.size ≤ 1048576) :
    Calls Tryz.prog 11 #[.string s] w (ReadD s w) := by
  have B0 := Lib.hid (below_new w (.cells #[.int .i64 0, .string ⟨#[]⟩, .string ⟨#[]⟩, .string ⟨#[]⟩, .int .i64 0] 25))
  have R0 := Lib.hid (RecAt.new Dee.cs w (zeroD 0) 25)
  have RF0 := Lib.hid (fun i => World.frozen?_alloc_at (w := w) #[.int .i64 0, .string ⟨#[]⟩, .string ⟨#[]⟩, .string ⟨#[]⟩, .int .i64 0] 25 w.heap.size i rfl)
  obtain ⟨W0, hW0⟩ : ∃ W0, w.alloc (.cells #[.int .i64 0, .string ⟨#[]⟩, .string ⟨#[]⟩, .string ⟨#[]⟩, .int .i64 0] 25) = W0 := ⟨_, rfl⟩
  rw [show w.alloc (.cells (Dee.cs (zeroD 0)).toArray 25) = W0 from hW0] at R0
  rw [hW0] at B0 RF0
  have hsz0 : W0.heap.size = w.heap.size + 1 := by rw [← hW0]; show (w.heap.push _).size = _; rw [Array.size_push]
  have HZ0 := Lib.hid hsz0
  clear hsz0
  go_enter Tryz.func11, Tryz.ntmps11
  go_wp2_with fail
  refine (l1Split_any s 32 _ hs).mono ?_
  rintro e w1 ⟨a, cap, rfl, hst, hnew, hb1⟩
  clear hW0
  have hlen : (splitB1 32 s).length ≤ s.size + 1 := pieceF_len _ _ _ _ _
  have hpos : 0 < (splitB1 32 s).length := List.length_pos_iff.mpr (pieceF_ne _ _ _ _ _)
  have hsmall : ∀ x ∈ splitB1 32 s, x.size ≤ s.size := pieceF_size _ _ _ _ _
  obtain ⟨ss, hss⟩ : ∃ ss, splitB1 32 s = ss := ⟨_, rfl⟩
  rw [hss] at hst hlen hpos hsmall ⊢
  have HSS := Lib.hid hss
  clear hss
  obtain ⟨b, off, rfl, hc0⟩ := strs_sat hst 0 hpos
  have hbn : W0.heap.size ≤ b := hnew b off rfl
  have hb1' := lt_of_cell hc0
  have hc0' : w1.cell? ⟨b, off, none⟩ = some (.string (sat ss 0)) := hc0
  have HST := Lib.hid hst
  have B1 := Lib.hid (below_trans B0.out hb1)
  have R1 := Lib.hid (R0.out.below hb1)
  have RF1 := Lib.hid (fun o => (hb1.frozen (p := ⟨w.heap.size, o, none⟩) (by have := HZ0.out; show w.heap.size < W0.heap.size; omega)).trans (RF0.out o))
  have hszb := hb1.size
  have hR1 : w.heap.size < w1.heap.size := by have := HZ0.out; omega
  have HSM := Lib.hid hsmall
  clear hst hnew hb1 hc0 hszb hsmall R0 RF0 B0
  obtain ⟨pk, hpk⟩ : ∃ pk, placeV wordsS (sat ss 0) = pk := ⟨_, rfl⟩
  have HPK := Lib.hid hpk
  have hpb := place_bd (sat ss 0)
  rw [hpk] at hpb
  have hwr : IntKind.i64.wrap (pk + 1) = pk + 1 := IntWalk.i64_in _ (by omega)
  have HPB := Lib.hid hpb
  clear hpb
  have hlp : (0 : Int) < ss.length := by omega
  go_wp2_with fail
  have HALF := Lib.hid (show RHalf w w.heap.size (some ⟨b, off, none⟩) ss w1 from ⟨R1.out, RF1.out, HST.out, B1.out, hR1, Nat.le_refl _⟩)
  rename_i K hK
  have tail : ∀ (D : Nat) (W : World) (u13 : Value), Hid (RWay w w.heap.size D (some ⟨b, off, none⟩) ss (zeroD (pk + 1)) W) →
      K ⟨#[.string s, undef, .pointer (some ⟨w.heap.size, 0, none⟩), .bool false, .slice (some ⟨b, off, none⟩) ss.length cap, .pointer (some ⟨D, 0, none⟩), undef, undef, undef, undef, undef, .string s, .slice (some ⟨b, off, none⟩) ss.length cap, u13, .slice (some ⟨b, off, none⟩) ss.length cap, .pointer (some ⟨b, off, none⟩), .string (sat ss 0), .int .i64 pk, .int .i64 (pk + 1), .agg #[.int .i64 (pk + 1), .string ⟨#[]⟩, .string ⟨#[]⟩, .string ⟨#[]⟩, .int .i64 0], undef, undef, undef, undef, undef, undef, undef, undef, undef, undef, undef, undef, undef, undef, undef, undef, undef, undef, undef, undef, undef, undef, undef, undef, undef, undef, undef, undef, undef, undef, undef, undef, undef, undef, undef, undef, undef, undef, undef, undef, undef, undef, undef, undef, undef, undef, undef, undef, undef, undef, undef, undef, undef, undef, undef, undef, undef, undef, undef, undef, undef, undef, undef, undef, undef, undef, undef, undef, undef, undef], []⟩ W := by
    intro D W u13 HW
    refine hK _ _ ?_
    clear hK
    have HRB := Lib.hid (show readB s = readW ss (pk + 1) by rw [readB, HSS.out, HPK.out])
    have hpb := HPB.out
    clear K hc0' hb1' hbn hwr hR1
    have d0 : W.cell? ⟨D, 0, none⟩ = some (.int .i64 (pk + 1)) := HW.out.d 0 _ rfl
    by_cases hk0 : pk + 1 = 0
    · have HNO := Lib.hid (show readB s = none by rw [HRB.out, hk0]; exact readW_zero _)
      rw [hk0] at d0
      have r0 : World.cell? _ ⟨w.heap.size, 0, none⟩ = some (.int .i64 0) := HW.out.r 0 _ rfl
      have r1 : World.cell? _ ⟨w.heap.size, 1, none⟩ = some (.string ⟨#[]⟩) := HW.out.r 1 _ rfl
      have r2 : World.cell? _ ⟨w.heap.size, 2, none⟩ = some (.string ⟨#[]⟩) := HW.out.r 2 _ rfl
      have r3 : World.cell? _ ⟨w.heap.size, 3, none⟩ = some (.string ⟨#[]⟩) := HW.out.r 3 _ rfl
      have r4 : World.cell? _ ⟨w.heap.size, 4, none⟩ = some (.int .i64 0) := HW.out.r 4 _ rfl
      have rf := HW.out.rf
      go_wp2
      exact bodyPost_ret (v := .tuple #[.agg #[.int .i64 0, .string ⟨#[]⟩, .string ⟨#[]⟩, .string ⟨#[]⟩, .int .i64 0], .bool false]) (by simp [results, Tryz.results11, go_sem, r0, r1, r2, r3, r4]) rfl (ReadD.none HNO.out (below_set5 HW.out.below (Nat.le_refl _) _ _ _ _ _))
    obtain ⟨q, hq⟩ : ∃ q, pk + 1 = q := ⟨_, rfl⟩
    rw [hq] at hk0 HRB HW d0
    have hq1 : 1 ≤ q := by omega
    have hq2 : q ≤ 11 := by omega
    have HQ1 := Lib.hid hq1
    have HQ2 := Lib.hid hq2
    rw [hq]
    clear hq hpb hq1 hq2 hpk
    go_wp2_with fail
    refine (l15Tells_any q HQ1.out HQ2.out _).mono ?_
    rintro e W4 ⟨rfl, hb4⟩
    have HW4 := Lib.hid (HW.out.step hb4)
    clear hb4 d0 HW
    have HT4 := Lib.hid (tells_size q)
    have HBAD := Lib.hid (fun h => readW_bad (w := ss) (k := q) h)
    have HLEN := Lib.hid (fun h => readW_len (w := ss) (k := q) h)
    have HOK := Lib.hid (fun hl h1 h2 => readW_ok (w := ss) (k := q) hk0 hl h1 h2)
    obtain ⟨t, ht⟩ : ∃ t, tellsS q = t := ⟨_, rfl⟩
    rw [ht] at HT4 HBAD HLEN HOK ⊢
    clear ht hk0
    have ht4 := HT4.out
    have hsl : ss.length ≤ 1048577 := by omega
    by_cases hl : ss.length = t.size + 1
    case neg =>
      have HNO := Lib.hid (show readB s = none from HRB.out.trans (HLEN.out hl))
      have r0 : World.cell? _ ⟨w.heap.size, 0, none⟩ = some (.int .i64 0) := HW4.out.r 0 _ rfl
      have r1 : World.cell? _ ⟨w.heap.size, 1, none⟩ = some (.string ⟨#[]⟩) := HW4.out.r 1 _ rfl
      have r2 : World.cell? _ ⟨w.heap.size, 2, none⟩ = some (.string ⟨#[]⟩) := HW4.out.r 2 _ rfl
      have r3 : World.cell? _ ⟨w.heap.size, 3, none⟩ = some (.string ⟨#[]⟩) := HW4.out.r 3 _ rfl
      have r4 : World.cell? _ ⟨w.heap.size, 4, none⟩ = some (.int .i64 0) := HW4.out.r 4 _ rfl
      have rf := HW4.out.rf
      have hne : ((ss.length : Int) != (t.size : Int) + 1) = true := by simp; omega
      go_wp2
      exact bodyPost_ret (v := .tuple #[.agg #[.int .i64 0, .string ⟨#[]⟩, .string ⟨#[]⟩, .string ⟨#[]⟩, .int .i64 0], .bool false]) (by simp [results, Tryz.results11, go_sem, r0, r1, r2, r3, r4]) rfl (ReadD.none HNO.out (below_set5 HW4.out.below (Nat.le_refl _) _ _ _ _ _))
    have heq : ((ss.length : Int) != (t.size : Int) + 1) = false := by simp; omega
    go_wp2_with fail
    go_loopw [7, 8] (fun g i wr => ∃ j : Nat, j ≤ t.size ∧ i = .int .i64 j ∧ g = .bool (runR ss t (zeroD q, true) j).2 ∧ RWay w w.heap.size D (some ⟨b, off, none⟩) ss (runR ss t (zeroD q, true) j).1 wr) (fun _ i _ => t.size - (intOf i).toNat)
    case atStart => exact ⟨0, Nat.zero_le _, rfl, rfl, HW4.out⟩
    case round =>
      clear HW4
      obtain ⟨j, hj, rfl, rfl, hr⟩ := hrel
      have HXS := Lib.hid (runR_size HSM.out t q j)
      obtain ⟨x, hx⟩ : ∃ x, runR ss t (zeroD q, true) j = x := ⟨_, rfl⟩
      obtain ⟨xd, xg⟩ := x
      rw [hx] at hr HXS
      have HXE := Lib.hid hx
      rw [hx]
      have HR := Lib.hid hr
      clear hr hx
      by_cases hlt : j < t.size
      · obtain ⟨b', off', e', hcj⟩ := strs_sat HR.out.st (j + 1) (by omega)
        obtain ⟨rfl, rfl⟩ : b = b' ∧ off = off' := by injection e' with e'; injection e' with e1 e2; exact ⟨e1, e2⟩
        clear e'
        have hji : (j : Int) + 1 < ss.length := by omega
        have HSJ := Lib.hid (sat_size HSM.out (j + 1))
        cases e1 : ((t[j].toNat : Int) == 87)
        case true =>
          have HX2 := Lib.hid (show runR ss t (zeroD q, true) (j + 1) = _ from (by rw [runR, byteN_eq hlt] : runR ss t (zeroD q, true) (j + 1) = stepR ss (runR ss t (zeroD q, true) j) (t[j].toNat : Int) j).trans (stepR_w e1))
          have y := HR.out.d 1 _ rfl
          have yf := HR.out.df 1
          have HR2 := Lib.hid (HR.out.put (o := 1) (y := { xd with who := sat ss (j + 1) }) (v := .string (sat ss (j + 1))) (by decide) rfl)
          go_wp2
          go_roundw
          case rel => exact ⟨j + 1, by omega, by go_num, by rw [HX2.out, HXE.out], by rw [HX2.out, HXE.out]; exact HR2.out⟩
          case measure => simp [intOf]; omega
        cases e2 : ((t[j].toNat : Int) == 77)
        case true =>
          have HX2 := Lib.hid (show runR ss t (zeroD q, true) (j + 1) = _ from (by rw [runR, byteN_eq hlt] : runR ss t (zeroD q, true) (j + 1) = stepR ss (runR ss t (zeroD q, true) j) (t[j].toNat : Int) j).trans (stepR_m e1 e2))
          have y := HR.out.d 2 _ rfl
          have yf := HR.out.df 2
          have HR2 := Lib.hid (HR.out.put (o := 2) (y := { xd with mill := sat ss (j + 1) }) (v := .string (sat ss (j + 1))) (by decide) rfl)
          go_wp2
          go_roundw
          case rel => exact ⟨j + 1, by omega, by go_num, by rw [HX2.out, HXE.out], by rw [HX2.out, HXE.out]; exact HR2.out⟩
          case measure => simp [intOf]; omega
        cases e3 : ((t[j].toNat : Int) == 84)
        case true =>
          have HX2 := Lib.hid (show runR ss t (zeroD q, true) (j + 1) = _ from (by rw [runR, byteN_eq hlt] : runR ss t (zeroD q, true) (j + 1) = stepR ss (runR ss t (zeroD q, true) j) (t[j].toNat : Int) j).trans (stepR_t e1 e2 e3))
          have y := HR.out.d 3 _ rfl
          have yf := HR.out.df 3
          have HR2 := Lib.hid (HR.out.put (o := 3) (y := { xd with to := sat ss (j + 1) }) (v := .string (sat ss (j + 1))) (by decide) rfl)
          go_wp2
          go_roundw
          case rel => exact ⟨j + 1, by omega, by go_num, by rw [HX2.out, HXE.out], by rw [HX2.out, HXE.out]; exact HR2.out⟩
          case measure => simp [intOf]; omega
        cases e4 : ((t[j].toNat : Int) == 78)
        case true =>
          have HX2 := Lib.hid (show runR ss t (zeroD q, true) (j + 1) = _ from (by rw [runR, byteN_eq hlt] : runR ss t (zeroD q, true) (j + 1) = stepR ss (runR ss t (zeroD q, true) j) (t[j].toNat : Int) j).trans (stepR_n e1 e2 e3 e4))
          have y := HR.out.d 4 _ rfl
          have yf := HR.out.df 4
          have HR2 := Lib.hid (HR.out.put (o := 4) (y := { xd with n := (readL (sat ss (j + 1)).data.toList).getD 0 }) (v := .int .i64 ((readL (sat ss (j + 1)).data.toList).getD 0)) (by decide) rfl)
          go_wp2_with fail
          refine (l1Read_any (sat ss (j + 1)) _ (by have := HSJ.out; unfold maxLen; omega)).mono ?_
          rintro e w' ⟨rfl, rfl⟩
          go_wp2
          go_roundw
          case rel => exact ⟨j + 1, by omega, by go_num, by rw [HX2.out], by rw [HX2.out, HXE.out]; exact HR2.out⟩
          case measure => simp [intOf]; omega
        have HX2 := Lib.hid (show runR ss t (zeroD q, true) (j + 1) = _ from (by rw [runR, byteN_eq hlt] : runR ss t (zeroD q, true) (j + 1) = stepR ss (runR ss t (zeroD q, true) j) (t[j].toNat : Int) j).trans (stepR_o e1 e2 e3 e4))
        go_wp2
        go_roundw
        case rel => exact ⟨j + 1, by omega, by go_num, by rw [HX2.out, HXE.out], by rw [HX2.out, HXE.out]; exact HR.out⟩
        case measure => simp [intOf]; omega
      · obtain rfl : j = t.size := by omega
        rw [HXE.out] at HBAD HOK
        have r0 : World.cell? _ ⟨w.heap.size, 0, none⟩ = some (.int .i64 0) := HR.out.r 0 _ rfl
        have r1 : World.cell? _ ⟨w.heap.size, 1, none⟩ = some (.string ⟨#[]⟩) := HR.out.r 1 _ rfl
        have r2 : World.cell? _ ⟨w.heap.size, 2, none⟩ = some (.string ⟨#[]⟩) := HR.out.r 2 _ rfl
        have r3 : World.cell? _ ⟨w.heap.size, 3, none⟩ = some (.string ⟨#[]⟩) := HR.out.r 3 _ rfl
        have r4 : World.cell? _ ⟨w.heap.size, 4, none⟩ = some (.int .i64 0) := HR.out.r 4 _ rfl
        have rf := HR.out.rf
        cases xg
        case false =>
          have HNO := Lib.hid (show readB s = none from HRB.out.trans (HBAD.out (.inl rfl)))
          go_wp2
          exact bodyPost_ret (v := .tuple #[.agg #[.int .i64 0, .string ⟨#[]⟩, .string ⟨#[]⟩, .string ⟨#[]⟩, .int .i64 0], .bool false]) (by simp [results, Tryz.results11, go_sem, r0, r1, r2, r3, r4]) rfl (ReadD.none HNO.out (below_set5 HR.out.below (Nat.le_refl _) _ _ _ _ _))
        have z0 : World.cell? _ ⟨D, 0, none⟩ = some (.int .i64 xd.kind) := HR.out.d 0 _ rfl
        have z1 : World.cell? _ ⟨D, 1, none⟩ = some (.string xd.who) := HR.out.d 1 _ rfl
        have z2 : World.cell? _ ⟨D, 2, none⟩ = some (.string xd.mill) := HR.out.d 2 _ rfl
        have z3 : World.cell? _ ⟨D, 3, none⟩ = some (.string xd.to) := HR.out.d 3 _ rfl
        have z4 : World.cell? _ ⟨D, 4, none⟩ = some (.int .i64 xd.n) := HR.out.d 4 _ rfl
        go_wp2_with fail
        refine (sDeedOk_any xd.kind xd.n xd.who xd.mill xd.to _ (by have := HXS.out.1; unfold maxLen; omega) (by have := HXS.out.2.1; unfold maxLen; omega) (by have := HXS.out.2.2; unfold maxLen; omega)).mono ?_
        rintro e w6 ⟨rfl, hb6⟩
        clear r0 r1 r2 r3 r4 rf z0 z1 z2 z3 z4
        have HR6 := Lib.hid (HR.out.step hb6)
        clear hb6
        have r0 : World.cell? _ ⟨w.heap.size, 0, none⟩ = some (.int .i64 0) := HR6.out.r 0 _ rfl
        have r1 : World.cell? _ ⟨w.heap.size, 1, none⟩ = some (.string ⟨#[]⟩) := HR6.out.r 1 _ rfl
        have r2 : World.cell? _ ⟨w.heap.size, 2, none⟩ = some (.string ⟨#[]⟩) := HR6.out.r 2 _ rfl
        have r3 : World.cell? _ ⟨w.heap.size, 3, none⟩ = some (.string ⟨#[]⟩) := HR6.out.r 3 _ rfl
        have r4 : World.cell? _ ⟨w.heap.size, 4, none⟩ = some (.int .i64 0) := HR6.out.r 4 _ rfl
        have rf := HR6.out.rf
        cases hdk : deedB ⟨xd.kind, xd.who, xd.mill, xd.to, xd.n⟩
        case false =>
          have HNO := Lib.hid (show readB s = none from HRB.out.trans (HBAD.out (.inr hdk)))
          go_wp2
          exact bodyPost_ret (v := .tuple #[.agg #[.int .i64 0, .string ⟨#[]⟩, .string ⟨#[]⟩, .string ⟨#[]⟩, .int .i64 0], .bool false]) (by simp [results, Tryz.results11, go_sem, r0, r1, r2, r3, r4]) rfl (ReadD.none HNO.out (below_set5 HR6.out.below (Nat.le_refl _) _ _ _ _ _))
        have HYES := Lib.hid (show readB s = some xd from HRB.out.trans (HOK.out hl (by first | rfl | trivial) hdk))
        have z0 : World.cell? _ ⟨D, 0, none⟩ = some (.int .i64 xd.kind) := HR6.out.d 0 _ rfl
        have z1 : World.cell? _ ⟨D, 1, none⟩ = some (.string xd.who) := HR6.out.d 1 _ rfl
        have z2 : World.cell? _ ⟨D, 2, none⟩ = some (.string xd.mill) := HR6.out.d 2 _ rfl
        have z3 : World.cell? _ ⟨D, 3, none⟩ = some (.string xd.to) := HR6.out.d 3 _ rfl
        have z4 : World.cell? _ ⟨D, 4, none⟩ = some (.int .i64 xd.n) := HR6.out.d 4 _ rfl
        go_wp2
        exact bodyPost_ret (v := .tuple #[.agg #[.int .i64 xd.kind, .string xd.who, .string xd.mill, .string xd.to, .int .i64 xd.n], .bool true]) (by simp [results, Tryz.results11, go_sem, r0, r1, r2, r3, r4]) rfl (ReadD.some HYES.out (below_set5 HR6.out.below (Nat.le_refl _) _ _ _ _ _))
  clear hK
  have HA := Lib.hid (wordsA w1)
  have HBZ := Lib.hid (wordsB w1)
  go_region_with (first
    | (go_at_call 30; (first
        | ((with_reducible refine (HA.out).mono ?_); rintro e w2 ⟨rfl, hw2⟩; have HW2 := Lib.hid hw2; have hcw : w2.cell? ⟨b, off, none⟩ = some (.string (sat ss 0)) := (hw2.below.cell (p := ⟨b, off, none⟩) hb1').trans hc0'; have hb2 := lt_of_cell hcw; have HS2 := Lib.hid hw2.st; have HSZ2 := Lib.hid (strs_below hw2.st (below_new w2 zeroO)); clear hw2)
        | ((with_reducible refine (HBZ.out).mono ?_); rintro e w2 ⟨rfl, hw2, hz2⟩; have HW2 := Lib.hid hw2; have hcw : w2.cell? ⟨b, off, none⟩ = some (.string (sat ss 0)) := (hw2.below.cell (p := ⟨b, off, none⟩) hb1').trans hc0'; have hb2 := lt_of_cell hcw; have HS2 := Lib.hid hw2.st; have hd0 := hz2.c0; have hd1 := hz2.c1; have hd2 := hz2.c2; have hd3 := hz2.c3; have hd4 := hz2.c4; have hdf := hz2.fz; have hdl := lt_of_cell hd0; have HZ2 := Lib.hid hz2; clear hw2 hz2)))
    | (go_at_call 29; (first | (with_reducible refine (at_words (sat ss 0) HS2.out).mono ?_) | (with_reducible refine (at_words (sat ss 0) HSZ2.out).mono ?_)); rintro e w3 ⟨rfl, rfl⟩))
  all_goals first
    | exact tail _ _ _ (Lib.hid (rwayA (pk + 1) HALF.out HW2.out (fun b' off' e => by injection e with e; injection e with e1; omega)))
    | exact tail _ _ _ (Lib.hid (rwayB (pk + 1) HALF.out HW2.out HZ2.out (fun b' off' e => by injection e with e; injection e with e1; omega)))
end Go.Proofs.YtoabpbdjffonlaaGreatDoor
