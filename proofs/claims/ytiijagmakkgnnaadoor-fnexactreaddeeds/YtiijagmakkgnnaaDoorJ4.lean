/-
  Texts joined: Draw2, ShowS, SplitS, SumS, ReadS, ReadD.
-/
import Derived.Test.YtiijagmakkgnnaaDoorJ3
import Derived.Deep.AppendLies
import Derived.OwnWalk
import Derived.Deep.RegionWith
import Derived.WalkMore
import Derived.LoopN
namespace Go.Proofs.YtiijagmakkgnnaaDoor
open Go.ChangeShapes Go.WideShapes Go.ChangeAt Go.RowKit

/-- What a draw of a string leaves. -/
def DrawnS (C : Nat) (a : Option Addr) (len cap : Nat) (w : World) (e : Ending) (w' : World) : Prop :=
  ∃ s : ByteArray, s.size ≤ 7 ∧ e = .returned (.string s) ∧ Cur w' C a len cap ∧ w.grownBy w' (some C)

theorem own_grown {w w' : World} {base : Nat} {e : TypeId} {size : Nat} {v : Value} {n : Nat} {xs : List Value} {row : Option Nat} (h : w.ownsRow base e size v n xs) (hg : w.grownBy w' row)
    (hne : ∀ g, base ≤ g → some g ≠ row) : w'.ownsRow base e size v n xs := by
  refine ⟨h.1, ?_⟩
  rcases h.2 with h0 | ⟨g, cap, cur, hv, hb, hh, hr⟩
  · exact .inl h0
  · refine .inr ⟨g, cap, cur, hv, hb, ?_, hr⟩
    have hlt : g < w.heap.size := by
      rcases Nat.lt_or_ge g w.heap.size with hlt | hge
      · exact hlt
      · rw [Array.getElem?_eq_none hge] at hh; cases hh
    rw [hg.block g hlt (hne g hb)]
    exact hh

/-- A right cursor stays right while a row of the call's own turns. -/
theorem Cur.own {w w' : World} {C B : Nat} {a : Option Addr} {len cap : Nat} {row : Option Nat} (h : Cur w C a len cap) (hg : w.grownBy w' row) (hr : ∀ g, row = some g → B ≤ g) (hC : C < B)
    (ha : ∀ b off, a = some ⟨b, off, none⟩ → 0 < len → b < B) : Cur w' C a len cap := by
  have hb : ∀ b, b < B → b < w.heap.size → w'.heap[b]? = w.heap[b]? := fun b h1 h2 => hg.block b h2 (by intro e; have := hr b e.symm; omega)
  have hCw : C < w.heap.size := lt_of_cell h.c0
  have hcc : ∀ o, w'.cell? ⟨C, o, none⟩ = w.cell? ⟨C, o, none⟩ := fun o => World.cell?_of_block (hb C hC hCw)
  obtain ⟨i, hi, h1⟩ := h.c1
  obtain ⟨q, h2⟩ := h.c2
  refine ⟨by rw [hcc]; exact h.c0, ⟨i, hi, by rw [hcc]; exact h1⟩, ⟨q, by rw [hcc]; exact h2⟩, fun o => by rw [World.frozen?_of_block (hb C hC hCw)]; exact h.fz o, ?_, h.far, h.small⟩
  intro k hk
  obtain ⟨b, off, n, e, h0, h3, hc⟩ := h.row k hk
  exact ⟨b, off, n, e, h0, h3, by rw [World.cell?_of_block (hb b (ha b off e (by omega)) (lt_of_cell hc))]; exact hc⟩

theorem Cur.old {w : World} {C : Nat} {a : Option Addr} {len cap : Nat} (h : Cur w C a len cap) : ∀ b off, a = some ⟨b, off, none⟩ → 0 < len → b < w.heap.size := by
  intro b off e hl
  obtain ⟨b', off', n, e', _, _, hc⟩ := h.row 0 hl
  rw [e] at e'
  injection e' with e'
  injection e' with e1
  subst e1
  exact lt_of_cell hc

/-- What a value that owns strings looks like. -/
theorem own_strs {w : World} {base : Nat} {e : TypeId} {v : Value} {ss : List ByteArray} (h : w.ownsRow base e 1 v ss.length (ss.map .string)) :
    ∃ a cap, v = .slice a ss.length cap ∧ Strs w a ss ∧ ∀ b off, a = some ⟨b, off, none⟩ → base ≤ b := by
  rcases h.2 with ⟨rfl, h0⟩ | ⟨g, cap, cur, rfl, hb, hh, _, _, hs, ht⟩
  · have : ss = [] := List.eq_nil_of_length_eq_zero h0
    subst this
    exact ⟨none, 0, rfl, Lies.nil _ _, fun _ _ e => by cases e⟩
  · refine ⟨_, cap, rfl, ?_, fun b off e => by injection e with e; injection e with e1; omega⟩
    intro k v hk
    have hlt := (List.getElem?_eq_some_iff.1 hk).1
    refine ⟨g, 0, rfl, ?_⟩
    rw [← ht, List.getElem?_take_of_lt (by simpa using hlt)] at hk
    simpa [World.cell?, hh] using hk

theorem own_block {w : World} {base : Nat} {e : TypeId} {size : Nat} {v : Value} {n : Nat} {xs : List Value} (h : w.ownsRow base e size v n xs) : ∀ g, v.ownBlock = some g → base ≤ g := by
  intro g hg
  rcases h.2 with ⟨rfl, _⟩ | ⟨g', cap, cur, rfl, hb, _⟩
  · simp [Value.ownBlock] at hg
  · have : g' = g := by simpa [Value.ownBlock] using hg
    omega
theorem grown_own {a b c : World} {C : Nat} {row : Option Nat} (h : a.grownBy b (some C)) (k : b.grownBy c row) (hr : ∀ g, row = some g → a.heap.size ≤ g) : a.grownBy c (some C) :=
  ⟨k.os.trans h.os, k.tape.trans h.tape, k.output.trans h.output, Nat.le_trans h.size k.size, fun i hi hne => (k.block i (Nat.lt_of_lt_of_le hi h.size) (by intro e; have := hr i e.symm; omega)).trans (h.block i hi hne)⟩
theorem Strs.grown {w w' : World} {C : Nat} {a : Option Addr} {ss : List ByteArray} (h : Strs w a ss) (hg : w.grownBy w' (some C)) (far : ∀ b off, a = some ⟨b, off, none⟩ → b ≠ C) : Strs w' a ss := by
  intro k v hk
  obtain ⟨b, off, rfl, hc⟩ := h k v hk
  exact ⟨b, off, rfl, kept_cell hg hc (far b off rfl)⟩

/-- What a draw of a list of strings leaves. -/
def DrawnL (C : Nat) (a : Option Addr) (len cap : Nat) (w : World) (e : Ending) (w' : World) : Prop :=
  ∃ (b : Option Addr) (c : Nat) (ss : List ByteArray), ss.length ≤ 3 ∧ (∀ s ∈ ss, s.size ≤ 7) ∧ e = .returned (.slice b ss.length c) ∧ Strs w' b ss ∧ (∀ g off, b = some ⟨g, off, none⟩ → w.heap.size ≤ g) ∧ Cur w' C a len cap ∧ w.grownBy w' (some C)

/-- The loop's word: what is drawn so far is the call's own. -/
def ListRel (C : Nat) (a : Option Addr) (len cap : Nat) (w : World) (v i : Value) (wr : World) : Prop :=
  ∃ (k : Nat) (ss : List ByteArray), i = .int .i64 k ∧ ss.length + k ≤ 3 ∧ (∀ s ∈ ss, s.size ≤ 7) ∧ wr.ownsRow w.heap.size 9 1 v ss.length (ss.map .string) ∧ Cur wr C a len cap ∧ w.grownBy wr (some C)

theorem info_str : (Tryd.prog.info? 9).map (fun i => (i.zero, i.size, i.bytes)) = some (some (.string ByteArray.empty), 1, 16) := by kernel_rfl

theorem strs_lit {w : World} {g : Nat} {xs : List ByteArray} (h : ∀ k v, (xs.map Value.string)[k]? = some v → w.cell? ⟨g, k, none⟩ = some v) : Strs w (some ⟨g, 0, none⟩) xs :=
  fun k v hk => ⟨g, 0, rfl, by rw [Nat.zero_add]; exact h k v hk⟩

def names3 : List ByteArray := [⟨#[97, 110, 110]⟩, ⟨#[98, 111, 98]⟩, ⟨#[109, 105, 97]⟩]
theorem names3_at {w : World} {g : Nat} (q0 : w.cell? ⟨g, 0, none⟩ = some (.string ⟨#[97, 110, 110]⟩)) (q1 : w.cell? ⟨g, 1, none⟩ = some (.string ⟨#[98, 111, 98]⟩)) (q2 : w.cell? ⟨g, 2, none⟩ = some (.string ⟨#[109, 105, 97]⟩)) (n : Nat) :
    Strs w (some ⟨g, 0, none⟩) (names3.take n) := by
  refine strs_lit fun k v hk => ?_
  rw [List.map_take, List.getElem?_take] at hk
  split at hk
  · match k, hk with
    | 0, hk => simp [names3] at hk; subst hk; exact q0
    | 1, hk => simp [names3] at hk; subst hk; exact q1
    | 2, hk => simp [names3] at hk; subst hk; exact q2
    | k + 3, hk => simp [names3] at hk
  · cases hk
theorem names3_small (n : Nat) : ∀ s ∈ names3.take n, s.size ≤ 7 := by
  intro s hs
  have := List.mem_of_mem_take hs
  simp [names3] at this
  rcases this with rfl | rfl | rfl <;> decide

/-- What a draw of a name leaves for a law. -/
def GivesS (w : World) (e : Ending) (w' : World) : Prop := ∃ s : ByteArray, s.size ≤ 7 ∧ e = .returned (.string s) ∧ Below w.heap.size w w'
/-- What a draw of a list of strings leaves for a law. -/
def GivesL (w : World) (e : Ending) (w' : World) : Prop :=
  ∃ (b : Option Addr) (c : Nat) (ss : List ByteArray), ss.length ≤ 3 ∧ (∀ s ∈ ss, s.size ≤ 7) ∧ e = .returned (.slice b ss.length c) ∧ Strs w' b ss ∧ Below w.heap.size w w'
/-- What a draw of a list and a string leaves for a law. -/
def GivesLS (w : World) (e : Ending) (w' : World) : Prop :=
  ∃ (b : Option Addr) (c : Nat) (ss : List ByteArray) (s : ByteArray), ss.length ≤ 3 ∧ (∀ s ∈ ss, s.size ≤ 7) ∧ s.size ≤ 7 ∧ e = .returned (.tuple #[.slice b ss.length c, .string s]) ∧ Strs w' b ss ∧ Below w.heap.size w w'

end Go.Proofs.YtiijagmakkgnnaaDoor
namespace Go.Proofs.YtiijagmakkgnnaaDoor
open Go.ChangeShapes Go.WideShapes Go.ChangeAt Go.RowKit

/-- The world behind l15Words. -/
def wordsW (w : World) : World := w.alloc (.cells (wordsS.map Value.string).toArray 9)
/-- A block with the words has been laid. -/
def Words (w w' : World) : Prop := w' = wordsW w
theorem l15Words_any (w : World) : Calls Tryd.prog 26 #[] w fun e w' => e = .returned (.slice (some ⟨w.heap.size, 0, none⟩) 11 11) ∧ Words w w' := by
  go_enter Tryd.func26, Tryd.ntmps26
  go_wp2
  go_ret
  exact ⟨rfl, rfl⟩
theorem wordsW_below (w : World) : Below w.heap.size w (wordsW w) := below_new _ _
theorem wordsW_size (w : World) : (wordsW w).heap.size = w.heap.size + 1 := by show (w.heap.push _).size = _; rw [Array.size_push]
theorem word_cell (w : World) {k : Nat} (h : k < 11) : (wordsW w).cell? ⟨w.heap.size, k, none⟩ = some (.string (wordsS.getD k ByteArray.empty)) := by
  rw [wordsW, World.cell?_alloc_mark]
  have h' : k < wordsS.length := h
  rw [List.getElem?_toArray, List.getElem?_map, List.getElem?_eq_getElem h', List.getD_eq_getElem?_getD, List.getElem?_eq_getElem h']; rfl
theorem wordsW_strs (w : World) : Strs (wordsW w) (some ⟨w.heap.size, 0, none⟩) wordsS := strs_lit fun k v hk => by
  rw [wordsW, World.cell?_alloc_mark, List.getElem?_toArray]; exact hk
theorem Words.cell {w w' : World} (h : Words w w') {k : Nat} (hk : k < 11) : w'.cell? ⟨w.heap.size, k, none⟩ = some (.string (wordsS.getD k ByteArray.empty)) := by rw [h]; exact word_cell w hk
theorem Words.old {w w' : World} (h : Words w w') {b o : Nat} (hb : b < w.heap.size) : w'.cell? ⟨b, o, none⟩ = w.cell? ⟨b, o, none⟩ := by rw [h]; exact (wordsW_below w).cell hb
theorem Words.below {w w' : World} (h : Words w w') : Below w.heap.size w w' := by rw [h]; exact wordsW_below w
theorem field_size {d : Dee} (h : deedB d = true) : d.who.size ≤ 6 ∧ d.mill.size ≤ 6 ∧ d.to.size ≤ 6 ∧ (itoaB d.n).size ≤ 9 := by
  obtain ⟨_, h3, h4, h5, _⟩ := deed_true h
  have hn := deed_num h
  have z : (48 : UInt8).toNat < 97 := by decide
  refine ⟨(nameIs_no h3 z).2, (nameIs_no h4 z).2, (nameIs_no h5 z).2, ?_⟩
  have : (Lib.itoa d.n).length ≤ 9 := by
    rw [Lib.itoa, if_neg (by omega)]
    exact dec_len (k := 8) (by omega)
  exact this
theorem word_mem' {k : Nat} (h : k < 11) : wordsS.getD k ByteArray.empty ∈ wordsS := by
  have hlt : k < wordsS.length := h
  rw [List.getD_eq_getElem?_getD, List.getElem?_eq_getElem hlt]; exact List.getElem_mem _
theorem addF_size {d : Dee} (h : deedB d = true) (s : ByteArray) (c : Int) : (addF d s c).size ≤ s.size + 10 := by
  have ⟨h1, h2, h3, h4⟩ := field_size h
  have z : (⟨#[32]⟩ : ByteArray).size = 1 := rfl
  unfold addF
  split
  · rw [ByteArray.size_append, ByteArray.size_append]; omega
  split
  · rw [ByteArray.size_append, ByteArray.size_append]; omega
  split
  · rw [ByteArray.size_append, ByteArray.size_append]; omega
  split
  · rw [ByteArray.size_append, ByteArray.size_append]; omega
  · omega
theorem textN_size {d : Dee} (h : deedB d = true) (t s : ByteArray) : ∀ j, (textN d t s j).size ≤ s.size + 10 * j
  | 0 => Nat.le_refl _
  | j + 1 => by have := addF_size h (textN d t s j) (byteN t j); have := textN_size h t s j; rw [textN]; omega
theorem addF_w {d : Dee} {s : ByteArray} {c : Int} (h : (c == 87) = true) : addF d s c = s ++ ⟨#[32]⟩ ++ d.who := if_pos (by simpa using h)
theorem addF_m {d : Dee} {s : ByteArray} {c : Int} (h1 : (c == 87) = false) (h : (c == 77) = true) : addF d s c = s ++ ⟨#[32]⟩ ++ d.mill := by
  rw [addF, if_neg (by simpa using h1), if_pos (by simpa using h)]
theorem addF_t {d : Dee} {s : ByteArray} {c : Int} (h1 : (c == 87) = false) (h2 : (c == 77) = false) (h : (c == 84) = true) : addF d s c = s ++ ⟨#[32]⟩ ++ d.to := by
  rw [addF, if_neg (by simpa using h1), if_neg (by simpa using h2), if_pos (by simpa using h)]
theorem addF_n {d : Dee} {s : ByteArray} {c : Int} (h1 : (c == 87) = false) (h2 : (c == 77) = false) (h3 : (c == 84) = false) (h : (c == 78) = true) : addF d s c = s ++ ⟨#[32]⟩ ++ itoaB d.n := by
  rw [addF, if_neg (by simpa using h1), if_neg (by simpa using h2), if_neg (by simpa using h3), if_pos (by simpa using h)]
theorem addF_o {d : Dee} {s : ByteArray} {c : Int} (h1 : (c == 87) = false) (h2 : (c == 77) = false) (h3 : (c == 84) = false) (h : (c == 78) = false) : addF d s c = s := by
  rw [addF, if_neg (by simpa using h1), if_neg (by simpa using h2), if_neg (by simpa using h3), if_neg (by simpa using h)]

theorem undrew_below {w w2 : World} (h : Below w.drew.heap.size w.drew w2) : Below w.heap.size w w2 := ⟨h.os, h.tape, h.output, h.size, h.block⟩
/-- What ShowDeed has behind it. -/
def ShowRel (d : Dee) (t wd : ByteArray) (w : World) (v i : Value) (wr : World) : Prop :=
  ∃ j : Nat, j ≤ t.size ∧ i = .int .i64 j ∧ v = .string (textN d t wd j) ∧ RecAt Dee.cs wr w.heap.size d ∧ Below w.heap.size w wr ∧ w.heap.size < wr.heap.size

set_option maxHeartbeats 8000000 in
set_option maxRecDepth 100000 in
theorem sShowDeed_any (k n : Int) (who mill to : ByteArray) (w : World) (h1 : who.size ≤ maxLen) (h2 : mill.size ≤ maxLen) (h3 : to.size ≤ maxLen) :
    Calls Tryd.prog 11 #[.agg #[.int .i64 k, .string who, .string mill, .string to, .int .i64 n]] w fun e w' => e = .returned (.string (showB ⟨k, who, mill, to, n⟩)) ∧ Below w.heap.size w w' := by
  have HS1 := Lib.hid h1
  have HS2 := Lib.hid h2
  have HS3 := Lib.hid h3
  clear h1 h2 h3
  have HX := Lib.hid (RecAt.new Dee.cs w ⟨k, who, mill, to, n⟩ 26)
  have B0 := Lib.hid (below_new w (.cells #[.int .i64 k, .string who, .string mill, .string to, .int .i64 n] 26))
  obtain ⟨W, hW⟩ : ∃ W, w.alloc (.cells #[.int .i64 k, .string who, .string mill, .string to, .int .i64 n] 26) = W := ⟨_, rfl⟩
  rw [show w.alloc (.cells (Dee.cs ⟨k, who, mill, to, n⟩).toArray 26) = W from hW] at HX
  rw [hW] at B0
  have hWs : W.heap.size = w.heap.size + 1 := by rw [← hW]; show (w.heap.push _).size = _; rw [Array.size_push]
  have c0 := HX.out 0 _ rfl
  have c1 := HX.out 1 _ rfl
  have c2 := HX.out 2 _ rfl
  have c3 := HX.out 3 _ rfl
  have c4 := HX.out 4 _ rfl
  go_enter Tryd.func11, Tryd.ntmps11
  go_wp2_with fail
  refine (sDeedOk_any k n who mill to _ HS1.out HS2.out HS3.out).mono ?_
  rintro e w1 ⟨rfl, hb1⟩
  clear c0 c1 c2 c3 c4
  have HX1 := Lib.hid (HX.out.below hb1)
  have B1 := Lib.hid (below_trans B0.out hb1)
  have hw1 : w.heap.size < w1.heap.size := by have := hb1.size; omega
  clear hb1 HX B0 hW hWs
  cases hok : deedB ⟨k, who, mill, to, n⟩
  · have HN := Lib.hid (show showB ⟨k, who, mill, to, n⟩ = ByteArray.empty by rw [showB, hok]; rfl)
    go_wp2
    go_ret
    exact ⟨by rw [HN.out]; rfl, B1.out⟩
  obtain ⟨⟨hk1, hk2⟩, _⟩ := deed_true hok
  simp only at hk1 hk2
  have HOK := Lib.hid hok
  obtain ⟨q, rfl⟩ : ∃ q : Nat, k = (q : Int) + 1 := ⟨(k - 1).toNat, by omega⟩
  have hq : q < 11 := by omega
  have HQ := Lib.hid hq
  have hqi : (q : Int) < 11 := by omega
  have hq0 : (0 : Int) ≤ q := by omega
  have hwq : IntKind.i64.wrap (q : Int) = q := IntWalk.i64_in _ (by omega)
  have c0 := HX1.out 0 _ rfl
  obtain ⟨wd, hwd⟩ : ∃ wd, wordsS.getD q ByteArray.empty = wd := ⟨_, rfl⟩
  have HWD := Lib.hid hwd
  clear hwd hok hk1 hk2 hq
  go_wp2_with fail
  go_region_with (go_at_call 26; refine (l15Words_any _).mono ?_; rintro e w2 ⟨rfl, hw2⟩; have hcw : w2.cell? ⟨w1.heap.size, q, none⟩ = some (.string wd) := (Words.cell hw2 HQ.out).trans (by rw [HWD.out]); have c0' : w2.cell? ⟨w.heap.size, 0, none⟩ = some (.int .i64 ((q : Int) + 1)) := (Words.old (o := 0) hw2 hw1).trans c0; have HW2 := Lib.hid hw2; clear hw2)
  all_goals
    have HX2 := Lib.hid (show RecAt Dee.cs w2 w.heap.size ⟨(q : Int) + 1, who, mill, to, n⟩ from fun j v hj => (Words.old HW2.out hw1).trans (HX1.out j v hj))
    have hws := (undrew_below (Words.below HW2.out)).size
    have B2 := Lib.hid (below_trans B1.out (undrew_below (Words.below HW2.out)))
    have hw2 : w.heap.size < w2.heap.size := by omega
    clear hws HW2 c0 hcw c0' HX1 B1 hw1 hq0 hwq
    have c0 := HX2.out 0 _ rfl
    go_wp2_with fail
    refine (l15Tells_any _ (by omega) (by omega) _).mono ?_
    rintro e w3 ⟨rfl, hb3⟩
    have HX3 := Lib.hid (HX2.out.below hb3)
    have B3 := Lib.hid (below_trans B2.out hb3)
    have hw3 : w.heap.size < w3.heap.size := by have := hb3.size; omega
    clear hb3 HX2 B2 c0 hw2
    have HT := Lib.hid (tells_size ((q : Int) + 1))
    have HSZ := Lib.hid (fun j => textN_size HOK.out (tellsS ((q : Int) + 1)) wd j)
    have HSW := Lib.hid (show wd.size ≤ 6 by rw [← HWD.out]; exact (by decide : ∀ x ∈ wordsS, x.size ≤ 6) _ (word_mem' HQ.out))
    have HN := Lib.hid (show showB ⟨(q : Int) + 1, who, mill, to, n⟩ = textN ⟨(q : Int) + 1, who, mill, to, n⟩ (tellsS ((q : Int) + 1)) wd (tellsS ((q : Int) + 1)).size by
      rw [showB, if_pos HOK.out, ← HWD.out]
      have e : ((q : Int) + 1 - 1).toNat = q := by omega
      simp only [e])
    obtain ⟨t, ht⟩ : ∃ t, tellsS ((q : Int) + 1) = t := ⟨_, rfl⟩
    rw [ht] at HN HSZ HT ⊢
    have HTT := Lib.hid ht
    clear ht
    obtain ⟨D, hD⟩ : ∃ D : Dee, ⟨(q : Int) + 1, who, mill, to, n⟩ = D := ⟨_, rfl⟩
    have HDD := Lib.hid hD
    rw [hD] at HX3 HN HSZ HOK
    have HFS := Lib.hid (field_size HOK.out)
    have HNU := Lib.hid (deed_num HOK.out)
    clear hD
    go_wp2_with fail
    go_loopw [3, 5] (fun v i wr => ShowRel D t wd w v i wr) (fun _ i _ => t.size - (intOf i).toNat)
    case atStart => exact ⟨0, Nat.zero_le _, rfl, rfl, HX3.out, B3.out, hw3⟩
    case round =>
      clear HX3 B3 hw3
      obtain ⟨j, hj, rfl, rfl, hr, hb, hwr⟩ := hrel
      have HR := Lib.hid hr
      have HB := Lib.hid hb
      clear hr hb
      have ht4 := HT.out
      have hs1 := HSZ.out j
      have hs2 := HSW.out
      have ⟨hf1, hf2, hf3, hf4⟩ := HFS.out
      by_cases hlt : j < t.size
      · cases e1 : ((t[j].toNat : Int) == 87)
        case true =>
          have HS := Lib.hid (show textN D t wd (j + 1) = _ from (by rw [textN, byteN_eq hlt] : textN D t wd (j + 1) = addF D (textN D t wd j) (t[j].toNat : Int)).trans (addF_w e1))
          have y := HR.out 1 _ rfl
          go_wp2
          go_roundw
          case rel => exact ⟨j + 1, by omega, by go_num, by rw [HS.out], HR.out, HB.out, hwr⟩
          case measure => simp [intOf]; omega
        cases e2 : ((t[j].toNat : Int) == 77)
        case true =>
          have HS := Lib.hid (show textN D t wd (j + 1) = _ from (by rw [textN, byteN_eq hlt] : textN D t wd (j + 1) = addF D (textN D t wd j) (t[j].toNat : Int)).trans (addF_m e1 e2))
          have y := HR.out 2 _ rfl
          go_wp2
          go_roundw
          case rel => exact ⟨j + 1, by omega, by go_num, by rw [HS.out], HR.out, HB.out, hwr⟩
          case measure => simp [intOf]; omega
        cases e3 : ((t[j].toNat : Int) == 84)
        case true =>
          have HS := Lib.hid (show textN D t wd (j + 1) = _ from (by rw [textN, byteN_eq hlt] : textN D t wd (j + 1) = addF D (textN D t wd j) (t[j].toNat : Int)).trans (addF_t e1 e2 e3))
          have y := HR.out 3 _ rfl
          go_wp2
          go_roundw
          case rel => exact ⟨j + 1, by omega, by go_num, by rw [HS.out], HR.out, HB.out, hwr⟩
          case measure => simp [intOf]; omega
        cases e4 : ((t[j].toNat : Int) == 78)
        case true =>
          have HS := Lib.hid (show textN D t wd (j + 1) = _ from (by rw [textN, byteN_eq hlt] : textN D t wd (j + 1) = addF D (textN D t wd j) (t[j].toNat : Int)).trans (addF_n e1 e2 e3 e4))
          have y := HR.out 4 _ rfl
          have hnum := HNU.out
          go_wp2_with fail
          refine (l1Int_any D.n (by omega) (by omega) _).mono ?_
          rintro e w5 ⟨rfl, hb5⟩
          have HR5 := Lib.hid (HR.out.below hb5)
          have HB5 := Lib.hid (below_trans HB.out hb5)
          have hw5 : w.heap.size < w5.heap.size := by have := hb5.size; omega
          clear hb5 y hnum
          go_wp2
          go_roundw
          case rel => exact ⟨j + 1, by omega, by go_num, by rw [HS.out], HR5.out, HB5.out, hw5⟩
          case measure => simp [intOf]; omega
        have HS := Lib.hid (show textN D t wd (j + 1) = _ from (by rw [textN, byteN_eq hlt] : textN D t wd (j + 1) = addF D (textN D t wd j) (t[j].toNat : Int)).trans (addF_o e1 e2 e3 e4))
        go_wp2
        go_roundw
        case rel => exact ⟨j + 1, by omega, by go_num, by rw [HS.out], HR.out, HB.out, hwr⟩
        case measure => simp [intOf]; omega
      · obtain rfl : j = t.size := by omega
        go_wp2
        go_ret
        exact ⟨by rw [HDD.out, HN.out]; rfl, HB.out⟩
end Go.Proofs.YtiijagmakkgnnaaDoor
namespace Go.Proofs.YtiijagmakkgnnaaDoor
open Go.ChangeShapes Go.WideShapes Go.ChangeAt Go.RowKit

theorem byte_at {s : ByteArray} {j : Nat} (h : j < s.size) : s.data.toList.getD j 0 = s[j] := by
  have h' : j < s.data.toList.length := h
  rw [List.getD_eq_getElem?_getD, List.getElem?_eq_getElem h']; rfl
theorem piece_hit {s : ByteArray} {c : Int} {p j : Nat} (h : j < s.size) (hc : ((s[j].toNat : Int) == c) = true) :
    pieceF c s p j (s.size - j) = s.extract p j :: pieceF c s (j + 1) (j + 1) (s.size - (j + 1)) := by
  have : s.size - j = (s.size - (j + 1)) + 1 := by omega
  rw [this, pieceF, byte_at h, if_pos (by simpa using hc)]
theorem piece_miss {s : ByteArray} {c : Int} {p j : Nat} (h : j < s.size) (hc : ((s[j].toNat : Int) == c) = false) :
    pieceF c s p j (s.size - j) = pieceF c s p (j + 1) (s.size - (j + 1)) := by
  have : s.size - j = (s.size - (j + 1)) + 1 := by omega
  rw [this, pieceF, byte_at h, if_neg (by simpa using hc)]
theorem piece_end (s : ByteArray) (c : Int) (p : Nat) : pieceF c s p s.size (s.size - s.size) = [s.extract p s.size] := by rw [Nat.sub_self]; rfl

/-- What l1Split has behind it. -/
def SplitRel (c : Int) (s : ByteArray) (w : World) (v f i : Value) (wr : World) : Prop :=
  ∃ (ss : List ByteArray) (j p : Nat), f = .int .i64 p ∧ i = .int .i64 j ∧ wr.ownsRow w.heap.size 9 1 v ss.length (ss.map .string) ∧ Below w.heap.size w wr ∧ ss.length ≤ j ∧ j ≤ s.size + 1 ∧
    (j ≤ s.size → p ≤ j ∧ ss ++ pieceF c s p j (s.size - j) = splitB1 c s) ∧ (j = s.size + 1 → ss = splitB1 c s)

def Split (c : Int) (s : ByteArray) (w : World) (e : Ending) (w' : World) : Prop :=
  ∃ (a : Option Addr) (cap : Nat), e = .returned (.slice a (splitB1 c s).length cap) ∧ Strs w' a (splitB1 c s) ∧ (∀ b off, a = some ⟨b, off, none⟩ → w.heap.size ≤ b) ∧ Below w.heap.size w w'

set_option maxHeartbeats 4000000 in
set_option maxRecDepth 100000 in
theorem l1Split_any (s : ByteArray) (c : Int) (w : World) (hs : s.size ≤ 1048576) :
    Calls Tryd.prog 30 #[.string s, .int .u8 c] w (Split c s w) := by
  obtain ⟨i0, hi, hz0, hz1, hz2⟩ := info_parts info_str
  have HI := Lib.hid hi
  have HZ0 := Lib.hid hz0
  have HZ1 := Lib.hid hz1
  have HZ2 := Lib.hid hz2
  clear hi hz0 hz1 hz2
  have HR : Hid (SplitRel c s w (.slice (some ⟨w.heap.size, 0, none⟩) 0 0) (.int .i64 0) (.int .i64 0) (w.alloc (.cells #[] 9))) := by
    refine ⟨[], 0, 0, rfl, rfl, ⟨by simp, .inr ⟨w.heap.size, 0, #[], rfl, Nat.le_refl _, heap_alloc_new _ _, Nat.le_refl _, Nat.zero_le _, by simp, by simp⟩⟩, below_new _ _, Nat.le_refl _, Nat.zero_le _, fun _ => ⟨Nat.le_refl _, rfl⟩, fun h => by omega⟩
  go_enter Tryd.func30, Tryd.ntmps30
  go_wp2_with fail
  go_loopw [5, 6, 7] (fun v f i wr => SplitRel c s w v f i wr) (fun _ _ i _ => s.size + 1 - (intOf i).toNat)
  case atStart => exact HR.out
  case round =>
    clear HR
    obtain ⟨ss, j, p, rfl, rfl, hown, hbel, hlen, hj, h1, h2⟩ := hrel
    have HW := Lib.hid hown
    have HB := Lib.hid hbel
    have H1 := Lib.hid h1
    have H2 := Lib.hid h2
    have hwr : w.heap.size ≤ wr.heap.size := hbel.size
    clear hown hbel h1 h2
    by_cases hlt : j ≤ s.size
    · obtain ⟨hp, hq⟩ := H1.out hlt
      have HQ := Lib.hid hq
      clear hq
      by_cases hjs : j < s.size
      · have hne : ((j : Int) == (s.size : Int)) = false := by simp; omega
        cases hc : ((s[j].toNat : Int) == c)
        · have HM := Lib.hid (piece_miss (p := p) hjs hc)
          obtain ⟨a, cp, rfl, _, _⟩ := own_strs HW.out
          go_wp2
          go_roundw
          case rel => exact ⟨ss, j + 1, p, rfl, by go_num, HW.out, HB.out, by omega, by omega, fun _ => ⟨by omega, by rw [← HM.out]; exact HQ.out⟩, fun q => by omega⟩
          case measure => simp [intOf]; omega
        · have HM := Lib.hid (piece_hit (p := p) hjs hc)
          obtain ⟨a, cp0, rfl, _, _⟩ := own_strs HW.out
          go_wp2_with (at_builtin; refine wpList_append_lies _ rfl _ _ 43 rfl w.heap.size 9 i0 (.string ByteArray.empty) 1 16 Tryd.underlying43 HI.out HZ0.out HZ1.out HZ2.out rfl (by decide) _ _ _ rfl (HW.out.alloc _) ⟨wr.heap.size, 0, none⟩ 1 1 [.string (s.extract p j)] rfl rfl ?c1 ?c2 (by decide) ?c3 ?c4 ?c5 _ rfl ?_)
          case c1 =>
            intro k u hk
            match k, hk with
            | 0, hk => simp at hk; subst hk; simp [Addr.add]
          case c2 => intro u hu; simp at hu; subst hu; rfl
          case c3 => unfold maxLen; omega
          case c4 => omega
          case c5 => simp; omega
          intro g cp w3 hown3 hgrow hat hlt3
          have HR : Hid (SplitRel c s w (.slice (some ⟨g, 0, none⟩) (ss.length + 1) cp) (.int .i64 (j + 1)) (.int .i64 (j + 1)) w3) := by
            refine ⟨ss ++ [s.extract p j], j + 1, j + 1, rfl, rfl, by simpa using hown3, (below_trans HB.out (below_new wr (.cells #[.string (s.extract p j)] 9))).grown hgrow (by show w.heap.size ≤ (wr.heap.push _).size; rw [Array.size_push]; omega) (own_block HW.out), by simp; omega, by omega, fun q => ?_, fun q => ?_⟩
            · exact ⟨Nat.le_refl _, by rw [← HQ.out, HM.out, List.append_assoc]; rfl⟩
            · omega
          clear hown3 hgrow hat hlt3
          go_wp2
          go_roundw
          case rel => first | exact HR.out | (have := HR.out; simpa using this)
          case measure => first | (simp [intOf]; omega) | simp [intOf]
      · obtain rfl : j = s.size := by omega
        have hne : ((s.size : Int) == (s.size : Int)) = true := by simp
        have HM := Lib.hid (piece_end s c p)
        obtain ⟨a, cp0, rfl, _, _⟩ := own_strs HW.out
        go_wp2_with (at_builtin; refine wpList_append_lies _ rfl _ _ 43 rfl w.heap.size 9 i0 (.string ByteArray.empty) 1 16 Tryd.underlying43 HI.out HZ0.out HZ1.out HZ2.out rfl (by decide) _ _ _ rfl (HW.out.alloc _) ⟨wr.heap.size, 0, none⟩ 1 1 [.string (s.extract p s.size)] rfl rfl ?c1 ?c2 (by decide) ?c3 ?c4 ?c5 _ rfl ?_)
        case c1 =>
          intro k u hk
          match k, hk with
          | 0, hk => simp at hk; subst hk; simp [Addr.add]
        case c2 => intro u hu; simp at hu; subst hu; rfl
        case c3 => unfold maxLen; omega
        case c4 => omega
        case c5 => simp; omega
        intro g cp w3 hown3 hgrow hat hlt3
        have HR : Hid (SplitRel c s w (.slice (some ⟨g, 0, none⟩) (ss.length + 1) cp) (.int .i64 (s.size + 1)) (.int .i64 (s.size + 1)) w3) := by
          refine ⟨ss ++ [s.extract p s.size], s.size + 1, s.size + 1, rfl, rfl, by simpa using hown3, (below_trans HB.out (below_new wr (.cells #[.string (s.extract p s.size)] 9))).grown hgrow (by show w.heap.size ≤ (wr.heap.push _).size; rw [Array.size_push]; omega) (own_block HW.out), by simp; omega, by omega, fun q => ?_, fun q => ?_⟩
          · omega
          · rw [← HQ.out, HM.out]
        clear hown3 hgrow hat hlt3
        go_wp2
        go_roundw
        case rel => first | exact HR.out | (have := HR.out; simpa using this)
        case measure => first | (simp [intOf]; done) | (simp [intOf]; omega)
    · obtain rfl : j = s.size + 1 := by omega
      have he := H2.out rfl
      subst he
      obtain ⟨a, cp, rfl, hst, hnew⟩ := own_strs HW.out
      have HT := Lib.hid hst
      have HN := Lib.hid hnew
      clear hst hnew
      go_wp2
      go_ret
      exact ⟨a, cp, rfl, HT.out, HN.out, HB.out⟩
end Go.Proofs.YtiijagmakkgnnaaDoor
namespace Go.Proofs.YtiijagmakkgnnaaDoor
open Go.ChangeShapes Go.WideShapes Go.ChangeAt Go.RowKit

theorem sumW_take {s : ByteArray} {k : Nat} (h : k < s.size) : sumW 0 (s.data.toList.take (k + 1)) = sumW 0 (s.data.toList.take k) + (k + 1) * s[k].toNat := by
  have h' : k < s.data.toList.length := h
  rw [List.take_add_one, List.getElem?_eq_getElem h', Option.toList_some, sumW_append]
  have hl : (s.data.toList.take k).length = k := by rw [List.length_take]; omega
  rw [hl, sumW, sumW, Nat.zero_add, Nat.add_zero]; rfl
theorem sumB_long {s : ByteArray} (h : 200 < s.size) : sumB s = -1 := if_pos h
theorem sumB_short {s : ByteArray} (h : ¬ 200 < s.size) : sumB s = ((sumW 0 (s.data.toList.take s.size) % 997 : Nat) : Int) := by
  have : s.data.toList.take s.size = s.data.toList := List.take_of_length_le (Nat.le_refl _)
  rw [this]; exact if_neg h
theorem sum_next (z x : Nat) (c : Int) (hc : c = (x : Int)) : ((z : Int) % 997 + c) % 997 = (((z + x) % 997 : Nat) : Int) := by
  subst hc
  omega
theorem prod_small {k c : Nat} (hk : k < 200) (hc : c < 256) : 0 ≤ ((k : Int) + 1) * (c : Int) ∧ ((k : Int) + 1) * (c : Int) ≤ 51000 := by
  have := Nat.mul_le_mul (show k + 1 ≤ 200 by omega) (show c ≤ 255 by omega)
  have e : ((k : Int) + 1) * (c : Int) = (((k + 1) * c : Nat) : Int) := by rw [Int.natCast_mul]; rfl
  rw [e]; omega

end Go.Proofs.YtiijagmakkgnnaaDoor
namespace Go.Proofs.YtiijagmakkgnnaaDoor
open Go.ChangeShapes Go.WideShapes Go.ChangeAt Go.RowKit

def readI (neg : Bool) (l : List UInt8) (i : Nat) : Option Int :=
  if (l.drop i).length < 1 ∨ 9 < (l.drop i).length then none else if (l.drop i).all isDig = false then none
  else if (l.drop i).head? = some 48 ∧ (neg = true ∨ 1 < l.length) then none else some (if neg = true then -(valL (l.drop i) : Int) else valL (l.drop i))
theorem readL_neg {l : List UInt8} (h : (l.head? == some 45) = true) : readL l = readI true l 1 := by
  unfold readL readI
  simp only [h, if_true, List.drop_one, true_or, and_true]
theorem readL_pos {l : List UInt8} (h : (l.head? == some 45) = false) : readL l = readI false l 0 := by
  unfold readL readI
  simp only [h, Bool.false_eq_true, if_false, List.drop_zero, false_or]
def numV (r : Option Int) : Value := .int .i64 (r.getD 0)
theorem drop_size (s : ByteArray) (i : Nat) : (s.data.toList.drop i).length = s.size - i := by rw [List.length_drop]; rfl
theorem readI_short {neg : Bool} {s : ByteArray} {i : Nat} (h : s.size - i < 1 ∨ 9 < s.size - i) : readI neg s.data.toList i = none := by
  rw [readI, drop_size, if_pos h]
/-- The first ones up to k are digits. -/
def Digs (s : ByteArray) (i k : Nat) : Prop := ((s.data.toList.drop i).take (k - i)).all isDig = true
theorem take_at {s : ByteArray} {i k : Nat} (hi : i ≤ k) (h : k < s.size) : (s.data.toList.drop i).take (k + 1 - i) = (s.data.toList.drop i).take (k - i) ++ [s[k]] := by
  have h' : k < s.data.toList.length := h
  have : k + 1 - i = (k - i) + 1 := by omega
  rw [this, List.take_add_one, List.getElem?_drop]
  have : i + (k - i) = k := by omega
  rw [this, List.getElem?_eq_getElem h']; rfl
theorem Digs.succ {s : ByteArray} {i k : Nat} (h : Digs s i k) (hi : i ≤ k) (hk : k < s.size) (h1 : ¬ (s[k].toNat : Int) < 48) (h2 : ¬ (s[k].toNat : Int) > 57) : Digs s i (k + 1) := by
  unfold Digs
  rw [take_at hi hk, List.all_append, h, Bool.true_and, List.all_cons, List.all_nil, Bool.and_true, isDig, decide_eq_true_eq]
  omega
theorem Digs.all {s : ByteArray} {i : Nat} (h : Digs s i s.size) : (s.data.toList.drop i).all isDig = true := by
  unfold Digs at h
  rw [List.take_of_length_le (by rw [drop_size]; omega)] at h; exact h
theorem readI_bad {neg : Bool} {s : ByteArray} {i k : Nat} (hi : i ≤ k) (hk : k < s.size) (h : (s[k].toNat : Int) < 48 ∨ (s[k].toNat : Int) > 57) : readI neg s.data.toList i = none := by
  have hf : (s.data.toList.drop i).all isDig = false := by
    rw [Bool.eq_false_iff]
    intro q
    rw [List.all_eq_true] at q
    have hm : s[k] ∈ s.data.toList.drop i := by
      have h' : k < s.data.toList.length := hk
      have : s[k] = (s.data.toList.drop i)[k - i]'(by rw [drop_size]; omega) := by
        rw [List.getElem_drop]
        have e : i + (k - i) = k := by omega
        simp only [e]; rfl
      rw [this]; exact List.getElem_mem _
    have := digB_true (q _ hm)
    omega
  by_cases c : (s.data.toList.drop i).length < 1 ∨ 9 < (s.data.toList.drop i).length
  · rw [readI, if_pos c]
  · rw [readI, if_neg c, if_pos hf]
theorem valL_next {s : ByteArray} {i k : Nat} (hi : i ≤ k) (hk : k < s.size) : valL ((s.data.toList.drop i).take (k + 1 - i)) = valL ((s.data.toList.drop i).take (k - i)) * 10 + (s[k].toNat - 48) := by
  rw [take_at hi hk, valL_snoc]
theorem valL_small {s : ByteArray} {i k : Nat} (h : Digs s i k) (hk : k - i ≤ 9) : valL ((s.data.toList.drop i).take (k - i)) < 1000000000 := by
  have h1 := valL_lt _ _ rfl h
  have : ((s.data.toList.drop i).take (k - i)).length ≤ 9 := by rw [List.length_take]; omega
  have : (10 : Nat) ^ ((s.data.toList.drop i).take (k - i)).length ≤ 10 ^ 9 := Nat.pow_le_pow_right (by omega) this
  omega
theorem head_at {s : ByteArray} {i : Nat} (h : i < s.size) : (s.data.toList.drop i).head? = some s[i] := by
  have h' : i < s.data.toList.length := h
  rw [List.head?_drop, List.getElem?_eq_getElem h']; rfl
theorem is48 {c : UInt8} : some c = some 48 ↔ ((c.toNat : Int) == 48) = true := by
  rw [Option.some.injEq, ← UInt8.toNat_inj, beq_iff_eq]
  have : (48 : UInt8).toNat = 48 := rfl
  omega
theorem readI_zero {neg : Bool} {s : ByteArray} {i : Nat} (h : ¬ (s.size - i < 1 ∨ 9 < s.size - i)) (hd : Digs s i s.size) (hi : i < s.size) (h0 : ((s[i].toNat : Int) == 48) = true) (hn : neg = true ∨ 1 < s.size) :
    readI neg s.data.toList i = none := by
  rw [readI, drop_size, if_neg h, if_neg (by rw [hd.all]; simp), if_pos ⟨by rw [head_at hi]; exact is48.mpr h0, hn⟩]
theorem readI_ok {neg : Bool} {s : ByteArray} {i : Nat} (h : ¬ (s.size - i < 1 ∨ 9 < s.size - i)) (hd : Digs s i s.size) (hi : i < s.size) (h0 : ((s[i].toNat : Int) == 48) = false ∨ ¬ (neg = true ∨ 1 < s.size)) :
    readI neg s.data.toList i = some (if neg = true then -(valL ((s.data.toList.drop i).take (s.size - i)) : Int) else valL ((s.data.toList.drop i).take (s.size - i))) := by
  have e : (s.data.toList.drop i).take (s.size - i) = s.data.toList.drop i := List.take_of_length_le (by rw [drop_size]; omega)
  rw [e, readI, drop_size, if_neg h, if_neg (by rw [hd.all]; simp), if_neg]
  rintro ⟨q1, q2⟩
  rw [head_at hi, is48] at q1
  rcases h0 with h0 | h0
  · rw [q1] at h0; cases h0
  · exact h0 q2

def Read (s : ByteArray) (w : World) (e : Ending) (w' : World) : Prop :=
  e = .returned (.tuple #[.int .i64 ((readL s.data.toList).getD 0), .bool (readL s.data.toList).isSome]) ∧ w = w'
theorem Read.none {s : ByteArray} {w : World} (h : readL s.data.toList = none) : Read s w (.returned (.tuple #[.int .i64 0, .bool false])) w := by
  refine ⟨?_, rfl⟩; rw [h]; rfl
theorem Read.some {s : ByteArray} {w : World} {n : Int} (h : readL s.data.toList = some n) : Read s w (.returned (.tuple #[.int .i64 n, .bool true])) w := by
  refine ⟨?_, rfl⟩; rw [h]; rfl
theorem head_is {s : ByteArray} (h : 0 < s.size) : (s.data.toList.head? == some 45) = ((s[0].toNat : Int) == 45) := by
  have e := head_at (s := s) (i := 0) h
  rw [List.drop_zero] at e
  rw [e, Bool.eq_iff_iff, beq_iff_eq, Option.some.injEq, ← UInt8.toNat_inj, beq_iff_eq]
  have : (45 : UInt8).toNat = 45 := rfl
  omega

set_option maxHeartbeats 8000000 in
set_option maxRecDepth 100000 in
theorem l1Read_any (s : ByteArray) (w : World) (hs : s.size ≤ maxLen) : Calls Tryd.prog 34 #[.string s] w (Read s w) := by
  unfold maxLen at hs
  cases hq : (s.toList == [])
  case true =>
    have h0 : s.data.toList = [] := by rw [ByteArray.toList_eq] at hq; simpa using hq
    have HN := Lib.hid (Read.none (w := w) (show readL s.data.toList = none by rw [h0]; rfl))
    have hz : s.size = 0 := congrArg List.length h0
    go_enter Tryd.func34, Tryd.ntmps34
    go_wp2
    exact bodyPost_ret (v := .tuple #[.int .i64 0, .bool false]) (by simp [results, Tryd.results34, go_sem]) rfl HN.out
  have hz : 0 < s.size := by
    rcases Nat.eq_zero_or_pos s.size with e | e
    · have : s.data.toList = [] := List.length_eq_zero_iff.mp e
      rw [ByteArray.toList_eq, this] at hq; cases hq
    · exact e
  cases h45 : ((s[0].toNat : Int) == 45)
  case true =>
    have HL := Lib.hid ((readL_neg ((head_is hz).trans h45)))
    by_cases hsh : s.size - 1 < 1 ∨ 9 < s.size - 1
    · have HN := Lib.hid (Read.none (w := w) (HL.out.trans (readI_short hsh)))
      clear HL
      go_enter Tryd.func34, Tryd.ntmps34
      rcases hsh with hsh | hsh
      · first
          | omega
          | (go_wp2
             exact bodyPost_ret (v := .tuple #[.int .i64 0, .bool false]) (by simp [results, Tryd.results34, go_sem]) rfl HN.out)
      · go_wp2
        exact bodyPost_ret (v := .tuple #[.int .i64 0, .bool false]) (by simp [results, Tryd.results34, go_sem]) rfl HN.out
    have HSH := Lib.hid hsh
    have hb1 : 1 < s.size := by omega
    have hb2 : s.size ≤ 9 + 1 := by omega
    clear hsh
    go_enter Tryd.func34, Tryd.ntmps34
    go_wp2_with fail
    go_loop [6, 7] (fun n k => ∃ j : Nat, 1 ≤ j ∧ j ≤ s.size ∧ k = .int .i64 j ∧ n = .int .i64 (valL ((s.data.toList.drop 1).take (j - 1)) : Nat) ∧ Digs s 1 j) (fun _ k => s.size - (intOf k).toNat)
    case atStart => exact ⟨1, Nat.le_refl _, by omega, rfl, rfl, by unfold Digs; rw [Nat.sub_self]; rfl⟩
    case round =>
      obtain ⟨j, hij, hj, rfl, rfl, hd⟩ := hrel
      have hv := valL_small hd (by omega)
      have HD := Lib.hid hd
      obtain ⟨z, hzv⟩ : ∃ z, valL ((s.data.toList.drop 1).take (j - 1)) = z := ⟨_, rfl⟩
      rw [hzv] at hv ⊢
      have HZ := Lib.hid hzv
      clear hzv hd
      by_cases hlt : j < s.size
      · have hc := s[j].toNat_lt
        by_cases hc1 : (s[j].toNat : Int) < 48
        · have HN := Lib.hid (Read.none (w := w) (HL.out.trans (readI_bad hij hlt (.inl hc1))))
          clear HL
          go_wp2
          exact bodyPost_ret (v := .tuple #[.int .i64 0, .bool false]) (by simp [results, Tryd.results34, go_sem]) rfl HN.out
        by_cases hc2 : (s[j].toNat : Int) > 57
        · have HN := Lib.hid (Read.none (w := w) (HL.out.trans (readI_bad hij hlt (.inr hc2))))
          clear HL
          go_wp2
          exact bodyPost_ret (v := .tuple #[.int .i64 0, .bool false]) (by simp [results, Tryd.results34, go_sem]) rfl HN.out
        have HV := Lib.hid (valL_next hij hlt)
        have HD2 := Lib.hid (HD.out.succ hij hlt hc1 hc2)
        go_wp2
        go_round
        case rel => exact ⟨j + 1, by omega, by omega, by go_num, by rw [HV.out, HZ.out]; exact congrArg (Value.int .i64) (by omega), HD2.out⟩
        case measure => first | (simp [intOf]; done) | (simp [intOf]; omega)
      · obtain rfl : j = s.size := by omega
        cases h48 : ((s[1].toNat : Int) == 48)
        · have HN := Lib.hid (Read.some (w := w) (HL.out.trans (readI_ok HSH.out HD.out hb1 (.inl h48))))
          rw [HZ.out] at HN
          clear HL
          go_wp2
          exact bodyPost_ret (v := .tuple #[.int .i64 (-(z : Nat) : Int), .bool true]) (by simp [results, Tryd.results34, go_sem]) rfl HN.out
        · have HN := Lib.hid (Read.none (w := w) (HL.out.trans (readI_zero HSH.out HD.out hb1 h48 (.inl rfl))))
          clear HL
          go_wp2
          exact bodyPost_ret (v := .tuple #[.int .i64 0, .bool false]) (by simp [results, Tryd.results34, go_sem]) rfl HN.out
  case false =>
    have HL := Lib.hid ((readL_pos ((head_is hz).trans h45)))
    by_cases hsh : s.size - 0 < 1 ∨ 9 < s.size - 0
    · have HN := Lib.hid (Read.none (w := w) (HL.out.trans (readI_short hsh)))
      clear HL
      go_enter Tryd.func34, Tryd.ntmps34
      rcases hsh with hsh | hsh
      · first
          | omega
          | (go_wp2
             exact bodyPost_ret (v := .tuple #[.int .i64 0, .bool false]) (by simp [results, Tryd.results34, go_sem]) rfl HN.out)
      · go_wp2
        exact bodyPost_ret (v := .tuple #[.int .i64 0, .bool false]) (by simp [results, Tryd.results34, go_sem]) rfl HN.out
    have HSH := Lib.hid hsh
    have hb1 : 0 < s.size := by omega
    have hb2 : s.size ≤ 9 + 0 := by omega
    clear hsh
    go_enter Tryd.func34, Tryd.ntmps34
    go_wp2_with fail
    go_loop [6, 7] (fun n k => ∃ j : Nat, 0 ≤ j ∧ j ≤ s.size ∧ k = .int .i64 j ∧ n = .int .i64 (valL ((s.data.toList.drop 0).take (j - 0)) : Nat) ∧ Digs s 0 j) (fun _ k => s.size - (intOf k).toNat)
    case atStart => exact ⟨0, Nat.le_refl _, by omega, rfl, rfl, by unfold Digs; rw [Nat.sub_self]; rfl⟩
    case round =>
      obtain ⟨j, hij, hj, rfl, rfl, hd⟩ := hrel
      have hv := valL_small hd (by omega)
      have HD := Lib.hid hd
      obtain ⟨z, hzv⟩ : ∃ z, valL ((s.data.toList.drop 0).take (j - 0)) = z := ⟨_, rfl⟩
      rw [hzv] at hv ⊢
      have HZ := Lib.hid hzv
      clear hzv hd
      by_cases hlt : j < s.size
      · have hc := s[j].toNat_lt
        by_cases hc1 : (s[j].toNat : Int) < 48
        · have HN := Lib.hid (Read.none (w := w) (HL.out.trans (readI_bad hij hlt (.inl hc1))))
          clear HL
          go_wp2
          exact bodyPost_ret (v := .tuple #[.int .i64 0, .bool false]) (by simp [results, Tryd.results34, go_sem]) rfl HN.out
        by_cases hc2 : (s[j].toNat : Int) > 57
        · have HN := Lib.hid (Read.none (w := w) (HL.out.trans (readI_bad hij hlt (.inr hc2))))
          clear HL
          go_wp2
          exact bodyPost_ret (v := .tuple #[.int .i64 0, .bool false]) (by simp [results, Tryd.results34, go_sem]) rfl HN.out
        have HV := Lib.hid (valL_next hij hlt)
        have HD2 := Lib.hid (HD.out.succ hij hlt hc1 hc2)
        go_wp2
        go_round
        case rel => exact ⟨j + 1, by omega, by omega, by go_num, by rw [HV.out, HZ.out]; exact congrArg (Value.int .i64) (by omega), HD2.out⟩
        case measure => first | (simp [intOf]; done) | (simp [intOf]; omega)
      · obtain rfl : j = s.size := by omega
        cases h48 : ((s[0].toNat : Int) == 48)
        · have HN := Lib.hid (Read.some (w := w) (HL.out.trans (readI_ok HSH.out HD.out hb1 (.inl h48))))
          rw [HZ.out] at HN
          clear HL
          go_wp2
          exact bodyPost_ret (v := .tuple #[.int .i64 (z : Nat), .bool true]) (by simp [results, Tryd.results34, go_sem]) rfl HN.out
        · by_cases h1 : 1 < s.size
          · have HN := Lib.hid (Read.none (w := w) (HL.out.trans (readI_zero HSH.out HD.out hb1 h48 (.inr h1))))
            clear HL
            go_wp2
            exact bodyPost_ret (v := .tuple #[.int .i64 0, .bool false]) (by simp [results, Tryd.results34, go_sem]) rfl HN.out
          · have HN := Lib.hid (Read.some (w := w) (HL.out.trans (readI_ok HSH.out HD.out hb1 (.inr (by simp; omega)))))
            rw [HZ.out] at HN
            clear HL
            go_wp2
            exact bodyPost_ret (v := .tuple #[.int .i64 (z : Nat), .bool true]) (by simp [results, Tryd.results34, go_sem]) rfl HN.out
end Go.Proofs.YtiijagmakkgnnaaDoor
namespace Go.Proofs.YtiijagmakkgnnaaDoor
open Go.ChangeShapes Go.WideShapes Go.ChangeAt Go.RowKit

theorem RecAt.put {w : World} {B o : Nat} {x y : Dee} {v : Value} (h : RecAt Dee.cs w B x) (ho : o < 5) (e : Dee.cs y = (Dee.cs x).set o v) : RecAt Dee.cs (w.setCell ⟨B, o, none⟩ v) B y := by
  intro j u hj
  rw [e, List.getElem?_set] at hj
  have hx : (Dee.cs x)[o]? = some ((Dee.cs x)[o]'ho) := List.getElem?_eq_getElem ho
  by_cases q : o = j
  · subst q
    rw [if_pos rfl, if_pos (show o < (Dee.cs x).length from ho)] at hj
    rw [World.cell?_setCell_same _ _ _ (h o _ hx)]; exact hj
  · rw [if_neg q] at hj
    rw [World.cell?_setCell_other _ _ _ _ (by intro z; injection z with _ z; exact q z)]; exact h j u hj
theorem RecAt.far {w : World} {B D o : Nat} {x : Dee} {v : Value} (h : RecAt Dee.cs w B x) (hne : B ≠ D) : RecAt Dee.cs (w.setCell ⟨D, o, none⟩ v) B x :=
  fun j u hj => (World.cell?_setCell_far _ _ _ _ (by simpa using fun e : D = B => hne e.symm)).trans (h j u hj)
theorem strs_far {w : World} {a : Option Addr} {ss : List ByteArray} {D o : Nat} {v : Value} (h : Strs w a ss) (hne : ∀ b off, a = some ⟨b, off, none⟩ → b ≠ D) : Strs (w.setCell ⟨D, o, none⟩ v) a ss := by
  intro k u hk
  obtain ⟨b, off, rfl, hc⟩ := h k u hk
  exact ⟨b, off, rfl, (World.cell?_setCell_far _ _ _ _ (by simpa using fun e : D = b => hne b off rfl e.symm)).trans hc⟩
theorem strs_below {w w' : World} {a : Option Addr} {ss : List ByteArray} (h : Strs w a ss) (hb : Below w.heap.size w w') : Strs w' a ss := by
  intro k u hk
  obtain ⟨b, off, rfl, hc⟩ := h k u hk
  exact ⟨b, off, rfl, (hb.cell (lt_of_cell hc)).trans hc⟩

/-- A text is read: the deed's box D, the result's box R, the words at a. -/
structure RWay (w : World) (R D : Nat) (a : Option Addr) (ss : List ByteArray) (x : Dee) (W : World) : Prop where
  d : RecAt Dee.cs W D x
  df : ∀ o, W.frozen? ⟨D, o, none⟩ = false
  r : RecAt Dee.cs W R (zeroD 0)
  rf : ∀ o, W.frozen? ⟨R, o, none⟩ = false
  st : Strs W a ss
  below : Below w.heap.size w W
  rD : R < D
  dl : D < W.heap.size
  wR : w.heap.size ≤ R
  far : ∀ b off, a = some ⟨b, off, none⟩ → b ≠ D
theorem RWay.step {w W W' : World} {R D : Nat} {a : Option Addr} {ss : List ByteArray} {x : Dee} (h : RWay w R D a ss x W) (hb : Below W.heap.size W W') : RWay w R D a ss x W' :=
  ⟨h.d.below hb, fun o => (hb.frozen (p := ⟨D, o, none⟩) h.dl).trans (h.df o), h.r.below hb, fun o => (hb.frozen (p := ⟨R, o, none⟩) (Nat.lt_trans h.rD h.dl)).trans (h.rf o), strs_below h.st hb, below_trans h.below hb, h.rD,
    Nat.lt_of_lt_of_le h.dl hb.size, h.wR, h.far⟩
theorem RWay.put {w W : World} {R D o : Nat} {a : Option Addr} {ss : List ByteArray} {x y : Dee} {v : Value} (h : RWay w R D a ss x W) (ho : o < 5) (e : Dee.cs y = (Dee.cs x).set o v) : RWay w R D a ss y (W.setCell ⟨D, o, none⟩ v) :=
  ⟨h.d.put ho e, fun o' => by rw [World.frozen?_setCell]; exact h.df o', h.r.far (by have := h.rD; omega), fun o' => by rw [World.frozen?_setCell]; exact h.rf o', strs_far h.st h.far, h.below.setCell (by have := h.rD; have := h.wR; show w.heap.size ≤ D; omega) v, h.rD, by have := h.dl; simpa [World.setCell] using this, h.wR, h.far⟩

def ReadD (s : ByteArray) (w : World) (e : Ending) (w' : World) : Prop :=
  e = .returned (.tuple #[.agg #[.int .i64 ((readB s).getD (zeroD 0)).kind, .string ((readB s).getD (zeroD 0)).who, .string ((readB s).getD (zeroD 0)).mill, .string ((readB s).getD (zeroD 0)).to, .int .i64 ((readB s).getD (zeroD 0)).n], .bool (readB s).isSome]) ∧ Below w.heap.size w w'
theorem ReadD.none {s : ByteArray} {w w' : World} (h : readB s = none) (hb : Below w.heap.size w w') : ReadD s w (.returned (.tuple #[.agg #[.int .i64 0, .string ByteArray.empty, .string ByteArray.empty, .string ByteArray.empty, .int .i64 0], .bool false])) w' := by
  refine ⟨?_, hb⟩; rw [h]; rfl
theorem ReadD.some {s : ByteArray} {w w' : World} {d : Dee} (h : readB s = some d) (hb : Below w.heap.size w w') : ReadD s w (.returned (.tuple #[.agg #[.int .i64 d.kind, .string d.who, .string d.mill, .string d.to, .int .i64 d.n], .bool true])) w' := by
  refine ⟨?_, hb⟩; rw [h]; rfl
theorem Words.strs {w w' : World} (h : Words w w') : Strs w' (some ⟨w.heap.size, 0, none⟩) wordsS := by rw [h]; exact wordsW_strs w
theorem place_bd (s : ByteArray) : -1 ≤ placeV wordsS s ∧ placeV wordsS s < 11 := placeUp_bd wordsS s 11

theorem at_words {w : World} {g : Nat} (s : ByteArray) (h : Strs w (some ⟨g, 0, none⟩) wordsS) :
    Calls Tryd.prog 33 #[.slice (some ⟨g, 0, none⟩) 11 11, .string s] w fun e w' => e = .returned (.int .i64 (placeV wordsS s)) ∧ w = w' := l1At_any (ss := wordsS) 11 s h (by decide)
/-- The words stand at g; what was there ahead still is. -/
structure WordsAt (w : World) (g : Nat) (w' : World) : Prop where
  st : Strs w' (some ⟨g, 0, none⟩) wordsS
  below : Below w.heap.size w w'
  lt : w.heap.size < w'.heap.size
theorem wordsA (w : World) : Calls Tryd.prog 26 #[] w.drew fun e w' => e = .returned (.slice (some ⟨w.heap.size, 0, none⟩) 11 11) ∧ WordsAt w w.heap.size w' := by
  refine (l15Words_any _).mono ?_
  rintro e w' ⟨rfl, hw⟩
  have hw : Words w.drew w' := hw
  exact ⟨rfl, hw.strs, undrew_below hw.below, by rw [show w' = wordsW w.drew from hw, wordsW_size]; exact Nat.lt_succ_self _⟩
abbrev zeroO : Obj := .cells #[.int .i64 0, .string ⟨#[]⟩, .string ⟨#[]⟩, .string ⟨#[]⟩, .int .i64 0] 26
theorem size_alloc (w : World) (o : Obj) : (w.alloc o).heap.size = w.heap.size + 1 := by show (w.heap.push _).size = _; rw [Array.size_push]
/-- A fresh box, its cells. -/
structure ZeroAt (w : World) (D : Nat) : Prop where
  c0 : w.cell? ⟨D, 0, none⟩ = some (.int .i64 0)
  c1 : w.cell? ⟨D, 1, none⟩ = some (.string ⟨#[]⟩)
  c2 : w.cell? ⟨D, 2, none⟩ = some (.string ⟨#[]⟩)
  c3 : w.cell? ⟨D, 3, none⟩ = some (.string ⟨#[]⟩)
  c4 : w.cell? ⟨D, 4, none⟩ = some (.int .i64 0)
  fz : ∀ o, w.frozen? ⟨D, o, none⟩ = false
theorem ZeroAt.new (w : World) : ZeroAt (w.alloc zeroO) w.heap.size := by
  have h := RecAt.new Dee.cs w (zeroD 0) 26
  exact ⟨h 0 _ rfl, h 1 _ rfl, h 2 _ rfl, h 3 _ rfl, h 4 _ rfl, fun i => World.frozen?_alloc_at (w := w) #[.int .i64 0, .string ⟨#[]⟩, .string ⟨#[]⟩, .string ⟨#[]⟩, .int .i64 0] 26 w.heap.size i rfl⟩
theorem ZeroAt.step {w w' : World} {D : Nat} (h : ZeroAt w D) (hb : Below w.heap.size w w') : ZeroAt w' D := by
  have hl := lt_of_cell h.c0
  exact ⟨(hb.cell hl).trans h.c0, (hb.cell hl).trans h.c1, (hb.cell hl).trans h.c2, (hb.cell hl).trans h.c3, (hb.cell hl).trans h.c4, fun o => (hb.frozen (p := ⟨D, o, none⟩) hl).trans (h.fz o)⟩
theorem wordsB (w : World) : Calls Tryd.prog 26 #[] (w.alloc zeroO).drew fun e w' => e = .returned (.slice (some ⟨w.heap.size + 1, 0, none⟩) 11 11) ∧ WordsAt w (w.heap.size + 1) w' ∧ ZeroAt w' w.heap.size := by
  refine (wordsA (w.alloc zeroO)).mono ?_
  rintro e w' ⟨rfl, hw⟩
  have e1 : (w.alloc zeroO).heap.size = w.heap.size + 1 := size_alloc _ _
  have hst := hw.st
  have hlt := hw.lt
  rw [e1] at hst hlt
  refine ⟨by rw [e1], ⟨hst, below_trans (below_new w zeroO) hw.below, by omega⟩, (ZeroAt.new w).step hw.below⟩
/-- What lies there ahead of the deed's own box. -/
structure RHalf (w : World) (R : Nat) (a : Option Addr) (ss : List ByteArray) (W : World) : Prop where
  r : RecAt Dee.cs W R (zeroD 0)
  rf : ∀ o, W.frozen? ⟨R, o, none⟩ = false
  st : Strs W a ss
  below : Below w.heap.size w W
  rl : R < W.heap.size
  wR : w.heap.size ≤ R
theorem RHalf.step {w W W' : World} {R : Nat} {a : Option Addr} {ss : List ByteArray} (h : RHalf w R a ss W) (hb : Below W.heap.size W W') : RHalf w R a ss W' :=
  ⟨h.r.below hb, fun o => (hb.frozen (p := ⟨R, o, none⟩) h.rl).trans (h.rf o), strs_below h.st hb, below_trans h.below hb, Nat.lt_of_lt_of_le h.rl hb.size, h.wR⟩
theorem rwayA {w w1 w2 : World} {R g : Nat} {a : Option Addr} {ss : List ByteArray} (k : Int) (h : RHalf w R a ss w1) (hw : WordsAt w1 g w2) (ha : ∀ b off, a = some ⟨b, off, none⟩ → b < w1.heap.size) :
    RWay w R w2.heap.size a ss (zeroD k) (w2.alloc (.cells #[.int .i64 k, .string ⟨#[]⟩, .string ⟨#[]⟩, .string ⟨#[]⟩, .int .i64 0] 26)) := by
  have h2 := h.step hw.below
  have h3 := h2.step (below_new w2 (.cells #[.int .i64 k, .string ⟨#[]⟩, .string ⟨#[]⟩, .string ⟨#[]⟩, .int .i64 0] 26))
  exact ⟨RecAt.new Dee.cs w2 (zeroD k) 26, fun i => World.frozen?_alloc_at (w := w2) #[.int .i64 k, .string ⟨#[]⟩, .string ⟨#[]⟩, .string ⟨#[]⟩, .int .i64 0] 26 w2.heap.size i rfl, h3.r, h3.rf, h3.st, h3.below, h2.rl,
    by rw [size_alloc]; exact Nat.lt_succ_self _, h.wR, fun b off e => by have := ha b off e; have := hw.lt; omega⟩
theorem rwayB {w w1 w2 : World} {R g : Nat} {a : Option Addr} {ss : List ByteArray} (k : Int) (h : RHalf w R a ss w1) (hw : WordsAt w1 g w2) (hz : ZeroAt w2 w1.heap.size) (ha : ∀ b off, a = some ⟨b, off, none⟩ → b < w1.heap.size) :
    RWay w R w1.heap.size a ss (zeroD k) (((((w2.setCell ⟨w1.heap.size, 0, none⟩ (.int .i64 k)).setCell ⟨w1.heap.size, 1, none⟩ (.string ⟨#[]⟩)).setCell ⟨w1.heap.size, 2, none⟩ (.string ⟨#[]⟩)).setCell ⟨w1.heap.size, 3, none⟩ (.string ⟨#[]⟩)).setCell ⟨w1.heap.size, 4, none⟩ (.int .i64 0)) := by
  have h2 := h.step hw.below
  have hd : RecAt Dee.cs w2 w1.heap.size (zeroD 0) := by
    intro j v hj
    match j, hj with
    | 0, hj => obtain rfl := Option.some.inj hj; exact hz.c0
    | 1, hj => obtain rfl := Option.some.inj hj; exact hz.c1
    | 2, hj => obtain rfl := Option.some.inj hj; exact hz.c2
    | 3, hj => obtain rfl := Option.some.inj hj; exact hz.c3
    | 4, hj => obtain rfl := Option.some.inj hj; exact hz.c4
    | j + 5, hj => simp [Dee.cs] at hj
  have base : RWay w R w1.heap.size a ss (zeroD 0) w2 := ⟨hd, hz.fz, h2.r, h2.rf, h2.st, h2.below, h.rl, lt_of_cell hz.c0, h.wR, fun b off e => by have := ha b off e; omega⟩
  have s0 := base.put (o := 0) (y := zeroD k) (v := .int .i64 k) (by decide) rfl
  have s1 := s0.put (o := 1) (y := zeroD k) (v := .string ⟨#[]⟩) (by decide) rfl
  have s2 := s1.put (o := 2) (y := zeroD k) (v := .string ⟨#[]⟩) (by decide) rfl
  have s3 := s2.put (o := 3) (y := zeroD k) (v := .string ⟨#[]⟩) (by decide) rfl
  exact s3.put (o := 4) (y := zeroD k) (v := .int .i64 0) (by decide) rfl
theorem below_set5 {B : Nat} {w W : World} (h : Below B w W) {R : Nat} (hR : B ≤ R) (v0 v1 v2 v3 v4 : Value) :
    Below B w (((((W.setCell ⟨R, 0, none⟩ v0).setCell ⟨R, 1, none⟩ v1).setCell ⟨R, 2, none⟩ v2).setCell ⟨R, 3, none⟩ v3).setCell ⟨R, 4, none⟩ v4) :=
  ((((h.setCell hR v0).setCell hR v1).setCell hR v2).setCell hR v3).setCell hR v4
theorem readW_zero (w : List ByteArray) : readW w 0 = none := if_pos rfl
theorem readW_len {w : List ByteArray} {k : Int} (h : w.length ≠ (tellsS k).size + 1) : readW w k = none := by
  by_cases h0 : k = 0
  · rw [readW, if_pos h0]
  · rw [readW, if_neg h0, if_pos h]
theorem readW_bad {w : List ByteArray} {k : Int} (h : (runR w (tellsS k) (zeroD k, true) (tellsS k).size).2 = false ∨ deedB (runR w (tellsS k) (zeroD k, true) (tellsS k).size).1 = false) : readW w k = none := by
  by_cases h0 : k = 0
  · rw [readW, if_pos h0]
  by_cases hl : w.length ≠ (tellsS k).size + 1
  · rw [readW, if_neg h0, if_pos hl]
  rw [readW, if_neg h0, if_neg hl, if_neg]
  rintro ⟨q1, q2⟩
  rcases h with h | h
  · rw [h] at q1; cases q1
  · rw [h] at q2; cases q2
theorem readW_ok {w : List ByteArray} {k : Int} (h0 : k ≠ 0) (hl : w.length = (tellsS k).size + 1) (h1 : (runR w (tellsS k) (zeroD k, true) (tellsS k).size).2 = true) (h2 : deedB (runR w (tellsS k) (zeroD k, true) (tellsS k).size).1 = true) :
    readW w k = some (runR w (tellsS k) (zeroD k, true) (tellsS k).size).1 := by
  rw [readW, if_neg h0, if_neg (fun q => q hl), if_pos ⟨h1, h2⟩]
theorem stepR_w {w : List ByteArray} {x : Dee × Bool} {c : Int} {j : Nat} (h : (c == 87) = true) : stepR w x c j = ({ x.1 with who := sat w (j + 1) }, x.2) := if_pos (by simpa using h)
theorem stepR_m {w : List ByteArray} {x : Dee × Bool} {c : Int} {j : Nat} (h1 : (c == 87) = false) (h : (c == 77) = true) : stepR w x c j = ({ x.1 with mill := sat w (j + 1) }, x.2) := by
  rw [stepR, if_neg (by simpa using h1), if_pos (by simpa using h)]
theorem stepR_t {w : List ByteArray} {x : Dee × Bool} {c : Int} {j : Nat} (h1 : (c == 87) = false) (h2 : (c == 77) = false) (h : (c == 84) = true) : stepR w x c j = ({ x.1 with to := sat w (j + 1) }, x.2) := by
  rw [stepR, if_neg (by simpa using h1), if_neg (by simpa using h2), if_pos (by simpa using h)]
theorem stepR_n {w : List ByteArray} {x : Dee × Bool} {c : Int} {j : Nat} (h1 : (c == 87) = false) (h2 : (c == 77) = false) (h3 : (c == 84) = false) (h : (c == 78) = true) :
    stepR w x c j = ({ x.1 with n := (readL (sat w (j + 1)).data.toList).getD 0 }, (readL (sat w (j + 1)).data.toList).isSome) := by
  rw [stepR, if_neg (by simpa using h1), if_neg (by simpa using h2), if_neg (by simpa using h3), if_pos (by simpa using h)]
theorem stepR_o {w : List ByteArray} {x : Dee × Bool} {c : Int} {j : Nat} (h1 : (c == 87) = false) (h2 : (c == 77) = false) (h3 : (c == 84) = false) (h : (c == 78) = false) : stepR w x c j = x := by
  rw [stepR, if_neg (by simpa using h1), if_neg (by simpa using h2), if_neg (by simpa using h3), if_neg (by simpa using h)]
theorem sat_size {w : List ByteArray} {m : Nat} (h : ∀ x ∈ w, x.size ≤ m) (j : Nat) : (sat w j).size ≤ m := by
  unfold sat
  rcases Nat.lt_or_ge j w.length with hj | hj
  · rw [List.getD_eq_getElem?_getD, List.getElem?_eq_getElem hj]; exact h _ (List.getElem_mem _)
  · rw [List.getD_eq_getElem?_getD, List.getElem?_eq_none hj]; exact Nat.zero_le _
theorem runR_size {w : List ByteArray} {m : Nat} (h : ∀ x ∈ w, x.size ≤ m) (t : ByteArray) (k : Int) : ∀ j, (runR w t (zeroD k, true) j).1.who.size ≤ m ∧ (runR w t (zeroD k, true) j).1.mill.size ≤ m ∧ (runR w t (zeroD k, true) j).1.to.size ≤ m
  | 0 => ⟨Nat.zero_le _, Nat.zero_le _, Nat.zero_le _⟩
  | j + 1 => by
    have ⟨i1, i2, i3⟩ := runR_size h t k j
    have hs := sat_size h (j + 1)
    rw [runR, stepR]
    split
    · exact ⟨hs, i2, i3⟩
    split
    · exact ⟨i1, hs, i3⟩
    split
    · exact ⟨i1, i2, hs⟩
    split
    · exact ⟨i1, i2, i3⟩
    · exact ⟨i1, i2, i3⟩
set_option maxHeartbeats 16000000 in
set_option maxRecDepth 100000 in
theorem sReadDeed_any (s : ByteArray) (w : World) (hs : s.size ≤ 1048576) :
    Calls Tryd.prog 18 #[.string s] w (ReadD s w) := by
  have B0 := Lib.hid (below_new w (.cells #[.int .i64 0, .string ⟨#[]⟩, .string ⟨#[]⟩, .string ⟨#[]⟩, .int .i64 0] 26))
  have R0 := Lib.hid (RecAt.new Dee.cs w (zeroD 0) 26)
  have RF0 := Lib.hid (fun i => World.frozen?_alloc_at (w := w) #[.int .i64 0, .string ⟨#[]⟩, .string ⟨#[]⟩, .string ⟨#[]⟩, .int .i64 0] 26 w.heap.size i rfl)
  obtain ⟨W0, hW0⟩ : ∃ W0, w.alloc (.cells #[.int .i64 0, .string ⟨#[]⟩, .string ⟨#[]⟩, .string ⟨#[]⟩, .int .i64 0] 26) = W0 := ⟨_, rfl⟩
  rw [show w.alloc (.cells (Dee.cs (zeroD 0)).toArray 26) = W0 from hW0] at R0
  rw [hW0] at B0 RF0
  have hsz0 : W0.heap.size = w.heap.size + 1 := by rw [← hW0]; show (w.heap.push _).size = _; rw [Array.size_push]
  have HZ0 := Lib.hid hsz0
  clear hsz0
  go_enter Tryd.func18, Tryd.ntmps18
  go_wp2_with fail
  refine (l1Split_any s 32 _ hs).mono ?_
  rintro e w1 ⟨a, cap, rfl, hst, hnew, hb1⟩
  clear hW0
  have hlen : (splitB1 32 s).length ≤ s.size + 1 := pieceF_len _ _ _ _ _
  have hpos : 0 < (splitB1 32 s).length := List.length_pos_iff.mpr (pieceF_ne _ _ _ _ _)
  have hsmall : ∀ x ∈ splitB1 32 s, x.size ≤ s.size := pieceF_size _ _ _ _ _
  obtain ⟨ss, hss⟩ : ∃ ss, splitB1 32 s = ss := ⟨_, rfl⟩
  rw [hss] at hst hlen hpos hsmall ⊢
  have HSS := Lib.hid hss
  clear hss
  obtain ⟨b, off, rfl, hc0⟩ := strs_sat hst 0 hpos
  have hbn : W0.heap.size ≤ b := hnew b off rfl
  have hb1' := lt_of_cell hc0
  have hc0' : w1.cell? ⟨b, off, none⟩ = some (.string (sat ss 0)) := hc0
  have HST := Lib.hid hst
  have B1 := Lib.hid (below_trans B0.out hb1)
  have R1 := Lib.hid (R0.out.below hb1)
  have RF1 := Lib.hid (fun o => (hb1.frozen (p := ⟨w.heap.size, o, none⟩) (by have := HZ0.out; show w.heap.size < W0.heap.size; omega)).trans (RF0.out o))
  have hszb := hb1.size
  have hR1 : w.heap.size < w1.heap.size := by have := HZ0.out; omega
  have HSM := Lib.hid hsmall
  clear hst hnew hb1 hc0 hszb hsmall R0 RF0 B0
  obtain ⟨pk, hpk⟩ : ∃ pk, placeV wordsS (sat ss 0) = pk := ⟨_, rfl⟩
  have HPK := Lib.hid hpk
  have hpb := place_bd (sat ss 0)
  rw [hpk] at hpb
  have hwr : IntKind.i64.wrap (pk + 1) = pk + 1 := IntWalk.i64_in _ (by omega)
  have HPB := Lib.hid hpb
  clear hpb
  have hlp : (0 : Int) < ss.length := by omega
  go_wp2_with fail
  have HALF := Lib.hid (show RHalf w w.heap.size (some ⟨b, off, none⟩) ss w1 from ⟨R1.out, RF1.out, HST.out, B1.out, hR1, Nat.le_refl _⟩)
  rename_i K hK
  have tail : ∀ (D : Nat) (W : World) (u13 : Value), Hid (RWay w w.heap.size D (some ⟨b, off, none⟩) ss (zeroD (pk + 1)) W) →
      K ⟨#[.string s, undef, .pointer (some ⟨w.heap.size, 0, none⟩), .bool false, .slice (some ⟨b, off, none⟩) ss.length cap, .pointer (some ⟨D, 0, none⟩), undef, undef, undef, undef, undef, .string s, .slice (some ⟨b, off, none⟩) ss.length cap, u13, .slice (some ⟨b, off, none⟩) ss.length cap, .pointer (some ⟨b, off, none⟩), .string (sat ss 0), .int .i64 pk, .int .i64 (pk + 1), .agg #[.int .i64 (pk + 1), .string ⟨#[]⟩, .string ⟨#[]⟩, .string ⟨#[]⟩, .int .i64 0], undef, undef, undef, undef, undef, undef, undef, undef, undef, undef, undef, undef, undef, undef, undef, undef, undef, undef, undef, undef, undef, undef, undef, undef, undef, undef, undef, undef, undef, undef, undef, undef, undef, undef, undef, undef, undef, undef, undef, undef, undef, undef, undef, undef, undef, undef, undef, undef, undef, undef, undef, undef, undef, undef, undef, undef, undef, undef, undef, undef, undef, undef, undef, undef, undef, undef, undef, undef, undef, undef], []⟩ W := by
    intro D W u13 HW
    refine hK _ _ ?_
    clear hK
    have HRB := Lib.hid (show readB s = readW ss (pk + 1) by rw [readB, HSS.out, HPK.out])
    have hpb := HPB.out
    clear K hc0' hb1' hbn hwr hR1
    have d0 : W.cell? ⟨D, 0, none⟩ = some (.int .i64 (pk + 1)) := HW.out.d 0 _ rfl
    by_cases hk0 : pk + 1 = 0
    · have HNO := Lib.hid (show readB s = none by rw [HRB.out, hk0]; exact readW_zero _)
      rw [hk0] at d0
      have r0 : World.cell? _ ⟨w.heap.size, 0, none⟩ = some (.int .i64 0) := HW.out.r 0 _ rfl
      have r1 : World.cell? _ ⟨w.heap.size, 1, none⟩ = some (.string ⟨#[]⟩) := HW.out.r 1 _ rfl
      have r2 : World.cell? _ ⟨w.heap.size, 2, none⟩ = some (.string ⟨#[]⟩) := HW.out.r 2 _ rfl
      have r3 : World.cell? _ ⟨w.heap.size, 3, none⟩ = some (.string ⟨#[]⟩) := HW.out.r 3 _ rfl
      have r4 : World.cell? _ ⟨w.heap.size, 4, none⟩ = some (.int .i64 0) := HW.out.r 4 _ rfl
      have rf := HW.out.rf
      go_wp2
      exact bodyPost_ret (v := .tuple #[.agg #[.int .i64 0, .string ⟨#[]⟩, .string ⟨#[]⟩, .string ⟨#[]⟩, .int .i64 0], .bool false]) (by simp [results, Tryd.results18, go_sem, r0, r1, r2, r3, r4]) rfl (ReadD.none HNO.out (below_set5 HW.out.below (Nat.le_refl _) _ _ _ _ _))
    obtain ⟨q, hq⟩ : ∃ q, pk + 1 = q := ⟨_, rfl⟩
    rw [hq] at hk0 HRB HW d0
    have hq1 : 1 ≤ q := by omega
    have hq2 : q ≤ 11 := by omega
    have HQ1 := Lib.hid hq1
    have HQ2 := Lib.hid hq2
    rw [hq]
    clear hq hpb hq1 hq2 hpk
    go_wp2_with fail
    refine (l15Tells_any q HQ1.out HQ2.out _).mono ?_
    rintro e W4 ⟨rfl, hb4⟩
    have HW4 := Lib.hid (HW.out.step hb4)
    clear hb4 d0 HW
    have HT4 := Lib.hid (tells_size q)
    have HBAD := Lib.hid (fun h => readW_bad (w := ss) (k := q) h)
    have HLEN := Lib.hid (fun h => readW_len (w := ss) (k := q) h)
    have HOK := Lib.hid (fun hl h1 h2 => readW_ok (w := ss) (k := q) hk0 hl h1 h2)
    obtain ⟨t, ht⟩ : ∃ t, tellsS q = t := ⟨_, rfl⟩
    rw [ht] at HT4 HBAD HLEN HOK ⊢
    clear ht hk0
    have ht4 := HT4.out
    have hsl : ss.length ≤ 1048577 := by omega
    by_cases hl : ss.length = t.size + 1
    case neg =>
      have HNO := Lib.hid (show readB s = none from HRB.out.trans (HLEN.out hl))
      have r0 : World.cell? _ ⟨w.heap.size, 0, none⟩ = some (.int .i64 0) := HW4.out.r 0 _ rfl
      have r1 : World.cell? _ ⟨w.heap.size, 1, none⟩ = some (.string ⟨#[]⟩) := HW4.out.r 1 _ rfl
      have r2 : World.cell? _ ⟨w.heap.size, 2, none⟩ = some (.string ⟨#[]⟩) := HW4.out.r 2 _ rfl
      have r3 : World.cell? _ ⟨w.heap.size, 3, none⟩ = some (.string ⟨#[]⟩) := HW4.out.r 3 _ rfl
      have r4 : World.cell? _ ⟨w.heap.size, 4, none⟩ = some (.int .i64 0) := HW4.out.r 4 _ rfl
      have rf := HW4.out.rf
      have hne : ((ss.length : Int) != (t.size : Int) + 1) = true := by simp; omega
      go_wp2
      exact bodyPost_ret (v := .tuple #[.agg #[.int .i64 0, .string ⟨#[]⟩, .string ⟨#[]⟩, .string ⟨#[]⟩, .int .i64 0], .bool false]) (by simp [results, Tryd.results18, go_sem, r0, r1, r2, r3, r4]) rfl (ReadD.none HNO.out (below_set5 HW4.out.below (Nat.le_refl _) _ _ _ _ _))
    have heq : ((ss.length : Int) != (t.size : Int) + 1) = false := by simp; omega
    go_wp2_with fail
    go_loopw [7, 8] (fun g i wr => ∃ j : Nat, j ≤ t.size ∧ i = .int .i64 j ∧ g = .bool (runR ss t (zeroD q, true) j).2 ∧ RWay w w.heap.size D (some ⟨b, off, none⟩) ss (runR ss t (zeroD q, true) j).1 wr) (fun _ i _ => t.size - (intOf i).toNat)
    case atStart => exact ⟨0, Nat.zero_le _, rfl, rfl, HW4.out⟩
    case round =>
      clear HW4
      obtain ⟨j, hj, rfl, rfl, hr⟩ := hrel
      have HXS := Lib.hid (runR_size HSM.out t q j)
      obtain ⟨x, hx⟩ : ∃ x, runR ss t (zeroD q, true) j = x := ⟨_, rfl⟩
      obtain ⟨xd, xg⟩ := x
      rw [hx] at hr HXS
      have HXE := Lib.hid hx
      rw [hx]
      have HR := Lib.hid hr
      clear hr hx
      by_cases hlt : j < t.size
      · obtain ⟨b', off', e', hcj⟩ := strs_sat HR.out.st (j + 1) (by omega)
        obtain ⟨rfl, rfl⟩ : b = b' ∧ off = off' := by injection e' with e'; injection e' with e1 e2; exact ⟨e1, e2⟩
        clear e'
        have hji : (j : Int) + 1 < ss.length := by omega
        have HSJ := Lib.hid (sat_size HSM.out (j + 1))
        cases e1 : ((t[j].toNat : Int) == 87)
        case true =>
          have HX2 := Lib.hid (show runR ss t (zeroD q, true) (j + 1) = _ from (by rw [runR, byteN_eq hlt] : runR ss t (zeroD q, true) (j + 1) = stepR ss (runR ss t (zeroD q, true) j) (t[j].toNat : Int) j).trans (stepR_w e1))
          have y := HR.out.d 1 _ rfl
          have yf := HR.out.df 1
          have HR2 := Lib.hid (HR.out.put (o := 1) (y := { xd with who := sat ss (j + 1) }) (v := .string (sat ss (j + 1))) (by decide) rfl)
          go_wp2
          go_roundw
          case rel => exact ⟨j + 1, by omega, by go_num, by rw [HX2.out, HXE.out], by rw [HX2.out, HXE.out]; exact HR2.out⟩
          case measure => simp [intOf]; omega
        cases e2 : ((t[j].toNat : Int) == 77)
        case true =>
          have HX2 := Lib.hid (show runR ss t (zeroD q, true) (j + 1) = _ from (by rw [runR, byteN_eq hlt] : runR ss t (zeroD q, true) (j + 1) = stepR ss (runR ss t (zeroD q, true) j) (t[j].toNat : Int) j).trans (stepR_m e1 e2))
          have y := HR.out.d 2 _ rfl
          have yf := HR.out.df 2
          have HR2 := Lib.hid (HR.out.put (o := 2) (y := { xd with mill := sat ss (j + 1) }) (v := .string (sat ss (j + 1))) (by decide) rfl)
          go_wp2
          go_roundw
          case rel => exact ⟨j + 1, by omega, by go_num, by rw [HX2.out, HXE.out], by rw [HX2.out, HXE.out]; exact HR2.out⟩
          case measure => simp [intOf]; omega
        cases e3 : ((t[j].toNat : Int) == 84)
        case true =>
          have HX2 := Lib.hid (show runR ss t (zeroD q, true) (j + 1) = _ from (by rw [runR, byteN_eq hlt] : runR ss t (zeroD q, true) (j + 1) = stepR ss (runR ss t (zeroD q, true) j) (t[j].toNat : Int) j).trans (stepR_t e1 e2 e3))
          have y := HR.out.d 3 _ rfl
          have yf := HR.out.df 3
          have HR2 := Lib.hid (HR.out.put (o := 3) (y := { xd with to := sat ss (j + 1) }) (v := .string (sat ss (j + 1))) (by decide) rfl)
          go_wp2
          go_roundw
          case rel => exact ⟨j + 1, by omega, by go_num, by rw [HX2.out, HXE.out], by rw [HX2.out, HXE.out]; exact HR2.out⟩
          case measure => simp [intOf]; omega
        cases e4 : ((t[j].toNat : Int) == 78)
        case true =>
          have HX2 := Lib.hid (show runR ss t (zeroD q, true) (j + 1) = _ from (by rw [runR, byteN_eq hlt] : runR ss t (zeroD q, true) (j + 1) = stepR ss (runR ss t (zeroD q, true) j) (t[j].toNat : Int) j).trans (stepR_n e1 e2 e3 e4))
          have y := HR.out.d 4 _ rfl
          have yf := HR.out.df 4
          have HR2 := Lib.hid (HR.out.put (o := 4) (y := { xd with n := (readL (sat ss (j + 1)).data.toList).getD 0 }) (v := .int .i64 ((readL (sat ss (j + 1)).data.toList).getD 0)) (by decide) rfl)
          go_wp2_with fail
          refine (l1Read_any (sat ss (j + 1)) _ (by have := HSJ.out; unfold maxLen; omega)).mono ?_
          rintro e w' ⟨rfl, rfl⟩
          go_wp2
          go_roundw
          case rel => exact ⟨j + 1, by omega, by go_num, by rw [HX2.out], by rw [HX2.out, HXE.out]; exact HR2.out⟩
          case measure => simp [intOf]; omega
        have HX2 := Lib.hid (show runR ss t (zeroD q, true) (j + 1) = _ from (by rw [runR, byteN_eq hlt] : runR ss t (zeroD q, true) (j + 1) = stepR ss (runR ss t (zeroD q, true) j) (t[j].toNat : Int) j).trans (stepR_o e1 e2 e3 e4))
        go_wp2
        go_roundw
        case rel => exact ⟨j + 1, by omega, by go_num, by rw [HX2.out, HXE.out], by rw [HX2.out, HXE.out]; exact HR.out⟩
        case measure => simp [intOf]; omega
      · obtain rfl : j = t.size := by omega
        rw [HXE.out] at HBAD HOK
        have r0 : World.cell? _ ⟨w.heap.size, 0, none⟩ = some (.int .i64 0) := HR.out.r 0 _ rfl
        have r1 : World.cell? _ ⟨w.heap.size, 1, none⟩ = some (.string ⟨#[]⟩) := HR.out.r 1 _ rfl
        have r2 : World.cell? _ ⟨w.heap.size, 2, none⟩ = some (.string ⟨#[]⟩) := HR.out.r 2 _ rfl
        have r3 : World.cell? _ ⟨w.heap.size, 3, none⟩ = some (.string ⟨#[]⟩) := HR.out.r 3 _ rfl
        have r4 : World.cell? _ ⟨w.heap.size, 4, none⟩ = some (.int .i64 0) := HR.out.r 4 _ rfl
        have rf := HR.out.rf
        cases xg
        case false =>
          have HNO := Lib.hid (show readB s = none from HRB.out.trans (HBAD.out (.inl rfl)))
          go_wp2
          exact bodyPost_ret (v := .tuple #[.agg #[.int .i64 0, .string ⟨#[]⟩, .string ⟨#[]⟩, .string ⟨#[]⟩, .int .i64 0], .bool false]) (by simp [results, Tryd.results18, go_sem, r0, r1, r2, r3, r4]) rfl (ReadD.none HNO.out (below_set5 HR.out.below (Nat.le_refl _) _ _ _ _ _))
        have z0 : World.cell? _ ⟨D, 0, none⟩ = some (.int .i64 xd.kind) := HR.out.d 0 _ rfl
        have z1 : World.cell? _ ⟨D, 1, none⟩ = some (.string xd.who) := HR.out.d 1 _ rfl
        have z2 : World.cell? _ ⟨D, 2, none⟩ = some (.string xd.mill) := HR.out.d 2 _ rfl
        have z3 : World.cell? _ ⟨D, 3, none⟩ = some (.string xd.to) := HR.out.d 3 _ rfl
        have z4 : World.cell? _ ⟨D, 4, none⟩ = some (.int .i64 xd.n) := HR.out.d 4 _ rfl
        go_wp2_with fail
        refine (sDeedOk_any xd.kind xd.n xd.who xd.mill xd.to _ (by have := HXS.out.1; unfold maxLen; omega) (by have := HXS.out.2.1; unfold maxLen; omega) (by have := HXS.out.2.2; unfold maxLen; omega)).mono ?_
        rintro e w6 ⟨rfl, hb6⟩
        clear r0 r1 r2 r3 r4 rf z0 z1 z2 z3 z4
        have HR6 := Lib.hid (HR.out.step hb6)
        clear hb6
        have r0 : World.cell? _ ⟨w.heap.size, 0, none⟩ = some (.int .i64 0) := HR6.out.r 0 _ rfl
        have r1 : World.cell? _ ⟨w.heap.size, 1, none⟩ = some (.string ⟨#[]⟩) := HR6.out.r 1 _ rfl
        have r2 : World.cell? _ ⟨w.heap.size, 2, none⟩ = some (.string ⟨#[]⟩) := HR6.out.r 2 _ rfl
        have r3 : World.cell? _ ⟨w.heap.size, 3, none⟩ = some (.string ⟨#[]⟩) := HR6.out.r 3 _ rfl
        have r4 : World.cell? _ ⟨w.heap.size, 4, none⟩ = some (.int .i64 0) := HR6.out.r 4 _ rfl
        have rf := HR6.out.rf
        cases hdk : deedB ⟨xd.kind, xd.who, xd.mill, xd.to, xd.n⟩
        case false =>
          have HNO := Lib.hid (show readB s = none from HRB.out.trans (HBAD.out (.inr hdk)))
          go_wp2
          exact bodyPost_ret (v := .tuple #[.agg #[.int .i64 0, .string ⟨#[]⟩, .string ⟨#[]⟩, .string ⟨#[]⟩, .int .i64 0], .bool false]) (by simp [results, Tryd.results18, go_sem, r0, r1, r2, r3, r4]) rfl (ReadD.none HNO.out (below_set5 HR6.out.below (Nat.le_refl _) _ _ _ _ _))
        have HYES := Lib.hid (show readB s = some xd from HRB.out.trans (HOK.out hl (by first | rfl | trivial) hdk))
        have z0 : World.cell? _ ⟨D, 0, none⟩ = some (.int .i64 xd.kind) := HR6.out.d 0 _ rfl
        have z1 : World.cell? _ ⟨D, 1, none⟩ = some (.string xd.who) := HR6.out.d 1 _ rfl
        have z2 : World.cell? _ ⟨D, 2, none⟩ = some (.string xd.mill) := HR6.out.d 2 _ rfl
        have z3 : World.cell? _ ⟨D, 3, none⟩ = some (.string xd.to) := HR6.out.d 3 _ rfl
        have z4 : World.cell? _ ⟨D, 4, none⟩ = some (.int .i64 xd.n) := HR6.out.d 4 _ rfl
        go_wp2
        exact bodyPost_ret (v := .tuple #[.agg #[.int .i64 xd.kind, .string xd.who, .string xd.mill, .string xd.to, .int .i64 xd.n], .bool true]) (by simp [results, Tryd.results18, go_sem, r0, r1, r2, r3, r4]) rfl (ReadD.some HYES.out (below_set5 HR6.out.below (Nat.le_refl _) _ _ _ _ _))
  clear hK
  have HA := Lib.hid (wordsA w1)
  have HBZ := Lib.hid (wordsB w1)
  go_region_with (first
    | (go_at_call 26; (first
        | ((with_reducible refine (HA.out).mono ?_); rintro e w2 ⟨rfl, hw2⟩; have HW2 := Lib.hid hw2; have hcw : w2.cell? ⟨b, off, none⟩ = some (.string (sat ss 0)) := (hw2.below.cell (p := ⟨b, off, none⟩) hb1').trans hc0'; have hb2 := lt_of_cell hcw; have HS2 := Lib.hid hw2.st; have HSZ2 := Lib.hid (strs_below hw2.st (below_new w2 zeroO)); clear hw2)
        | ((with_reducible refine (HBZ.out).mono ?_); rintro e w2 ⟨rfl, hw2, hz2⟩; have HW2 := Lib.hid hw2; have hcw : w2.cell? ⟨b, off, none⟩ = some (.string (sat ss 0)) := (hw2.below.cell (p := ⟨b, off, none⟩) hb1').trans hc0'; have hb2 := lt_of_cell hcw; have HS2 := Lib.hid hw2.st; have hd0 := hz2.c0; have hd1 := hz2.c1; have hd2 := hz2.c2; have hd3 := hz2.c3; have hd4 := hz2.c4; have hdf := hz2.fz; have hdl := lt_of_cell hd0; have HZ2 := Lib.hid hz2; clear hw2 hz2)))
    | (go_at_call 33; (first | (with_reducible refine (at_words (sat ss 0) HS2.out).mono ?_) | (with_reducible refine (at_words (sat ss 0) HSZ2.out).mono ?_)); rintro e w3 ⟨rfl, rfl⟩))
  all_goals first
    | exact tail _ _ _ (Lib.hid (rwayA (pk + 1) HALF.out HW2.out (fun b' off' e => by injection e with e; injection e with e1; omega)))
    | exact tail _ _ _ (Lib.hid (rwayB (pk + 1) HALF.out HW2.out HZ2.out (fun b' off' e => by injection e with e; injection e with e1; omega)))
end Go.Proofs.YtiijagmakkgnnaaDoor
