/-
  Texts joined: ShowS, DrawT, DrawU, LayNum, NumI, SplitF.
-/
import Derived.Test.YtoabpbdjffonlaaGreatDoorP1
import Derived.Test.YtoabpbdjffonlaaGreatDoorP6
import Derived.Test.YtoabpbdjffonlaaGreatDoorP7
import Derived.Test.YtoabpbdjffonlaaGreatDoorP8
import Derived.Deep.RegionWith
import Derived.Shelf.Strconv.ParseIntPublic10
import Derived.Shelf.Strconv.Itoa4
import Derived.Lib.ParseIntBTie
import Derived.Lib.LaidTab
import Derived.WalkKit
import Derived.Lib.SplitLaws
namespace Go.Proofs.YtoabpbdjffonlaaGreatDoor
open Go.ChangeShapes Go.WideShapes Go.ChangeAt Go.RowKit

/-- The world behind l15Words. -/
def wordsW (w : World) : World := w.alloc (.cells (wordsS.map Value.string).toArray 9)
/-- A block with the words has been laid. -/
def Words (w w' : World) : Prop := w' = wordsW w
theorem l15Words_any (w : World) : Calls Tryz.prog 30 #[] w fun e w' => e = .returned (.slice (some ⟨w.heap.size, 0, none⟩) 11 11) ∧ Words w w' := by
  go_enter Tryz.func30, Tryz.ntmps30
  go_wp2
  go_ret
  exact ⟨rfl, rfl⟩
theorem wordsW_below (w : World) : Below w.heap.size w (wordsW w) := below_new _ _
theorem wordsW_size (w : World) : (wordsW w).heap.size = w.heap.size + 1 := by show (w.heap.push _).size = _; rw [Array.size_push]
theorem word_cell (w : World) {k : Nat} (h : k < 11) : (wordsW w).cell? ⟨w.heap.size, k, none⟩ = some (.string (wordsS.getD k ByteArray.empty)) := by
  rw [wordsW, World.cell?_alloc_mark]
  have h' : k < wordsS.length := h
  rw [List.getElem?_toArray, List.getElem?_map, List.getElem?_eq_getElem h', List.getD_eq_getElem?_getD, List.getElem?_eq_getElem h']; rfl
theorem wordsW_strs (w : World) : Strs (wordsW w) (some ⟨w.heap.size, 0, none⟩) wordsS := strs_lit fun k v hk => by
  rw [wordsW, World.cell?_alloc_mark, List.getElem?_toArray]; exact hk
theorem Words.cell {w w' : World} (h : Words w w') {k : Nat} (hk : k < 11) : w'.cell? ⟨w.heap.size, k, none⟩ = some (.string (wordsS.getD k ByteArray.empty)) := by rw [h]; exact word_cell w hk
theorem Words.old {w w' : World} (h : Words w w') {b o : Nat} (hb : b < w.heap.size) : w'.cell? ⟨b, o, none⟩ = w.cell? ⟨b, o, none⟩ := by rw [h]; exact (wordsW_below w).cell hb
theorem Words.below {w w' : World} (h : Words w w') : Below w.heap.size w w' := by rw [h]; exact wordsW_below w
theorem field_size {d : Dee} (h : deedB d = true) : d.who.size ≤ 6 ∧ d.mill.size ≤ 6 ∧ d.to.size ≤ 6 ∧ (itoaB d.n).size ≤ 9 := by
  obtain ⟨_, h3, h4, h5, _⟩ := deed_true h
  have hn := deed_num h
  have z : (48 : UInt8).toNat < 97 := by decide
  refine ⟨(nameIs_no h3 z).2, (nameIs_no h4 z).2, (nameIs_no h5 z).2, ?_⟩
  have : (Lib.itoa d.n).length ≤ 9 := by
    rw [Lib.itoa, if_neg (by omega)]
    exact dec_len (k := 8) (by omega)
  exact this
theorem word_mem' {k : Nat} (h : k < 11) : wordsS.getD k ByteArray.empty ∈ wordsS := by
  have hlt : k < wordsS.length := h
  rw [List.getD_eq_getElem?_getD, List.getElem?_eq_getElem hlt]; exact List.getElem_mem _
theorem addF_size {d : Dee} (h : deedB d = true) (s : ByteArray) (c : Int) : (addF d s c).size ≤ s.size + 10 := by
  have ⟨h1, h2, h3, h4⟩ := field_size h
  have z : (⟨#[32]⟩ : ByteArray).size = 1 := rfl
  unfold addF
  split
  · rw [ByteArray.size_append, ByteArray.size_append]; omega
  split
  · rw [ByteArray.size_append, ByteArray.size_append]; omega
  split
  · rw [ByteArray.size_append, ByteArray.size_append]; omega
  split
  · rw [ByteArray.size_append, ByteArray.size_append]; omega
  · omega
theorem textN_size {d : Dee} (h : deedB d = true) (t s : ByteArray) : ∀ j, (textN d t s j).size ≤ s.size + 10 * j
  | 0 => Nat.le_refl _
  | j + 1 => by have := addF_size h (textN d t s j) (byteN t j); have := textN_size h t s j; rw [textN]; omega
theorem addF_w {d : Dee} {s : ByteArray} {c : Int} (h : (c == 87) = true) : addF d s c = s ++ ⟨#[32]⟩ ++ d.who := if_pos (by simpa using h)
theorem addF_m {d : Dee} {s : ByteArray} {c : Int} (h1 : (c == 87) = false) (h : (c == 77) = true) : addF d s c = s ++ ⟨#[32]⟩ ++ d.mill := by
  rw [addF, if_neg (by simpa using h1), if_pos (by simpa using h)]
theorem addF_t {d : Dee} {s : ByteArray} {c : Int} (h1 : (c == 87) = false) (h2 : (c == 77) = false) (h : (c == 84) = true) : addF d s c = s ++ ⟨#[32]⟩ ++ d.to := by
  rw [addF, if_neg (by simpa using h1), if_neg (by simpa using h2), if_pos (by simpa using h)]
theorem addF_n {d : Dee} {s : ByteArray} {c : Int} (h1 : (c == 87) = false) (h2 : (c == 77) = false) (h3 : (c == 84) = false) (h : (c == 78) = true) : addF d s c = s ++ ⟨#[32]⟩ ++ itoaB d.n := by
  rw [addF, if_neg (by simpa using h1), if_neg (by simpa using h2), if_neg (by simpa using h3), if_pos (by simpa using h)]
theorem addF_o {d : Dee} {s : ByteArray} {c : Int} (h1 : (c == 87) = false) (h2 : (c == 77) = false) (h3 : (c == 84) = false) (h : (c == 78) = false) : addF d s c = s := by
  rw [addF, if_neg (by simpa using h1), if_neg (by simpa using h2), if_neg (by simpa using h3), if_neg (by simpa using h)]

theorem undrew_below {w w2 : World} (h : Below w.drew.heap.size w.drew w2) : Below w.heap.size w w2 := ⟨h.os, h.tape, h.output, h.size, h.block⟩
/-- What ShowDeed has behind it. -/
def ShowRel (d : Dee) (t wd : ByteArray) (w : World) (v i : Value) (wr : World) : Prop :=
  ∃ j : Nat, j ≤ t.size ∧ i = .int .i64 j ∧ v = .string (textN d t wd j) ∧ RecAt Dee.cs wr w.heap.size d ∧ Below w.heap.size w wr ∧ w.heap.size < wr.heap.size

set_option maxHeartbeats 8000000 in
set_option maxRecDepth 100000 in
theorem sShowDeed_any (k n : Int) (who mill to : ByteArray) (w : World) (h1 : who.size ≤ maxLen) (h2 : mill.size ≤ maxLen) (h3 : to.size ≤ maxLen) :
    Calls Tryz.prog 12 #[.agg #[.int .i64 k, .string who, .string mill, .string to, .int .i64 n]] w fun e w' => e = .returned (.string (showB ⟨k, who, mill, to, n⟩)) ∧ Below w.heap.size w w' := by
  have HS1 := Lib.hid h1
  have HS2 := Lib.hid h2
  have HS3 := Lib.hid h3
  clear h1 h2 h3
  have HX := Lib.hid (RecAt.new Dee.cs w ⟨k, who, mill, to, n⟩ 25)
  have B0 := Lib.hid (below_new w (.cells #[.int .i64 k, .string who, .string mill, .string to, .int .i64 n] 25))
  obtain ⟨W, hW⟩ : ∃ W, w.alloc (.cells #[.int .i64 k, .string who, .string mill, .string to, .int .i64 n] 25) = W := ⟨_, rfl⟩
  rw [show w.alloc (.cells (Dee.cs ⟨k, who, mill, to, n⟩).toArray 25) = W from hW] at HX
  rw [hW] at B0
  have hWs : W.heap.size = w.heap.size + 1 := by rw [← hW]; show (w.heap.push _).size = _; rw [Array.size_push]
  have c0 := HX.out 0 _ rfl
  have c1 := HX.out 1 _ rfl
  have c2 := HX.out 2 _ rfl
  have c3 := HX.out 3 _ rfl
  have c4 := HX.out 4 _ rfl
  go_enter Tryz.func12, Tryz.ntmps12
  go_wp2_with fail
  refine (sDeedOk_any k n who mill to _ HS1.out HS2.out HS3.out).mono ?_
  rintro e w1 ⟨rfl, hb1⟩
  clear c0 c1 c2 c3 c4
  have HX1 := Lib.hid (HX.out.below hb1)
  have B1 := Lib.hid (below_trans B0.out hb1)
  have hw1 : w.heap.size < w1.heap.size := by have := hb1.size; omega
  clear hb1 HX B0 hW hWs
  cases hok : deedB ⟨k, who, mill, to, n⟩
  · have HN := Lib.hid (show showB ⟨k, who, mill, to, n⟩ = ByteArray.empty by rw [showB, hok]; rfl)
    go_wp2
    go_ret
    exact ⟨by rw [HN.out]; rfl, B1.out⟩
  obtain ⟨⟨hk1, hk2⟩, _⟩ := deed_true hok
  simp only at hk1 hk2
  have HOK := Lib.hid hok
  obtain ⟨q, rfl⟩ : ∃ q : Nat, k = (q : Int) + 1 := ⟨(k - 1).toNat, by omega⟩
  have hq : q < 11 := by omega
  have HQ := Lib.hid hq
  have hqi : (q : Int) < 11 := by omega
  have hq0 : (0 : Int) ≤ q := by omega
  have hwq : IntKind.i64.wrap (q : Int) = q := IntWalk.i64_in _ (by omega)
  have c0 := HX1.out 0 _ rfl
  obtain ⟨wd, hwd⟩ : ∃ wd, wordsS.getD q ByteArray.empty = wd := ⟨_, rfl⟩
  have HWD := Lib.hid hwd
  clear hwd hok hk1 hk2 hq
  go_wp2_with fail
  go_region_with (go_at_call 30; refine (l15Words_any _).mono ?_; rintro e w2 ⟨rfl, hw2⟩; have hcw : w2.cell? ⟨w1.heap.size, q, none⟩ = some (.string wd) := (Words.cell hw2 HQ.out).trans (by rw [HWD.out]); have c0' : w2.cell? ⟨w.heap.size, 0, none⟩ = some (.int .i64 ((q : Int) + 1)) := (Words.old (o := 0) hw2 hw1).trans c0; have HW2 := Lib.hid hw2; clear hw2)
  all_goals
    have HX2 := Lib.hid (show RecAt Dee.cs w2 w.heap.size ⟨(q : Int) + 1, who, mill, to, n⟩ from fun j v hj => (Words.old HW2.out hw1).trans (HX1.out j v hj))
    have hws := (undrew_below (Words.below HW2.out)).size
    have B2 := Lib.hid (below_trans B1.out (undrew_below (Words.below HW2.out)))
    have hw2 : w.heap.size < w2.heap.size := by omega
    clear hws HW2 c0 hcw c0' HX1 B1 hw1 hq0 hwq
    have c0 := HX2.out 0 _ rfl
    go_wp2_with fail
    refine (l15Tells_any _ (by omega) (by omega) _).mono ?_
    rintro e w3 ⟨rfl, hb3⟩
    have HX3 := Lib.hid (HX2.out.below hb3)
    have B3 := Lib.hid (below_trans B2.out hb3)
    have hw3 : w.heap.size < w3.heap.size := by have := hb3.size; omega
    clear hb3 HX2 B2 c0 hw2
    have HT := Lib.hid (tells_size ((q : Int) + 1))
    have HSZ := Lib.hid (fun j => textN_size HOK.out (tellsS ((q : Int) + 1)) wd j)
    have HSW := Lib.hid (show wd.size ≤ 6 by rw [← HWD.out]; exact (by decide : ∀ x ∈ wordsS, x.size ≤ 6) _ (word_mem' HQ.out))
    have HN := Lib.hid (show showB ⟨(q : Int) + 1, who, mill, to, n⟩ = textN ⟨(q : Int) + 1, who, mill, to, n⟩ (tellsS ((q : Int) + 1)) wd (tellsS ((q : Int) + 1)).size by
      rw [showB, if_pos HOK.out, ← HWD.out]
      have e : ((q : Int) + 1 - 1).toNat = q := by omega
      simp only [e])
    obtain ⟨t, ht⟩ : ∃ t, tellsS ((q : Int) + 1) = t := ⟨_, rfl⟩
    rw [ht] at HN HSZ HT ⊢
    have HTT := Lib.hid ht
    clear ht
    obtain ⟨D, hD⟩ : ∃ D : Dee, ⟨(q : Int) + 1, who, mill, to, n⟩ = D := ⟨_, rfl⟩
    have HDD := Lib.hid hD
    rw [hD] at HX3 HN HSZ HOK
    have HFS := Lib.hid (field_size HOK.out)
    have HNU := Lib.hid (deed_num HOK.out)
    clear hD
    go_wp2_with fail
    go_loopw [3, 5] (fun v i wr => ShowRel D t wd w v i wr) (fun _ i _ => t.size - (intOf i).toNat)
    case atStart => exact ⟨0, Nat.zero_le _, rfl, rfl, HX3.out, B3.out, hw3⟩
    case round =>
      clear HX3 B3 hw3
      obtain ⟨j, hj, rfl, rfl, hr, hb, hwr⟩ := hrel
      have HR := Lib.hid hr
      have HB := Lib.hid hb
      clear hr hb
      have ht4 := HT.out
      have hs1 := HSZ.out j
      have hs2 := HSW.out
      have ⟨hf1, hf2, hf3, hf4⟩ := HFS.out
      by_cases hlt : j < t.size
      · cases e1 : ((t[j].toNat : Int) == 87)
        case true =>
          have HS := Lib.hid (show textN D t wd (j + 1) = _ from (by rw [textN, byteN_eq hlt] : textN D t wd (j + 1) = addF D (textN D t wd j) (t[j].toNat : Int)).trans (addF_w e1))
          have y := HR.out 1 _ rfl
          go_wp2
          go_roundw
          case rel => exact ⟨j + 1, by omega, by go_num, by rw [HS.out], HR.out, HB.out, hwr⟩
          case measure => simp [intOf]; omega
        cases e2 : ((t[j].toNat : Int) == 77)
        case true =>
          have HS := Lib.hid (show textN D t wd (j + 1) = _ from (by rw [textN, byteN_eq hlt] : textN D t wd (j + 1) = addF D (textN D t wd j) (t[j].toNat : Int)).trans (addF_m e1 e2))
          have y := HR.out 2 _ rfl
          go_wp2
          go_roundw
          case rel => exact ⟨j + 1, by omega, by go_num, by rw [HS.out], HR.out, HB.out, hwr⟩
          case measure => simp [intOf]; omega
        cases e3 : ((t[j].toNat : Int) == 84)
        case true =>
          have HS := Lib.hid (show textN D t wd (j + 1) = _ from (by rw [textN, byteN_eq hlt] : textN D t wd (j + 1) = addF D (textN D t wd j) (t[j].toNat : Int)).trans (addF_t e1 e2 e3))
          have y := HR.out 3 _ rfl
          go_wp2
          go_roundw
          case rel => exact ⟨j + 1, by omega, by go_num, by rw [HS.out], HR.out, HB.out, hwr⟩
          case measure => simp [intOf]; omega
        cases e4 : ((t[j].toNat : Int) == 78)
        case true =>
          have HS := Lib.hid (show textN D t wd (j + 1) = _ from (by rw [textN, byteN_eq hlt] : textN D t wd (j + 1) = addF D (textN D t wd j) (t[j].toNat : Int)).trans (addF_n e1 e2 e3 e4))
          have y := HR.out 4 _ rfl
          have hnum := HNU.out
          go_wp2_with fail
          refine (l1Int_any D.n (by omega) (by omega) _).mono ?_
          rintro e w5 ⟨rfl, hb5⟩
          have HR5 := Lib.hid (HR.out.below hb5)
          have HB5 := Lib.hid (below_trans HB.out hb5)
          have hw5 : w.heap.size < w5.heap.size := by have := hb5.size; omega
          clear hb5 y hnum
          go_wp2
          go_roundw
          case rel => exact ⟨j + 1, by omega, by go_num, by rw [HS.out], HR5.out, HB5.out, hw5⟩
          case measure => simp [intOf]; omega
        have HS := Lib.hid (show textN D t wd (j + 1) = _ from (by rw [textN, byteN_eq hlt] : textN D t wd (j + 1) = addF D (textN D t wd j) (t[j].toNat : Int)).trans (addF_o e1 e2 e3 e4))
        go_wp2
        go_roundw
        case rel => exact ⟨j + 1, by omega, by go_num, by rw [HS.out], HR.out, HB.out, hwr⟩
        case measure => simp [intOf]; omega
      · obtain rfl : j = t.size := by omega
        go_wp2
        go_ret
        exact ⟨by rw [HDD.out, HN.out]; rfl, HB.out⟩
end Go.Proofs.YtoabpbdjffonlaaGreatDoor
namespace Go.Proofs.YtoabpbdjffonlaaGreatDoor
open Go.ChangeShapes Go.WideShapes Go.ChangeAt Go.RowKit

def zeroBok : Bok := ⟨0, 0, 0, 0, [], [], [], []⟩
def zeroSp : Spots := ⟨none, 0, none, 0, none, 0, none, 0⟩
theorem own_zero (w : World) (B : Nat) : OwnB w B zeroBok zeroSp :=
  ⟨⟨Lies.nil _ _, .inl rfl⟩, ⟨Lies.nil _ _, .inl rfl⟩, ⟨Lies.nil _ _, .inl rfl⟩, ⟨Lies.nil _ _, .inl rfl⟩, ApartN.none1, ApartN.none1, ApartN.none1, ApartN.none1, ApartN.none1, ApartN.none1,
   ⟨.inl ⟨rfl, rfl⟩, .inl ⟨rfl, rfl⟩, .inl ⟨rfl, rfl⟩, .inl ⟨rfl, rfl⟩, Nat.le_refl _, Nat.le_refl _, Nat.le_refl _, Nat.le_refl _⟩⟩
theorem parts_zero : partsB zeroBok.parts = true := by
  exact parts_yes (by simp [zeroBok]) (PUp.zero _)
theorem showB_fifty (d : Dee) : (showB d).size ≤ 50 := by
  by_cases h : deedB d = true
  · exact show_len h
  · rw [showB, if_neg h]; exact Nat.zero_le _
/-- What a draw of a deed leaves for a law. -/
def GivesD (w : World) (e : Ending) (w' : World) : Prop :=
  ∃ d : Dee, DTight d ∧ e = .returned (.agg #[.int .i64 d.kind, .string d.who, .string d.mill, .string d.to, .int .i64 d.n]) ∧ Below w.heap.size w w'
/-- What a draw of a text leaves for a law. -/
def GivesT (m : Nat) (w : World) (e : Ending) (w' : World) : Prop := ∃ t : ByteArray, t.size ≤ m ∧ e = .returned (.string t) ∧ Below w.heap.size w w'

theorem below_five {B : Nat} {w W : World} (h : Below B w W) {R : Nat} (hR : B ≤ R) (v0 v1 v2 v3 v4 : Value) :
    Below B w (((((W.setCell ⟨R, 0, none⟩ v0).setCell ⟨R, 1, none⟩ v1).setCell ⟨R, 2, none⟩ v2).setCell ⟨R, 3, none⟩ v3).setCell ⟨R, 4, none⟩ v4) :=
  ((((h.setCell hR v0).setCell hR v1).setCell hR v2).setCell hR v3).setCell hR v4
set_option maxHeartbeats 2000000 in
set_option maxRecDepth 100000 in
theorem drawDeedOk_any {a : Option Addr} {len cap : Nat} {w : World} (h : Src w a len) : Calls Tryz.prog 17 #[.slice a len cap] w (GivesD w) := by
  have R := Lib.hid (OutV.new w [.int .i64 0, .string ⟨#[]⟩, .string ⟨#[]⟩, .string ⟨#[]⟩, .int .i64 0] 25)
  have bz := below_new w (.cells #[.int .i64 0, .string ⟨#[]⟩, .string ⟨#[]⟩, .string ⟨#[]⟩, .int .i64 0] 25)
  obtain ⟨W0, hW0⟩ : ∃ W, w.alloc (.cells #[.int .i64 0, .string ⟨#[]⟩, .string ⟨#[]⟩, .string ⟨#[]⟩, .int .i64 0] 25) = W := ⟨_, rfl⟩
  rw [show w.alloc (.cells ([.int .i64 0, .string ⟨#[]⟩, .string ⟨#[]⟩, .string ⟨#[]⟩, .int .i64 0] : List Value).toArray 25) = W0 from hW0] at R
  rw [hW0] at bz
  have h0 := h.kept bz
  have hz : W0.heap.size = w.heap.size + 1 := by rw [← hW0]; simp
  have HZ := Lib.hid hz
  clear hz
  go_enter Tryz.func17, Tryz.ntmps17
  go_wp2_with fail
  refine (l1New_any h0.row h0.small).mono ?_
  rintro e w0 ⟨rfl, hc0, hb0⟩
  go_wp2_with fail
  refine (l15DrawAny_all (B := w0.heap.size) (b := zeroBok) (s := zeroSp) hc0 (own_zero _ _) (lt_of_cell hc0.c0) parts_zero).mono ?_
  rintro e w1 ⟨d, hd, rfl, hc1, hg1⟩
  have HD := Lib.hid hd
  have HB := Lib.hid (below_trans bz (below_of hb0 hg1))
  replace R := Lib.hid ((R.out.below hb0).keep hg1 (by have := HZ.out; omega))
  clear hd hc1 hg1 hb0 hc0 bz h0 hW0 h
  have r0 := R.out.has 0 _ rfl
  have r1 := R.out.has 1 _ rfl
  have r2 := R.out.has 2 _ rfl
  have r3 := R.out.has 3 _ rfl
  have r4 := R.out.has 4 _ rfl
  have rf := R.out.free
  have rl := R.out.lt
  have HEND := Lib.hid (show GivesD w (.returned (.agg #[.int .i64 d.kind, .string d.who, .string d.mill, .string d.to, .int .i64 d.n])) (((((w1.setCell ⟨w.heap.size, 0, none⟩ (.int .i64 d.kind)).setCell ⟨w.heap.size, 1, none⟩ (.string d.who)).setCell ⟨w.heap.size, 2, none⟩ (.string d.mill)).setCell ⟨w.heap.size, 3, none⟩ (.string d.to)).setCell ⟨w.heap.size, 4, none⟩ (.int .i64 d.n)) from ⟨d, HD.out, rfl, below_five HB.out (Nat.le_refl _) _ _ _ _ _⟩)
  go_wp2
  exact bodyPost_ret (v := .agg #[.int .i64 d.kind, .string d.who, .string d.mill, .string d.to, .int .i64 d.n]) (by simp [results, Tryz.results17, go_sem, r0, r1, r2, r3, r4]) rfl HEND.out
set_option maxHeartbeats 2000000 in
set_option maxRecDepth 100000 in
theorem drawShowDeed_any {a : Option Addr} {len cap : Nat} {w : World} (h : Src w a len) : Calls Tryz.prog 5 #[.slice a len cap] w (GivesD w) := by
  have R := Lib.hid (OutV.new w [.int .i64 0, .string ⟨#[]⟩, .string ⟨#[]⟩, .string ⟨#[]⟩, .int .i64 0] 25)
  have bz := below_new w (.cells #[.int .i64 0, .string ⟨#[]⟩, .string ⟨#[]⟩, .string ⟨#[]⟩, .int .i64 0] 25)
  obtain ⟨W0, hW0⟩ : ∃ W, w.alloc (.cells #[.int .i64 0, .string ⟨#[]⟩, .string ⟨#[]⟩, .string ⟨#[]⟩, .int .i64 0] 25) = W := ⟨_, rfl⟩
  rw [show w.alloc (.cells ([.int .i64 0, .string ⟨#[]⟩, .string ⟨#[]⟩, .string ⟨#[]⟩, .int .i64 0] : List Value).toArray 25) = W0 from hW0] at R
  rw [hW0] at bz
  have h0 := h.kept bz
  have hz : W0.heap.size = w.heap.size + 1 := by rw [← hW0]; simp
  have HZ := Lib.hid hz
  clear hz
  go_enter Tryz.func5, Tryz.ntmps5
  go_wp2_with fail
  refine (drawDeedOk_any h0).mono ?_
  rintro e w1 ⟨d, hd, rfl, hb⟩
  have HD := Lib.hid hd
  have HB := Lib.hid (below_trans bz hb)
  replace R := Lib.hid (R.out.below hb)
  clear hd hb bz h0 hW0 h
  have r0 := R.out.has 0 _ rfl
  have r1 := R.out.has 1 _ rfl
  have r2 := R.out.has 2 _ rfl
  have r3 := R.out.has 3 _ rfl
  have r4 := R.out.has 4 _ rfl
  have rf := R.out.free
  have rl := R.out.lt
  have HEND := Lib.hid (show GivesD w (.returned (.agg #[.int .i64 d.kind, .string d.who, .string d.mill, .string d.to, .int .i64 d.n])) (((((w1.setCell ⟨w.heap.size, 0, none⟩ (.int .i64 d.kind)).setCell ⟨w.heap.size, 1, none⟩ (.string d.who)).setCell ⟨w.heap.size, 2, none⟩ (.string d.mill)).setCell ⟨w.heap.size, 3, none⟩ (.string d.to)).setCell ⟨w.heap.size, 4, none⟩ (.int .i64 d.n)) from ⟨d, HD.out, rfl, below_five HB.out (Nat.le_refl _) _ _ _ _ _⟩)
  go_wp2
  exact bodyPost_ret (v := .agg #[.int .i64 d.kind, .string d.who, .string d.mill, .string d.to, .int .i64 d.n]) (by simp [results, Tryz.results5, go_sem, r0, r1, r2, r3, r4]) rfl HEND.out
set_option maxHeartbeats 4000000 in
set_option maxRecDepth 100000 in
theorem drawReadDeed_any {a : Option Addr} {len cap : Nat} {w : World} (h : Src w a len) : Calls Tryz.prog 7 #[.slice a len cap] w (GivesT 52 w) := by
  go_enter Tryz.func7, Tryz.ntmps7
  go_wp2_with fail
  refine (l1New_any h.row h.small).mono ?_
  rintro e w0 ⟨rfl, hc0, hb0⟩
  go_wp2_with fail
  refine (l15DrawFor_any (B := w0.heap.size) (b := zeroBok) (s := zeroSp) hc0 (own_zero _ _) (lt_of_cell hc0.c0) parts_zero).mono ?_
  rintro e w1 ⟨d, ⟨z1, z2, z3⟩, rfl, hc1, hg1⟩
  have HB1 := Lib.hid (below_of hb0 hg1)
  clear hg1 hb0 hc0
  go_wp2_with fail
  refine (sShowDeed_any d.kind d.n d.who d.mill d.to _ z1 z2 z3).mono ?_
  rintro e w2 ⟨rfl, hb2⟩
  have HC2 := Lib.hid (hc1.kept hb2)
  have HB2 := Lib.hid (below_trans HB1.out hb2)
  have h50 := showB_fifty ⟨d.kind, d.who, d.mill, d.to, d.n⟩
  obtain ⟨t, ht⟩ : ∃ t, showB ⟨d.kind, d.who, d.mill, d.to, d.n⟩ = t := ⟨_, rfl⟩
  rw [ht] at h50 ⊢
  clear ht hc1 hb2
  go_wp2_with fail
  refine (l1Once_any 2 HC2.out (by omega) (by omega)).mono ?_
  rintro e w3 ⟨q, rfl, hc3, hg3⟩
  have HB3 := Lib.hid (below_of HB2.out hg3)
  cases q
  · go_wp2
    go_ret
    exact ⟨t, by omega, rfl, HB3.out⟩
  · go_wp2_with fail
    refine (l1Bend_any t _ hc3 (by omega) (by decide) (by decide)).mono ?_
    rintro e w4 ⟨u, hu, rfl, hc4, hg4⟩
    have HB4 := Lib.hid (below_of HB3.out hg4)
    clear hc4 hg4
    go_wp2
    go_ret
    exact ⟨u, by omega, rfl, HB4.out⟩
end Go.Proofs.YtoabpbdjffonlaaGreatDoor
namespace Go.Proofs.YtoabpbdjffonlaaGreatDoor
open Go.ChangeShapes Go.WideShapes Go.ChangeAt Go.RowKit

/-- The loop's word: the texts drawn so far are the call's own. -/
def RdsDraw (C : Nat) (a : Option Addr) (len cap : Nat) (w : World) (v i : Value) (wr : World) : Prop :=
  ∃ (k : Nat) (ss : List ByteArray), i = .int .i64 k ∧ ss.length + k ≤ 4 ∧ (∀ s ∈ ss, s.size ≤ 50) ∧ wr.ownsRow w.heap.size 9 1 v ss.length (ss.map .string) ∧ Cur wr C a len cap ∧ w.grownBy wr (some C)
def SeasonRel (w : World) (v i : Value) (wr : World) : Prop :=
  ∃ (k : Nat) (t : ByteArray), v = .string t ∧ i = .int .i64 k ∧ t.size + 7 * k ≤ 460 ∧ w = wr
set_option maxHeartbeats 8000000 in
set_option maxRecDepth 100000 in
theorem drawReadDeeds_any {a : Option Addr} {len cap : Nat} {w : World} (h : Src w a len) : Calls Tryz.prog 9 #[.slice a len cap] w (GivesT 460 w) := by
  obtain ⟨i0, hi, hz0, hz1, hz2⟩ := info_parts info_str
  have HI := Lib.hid hi
  have HZ0 := Lib.hid hz0
  have HZ1 := Lib.hid hz1
  have HZ2 := Lib.hid hz2
  clear hi hz0 hz1 hz2
  go_enter Tryz.func9, Tryz.ntmps9
  go_wp2_with fail
  refine (l1New_any h.row h.small).mono ?_
  rintro e w0 ⟨rfl, hc0, hb0⟩
  have hC : w.heap.size < w0.heap.size := lt_of_cell hc0.c0
  have HO := Lib.hid hc0.old
  have HB0 := Lib.hid hb0
  obtain ⟨C, hCe⟩ : ∃ C, w.heap.size = C := ⟨_, rfl⟩
  have HCE := Lib.hid hCe
  rw [hCe] at hc0 hC ⊢
  clear hCe hb0 h
  go_wp2_with fail
  refine (l1Below_any 5 (hc0.kept ((Below.refl _ _).alloc (Nat.le_refl _) _)) (by omega) (by omega)).mono ?_
  rintro e w1 ⟨x, ⟨hx, hx2⟩, rfl, hc1, hg1⟩
  have HR : Hid (RdsDraw C a len cap w0 (.slice (some ⟨w0.heap.size, 0, none⟩) 0 0) (.int .i64 x) w1) := by
    refine ⟨x.toNat, [], by rw [show ((x.toNat : Nat) : Int) = x by omega], by simp; omega, by simp, ?_, hc1, grown_step (grown_new (grown_refl _ _) _) hg1⟩
    refine own_grown (w := w0.alloc (.cells #[] 9)) ⟨by simp, .inr ⟨w0.heap.size, 0, #[], rfl, Nat.le_refl _, heap_alloc_new _ _, Nat.le_refl _, Nat.zero_le _, by simp, by simp⟩⟩ hg1 (fun g hg => by intro e; injection e with e; omega)
  clear hg1 hc1 hc0
  go_wp2_with fail
  go_loopw [4, 5] (fun v i wr => RdsDraw C a len cap w0 v i wr) (fun _ i _ => (intOf i).toNat)
  case atStart => exact HR.out
  case round =>
    clear HR
    obtain ⟨k, ss, rfl, hk, hs, hown, hcur, hgr⟩ := hrel
    have HS := Lib.hid hs
    have HW := Lib.hid hown
    have HU := Lib.hid hcur
    have HG := Lib.hid hgr
    have hCr : C < wr.heap.size := lt_of_cell hcur.c0
    have hwr : w0.heap.size ≤ wr.heap.size := hgr.size
    clear hs hown hcur hgr
    cases k with
    | succ j =>
      obtain ⟨av, cv, hv, -, -⟩ := own_strs HW.out
      subst hv
      go_wp2_with fail
      refine (l15DrawFor_any (B := wr.heap.size) (b := zeroBok) (s := zeroSp) HU.out (own_zero _ _) hCr parts_zero).mono ?_
      rintro e w2 ⟨d, ⟨z1, z2, z3⟩, rfl, hc2, hg2⟩
      have HW2 := Lib.hid (own_grown HW.out hg2 (fun g hg => by intro e; injection e with e; omega))
      have HB2 := Lib.hid (own_block HW.out)
      have HG2 := Lib.hid (grown_step HG.out hg2)
      have HC2 := Lib.hid hc2
      have hw2 : w0.heap.size ≤ w2.heap.size := Nat.le_trans hwr hg2.size
      clear hc2 hg2
      go_wp2_with fail
      refine (sShowDeed_any d.kind d.n d.who d.mill d.to _ z1 z2 z3).mono ?_
      rintro e w3 ⟨rfl, hb3⟩
      have h50 := showB_fifty ⟨d.kind, d.who, d.mill, d.to, d.n⟩
      obtain ⟨t, ht⟩ : ∃ t, showB ⟨d.kind, d.who, d.mill, d.to, d.n⟩ = t := ⟨_, rfl⟩
      rw [ht] at h50 ⊢
      have HW3 := Lib.hid (own_below HW2.out hb3)
      have hw3 : w0.heap.size ≤ w3.heap.size := Nat.le_trans hw2 hb3.size
      have HG3 := Lib.hid (grown_new (grown_step HG2.out (below_grown hb3 _)) (.cells #[.string t] 9))
      have HC3 := Lib.hid ((HC2.out.kept hb3).kept ((Below.refl _ _).alloc (Nat.le_refl _) (.cells #[.string t] 9)))
      clear ht hb3
      go_wp2_with (at_builtin; refine wpList_append_lies _ rfl _ _ 37 rfl w0.heap.size 9 i0 (.string ByteArray.empty) 1 16 Tryz.underlying37 HI.out HZ0.out HZ1.out HZ2.out rfl (by decide) _ _ _ rfl (HW3.out.alloc _) ⟨w3.heap.size, 0, none⟩ 1 1 [.string t] rfl rfl ?c1 ?c2 (by decide) ?c3 ?c4 ?c5 _ rfl ?_)
      case c1 =>
        intro j u hj
        match j, hj with
        | 0, hj => simp at hj; subst hj; simp [Addr.add]
      case c2 => intro u hu; simp at hu; subst hu; rfl
      case c3 => unfold maxLen; omega
      case c4 => omega
      case c5 => simp; omega
      intro g c w4 hown4 hgrow hat hlt
      have HR : Hid (RdsDraw C a len cap w0 (.slice (some ⟨g, 0, none⟩) (ss.length + 1) c) (.int .i64 (j : Int)) w4) := by
        refine ⟨j, ss ++ [t], rfl, by simp; omega, ?_, by simpa using hown4, HC3.out.own hgrow HB2.out hC HO.out, grown_own HG3.out hgrow HB2.out⟩
        intro u hu
        rcases List.mem_append.1 hu with hu | hu
        · exact HS.out u hu
        · simp at hu; subst hu; exact h50
      clear hown4 hgrow hat hlt
      go_wp2
      go_roundw
      case rel => first | exact HR.out | (have := HR.out; simpa using this)
      case measure => simp [intOf]
    | zero =>
      obtain ⟨b, c, rfl, hst, hnew⟩ := own_strs HW.out
      have HT := Lib.hid hst
      have hls : ss.length ≤ 4 := by omega
      clear hst hnew
      go_wp2_with fail
      refine (l1Words_any _ _ HT.out (by omega) (fun x hx => by have := HS.out x hx; omega) (by decide)).mono ?_
      rintro e w2 ⟨t, hts, rfl, rfl⟩
      have ht440 : t.size ≤ 440 := by omega
      clear hts
      have HGB := Lib.hid (below_of HB0.out (HCE.out ▸ HG.out))
      go_wp2_with fail
      refine (l1Once_any 3 HU.out (by omega) (by omega)).mono ?_
      rintro e w3 ⟨q, rfl, hc3, hg3⟩
      have HB3 := Lib.hid (below_of HGB.out (HCE.out ▸ hg3))
      have tail : ∀ (t : ByteArray) (W : World), t.size ≤ 460 → Hid (Below w.heap.size w W) → GivesT 460 w (.returned (.string t)) W := fun t W h1 h2 => ⟨t, h1, rfl, h2.out⟩
      have TL := Lib.hid tail
      clear tail hg3
      cases q
      case' false => skip
      case' true =>
        go_wp2_with fail
        refine (l1Bend_any t _ hc3 (by omega) (by decide) (by decide)).mono ?_
        rintro e w4 ⟨u, hu, rfl, hc4, hg4⟩
        have HB4 := Lib.hid (below_of HB3.out (HCE.out ▸ hg4))
        clear HB3 hc3 hg4
        have ht440 : u.size ≤ 442 := by omega
        clear hu
        have hc3 := hc4
        have HB3 := HB4
        clear hc4 HB4
      all_goals
        go_wp2_with fail
        refine (l1Once_any 20 hc3 (by omega) (by omega)).mono ?_
        rintro e w5 ⟨q5, rfl, hc5, hg5⟩
        have HB5 := Lib.hid (below_of HB3.out (HCE.out ▸ hg5))
        clear hg5 hc3
        cases q5
        · go_wp2
          go_ret
          exact TL.out _ _ (by omega) HB5
        · go_wp2_with fail
          refine (l1Below_any 3 hc5 (by omega) (by omega)).mono ?_
          rintro e w6 ⟨x, ⟨hx, hx2⟩, rfl, hc6, hg6⟩
          have HB6 := Lib.hid (below_of HB5.out (HCE.out ▸ hg6))
          clear hg6 hc6 hc5
          have hadd : IntKind.i64.wrap (18 + x) = 18 + x := IntWalk.i64_in _ (by omega)
          have HRL : Hid (SeasonRel w6 (.string ⟨#[115, 101, 97, 115, 111, 110]⟩) (.int .i64 (18 + x)) w6) := ⟨(18 + x).toNat, _, rfl, by rw [show (((18 + x).toNat : Nat) : Int) = 18 + x by omega], by show 6 + _ ≤ _; omega, rfl⟩
          go_wp2_with fail
          go_loopw [6, 7] (fun v i wr => SeasonRel w6 v i wr) (fun _ i _ => (intOf i).toNat)
          case atStart => exact HRL.out
          case round =>
            clear HRL
            obtain ⟨k, u, rfl, rfl, hku, rfl⟩ := hrel
            cases k with
            | succ j =>
              go_wp2
              go_roundw
              case rel => exact ⟨j, _, rfl, by go_num, by rw [ByteArray.size_append]; show _ + 7 + _ ≤ _; omega, rfl⟩
              case measure => simp [intOf]
            | zero =>
              go_wp2
              go_ret
              exact TL.out _ _ (by omega) HB6
end Go.Proofs.YtoabpbdjffonlaaGreatDoor
namespace Go.Proofs.YtoabpbdjffonlaaGreatDoor
open Go.Shelf

def layParse_ren : Go.Shelf.Ren := ⟨fun | 174 => 69 | 247 => 78 | 245 => 79 | 287 => 90 | 279 => 91 | 280 => 92 | 281 => 93 | 282 => 94 | 321 => 99 | 322 => 100 | 316 => 101 | 171 => 103 | 205 => 102 | 243 => 104 | 246 => 67 | 283 => 74 | 284 => 75 | 285 => 76 | 286 => 77 | 129 => 86 | 317 => 85 | 318 => 87 | 319 => 88 | 320 => 89 | 337 => 97 | 338 => 98 | n => n, fun | 9 => 9 | 3 => 3 | 2 => 2 | 75 => 66 | 85 => 114 | 4 => 4 | 167 => 135 | 5 => 5 | 53 => 122 | 175 => 136 | 46 => 109 | 168 => 138 | 37 => 22 | 0 => 0 | 210 => 151 | 21 => 21 | 127 => 104 | 145 => 157 | 143 => 155 | 171 => 121 | 173 => 125 | 212 => 130 | 51 => 131 | 20 => 20 | 213 => 132 | 232 => 153 | 233 => 154 | 80 => 69 | n => n, fun | 15 => 4 | 16 => 5 | 17 => 1 | 18 => 6 | 19 => 7 | n => n⟩
theorem layParse : Go.Proofs.LaysC.n174 Tryz.prog layParse_ren where
  mixed := by kernel_rfl
  f129 := Tryz.func86.trans (congrArg some (by kernel_rfl))
  f171 := Tryz.func103.trans (congrArg some (by kernel_rfl))
  f174 := Tryz.func69.trans (congrArg some (by kernel_rfl))
  f205 := Tryz.func102.trans (congrArg some (by kernel_rfl))
  f243 := Tryz.func104.trans (congrArg some (by kernel_rfl))
  f245 := Tryz.func79.trans (congrArg some (by kernel_rfl))
  f246 := Tryz.func67.trans (congrArg some (by kernel_rfl))
  f247 := Tryz.func78.trans (congrArg some (by kernel_rfl))
  f279 := Tryz.func91.trans (congrArg some (by kernel_rfl))
  f280 := Tryz.func92.trans (congrArg some (by kernel_rfl))
  f281 := Tryz.func93.trans (congrArg some (by kernel_rfl))
  f282 := Tryz.func94.trans (congrArg some (by kernel_rfl))
  f283 := Tryz.func74.trans (congrArg some (by kernel_rfl))
  f284 := Tryz.func75.trans (congrArg some (by kernel_rfl))
  f285 := Tryz.func76.trans (congrArg some (by kernel_rfl))
  f286 := Tryz.func77.trans (congrArg some (by kernel_rfl))
  f287 := Tryz.func90.trans (congrArg some (by kernel_rfl))
  f316 := Tryz.func101.trans (congrArg some (by kernel_rfl))
  f317 := Tryz.func85.trans (congrArg some (by kernel_rfl))
  f318 := Tryz.func87.trans (congrArg some (by kernel_rfl))
  f319 := Tryz.func88.trans (congrArg some (by kernel_rfl))
  f320 := Tryz.func89.trans (congrArg some (by kernel_rfl))
  f321 := Tryz.func99.trans (congrArg some (by kernel_rfl))
  f322 := Tryz.func100.trans (congrArg some (by kernel_rfl))
  f337 := Tryz.func97.trans (congrArg some (by kernel_rfl))
  f338 := Tryz.func98.trans (congrArg some (by kernel_rfl))
  t0 := Tryz.underlying0
  a0 := Tryz.isAgg0
  z0 := Tryz.sizeOf0
  v0 := Tryz.zeroValue0
  t2 := Tryz.underlying2
  a2 := Tryz.isAgg2
  z2 := Tryz.sizeOf2
  v2 := Tryz.zeroValue2
  t3 := Tryz.underlying3
  a3 := Tryz.isAgg3
  z3 := Tryz.sizeOf3
  v3 := Tryz.zeroValue3
  t4 := Tryz.underlying4
  a4 := Tryz.isAgg4
  z4 := Tryz.sizeOf4
  v4 := Tryz.zeroValue4
  t5 := Tryz.underlying5
  a5 := Tryz.isAgg5
  z5 := Tryz.sizeOf5
  v5 := Tryz.zeroValue5
  t9 := Tryz.underlying9
  a9 := Tryz.isAgg9
  z9 := Tryz.sizeOf9
  v9 := Tryz.zeroValue9
  t20 := Tryz.underlying20
  a20 := Tryz.isAgg20
  z20 := Tryz.sizeOf20
  v20 := Tryz.zeroValue20
  t21 := Tryz.underlying21
  a21 := Tryz.isAgg21
  z21 := Tryz.sizeOf21
  v21 := Tryz.zeroValue21
  t37 := Tryz.underlying22
  a37 := Tryz.isAgg22
  z37 := Tryz.sizeOf22
  v37 := Tryz.zeroValue22
  t46 := Tryz.underlying109
  a46 := Tryz.isAgg109
  z46 := Tryz.sizeOf109
  v46 := Tryz.zeroValue109
  t51 := Tryz.underlying131
  a51 := Tryz.isAgg131
  z51 := Tryz.sizeOf131
  v51 := Tryz.zeroValue131
  t53 := Tryz.underlying122
  a53 := Tryz.isAgg122
  z53 := Tryz.sizeOf122
  v53 := Tryz.zeroValue122
  t75 := Tryz.underlying66
  a75 := Tryz.isAgg66
  z75 := Tryz.sizeOf66
  v75 := Tryz.zeroValue66
  t85 := Tryz.underlying114
  a85 := Tryz.isAgg114
  z85 := Tryz.sizeOf114
  v85 := Tryz.zeroValue114
  t127 := Tryz.underlying104
  a127 := Tryz.isAgg104
  z127 := Tryz.sizeOf104
  v127 := Tryz.zeroValue104
  t143 := Tryz.underlying155
  a143 := Tryz.isAgg155
  z143 := Tryz.sizeOf155
  v143 := Tryz.zeroValue155
  t145 := Tryz.underlying157
  a145 := Tryz.isAgg157
  z145 := Tryz.sizeOf157
  v145 := Tryz.zeroValue157
  t167 := Tryz.underlying135
  a167 := Tryz.isAgg135
  z167 := Tryz.sizeOf135
  v167 := Tryz.zeroValue135
  t168 := Tryz.underlying138
  a168 := Tryz.isAgg138
  z168 := Tryz.sizeOf138
  v168 := Tryz.zeroValue138
  t171 := Tryz.underlying121
  a171 := Tryz.isAgg121
  z171 := Tryz.sizeOf121
  v171 := Tryz.zeroValue121
  t173 := Tryz.underlying125
  a173 := Tryz.isAgg125
  z173 := Tryz.sizeOf125
  v173 := Tryz.zeroValue125
  t175 := Tryz.underlying136
  a175 := Tryz.isAgg136
  z175 := Tryz.sizeOf136
  v175 := Tryz.zeroValue136
  t210 := Tryz.underlying151
  a210 := Tryz.isAgg151
  z210 := Tryz.sizeOf151
  v210 := Tryz.zeroValue151
  t212 := Tryz.underlying130
  a212 := Tryz.isAgg130
  z212 := Tryz.sizeOf130
  v212 := Tryz.zeroValue130
  t213 := Tryz.underlying132
  a213 := Tryz.isAgg132
  z213 := Tryz.sizeOf132
  t232 := Tryz.underlying153
  a232 := Tryz.isAgg153
  z232 := Tryz.sizeOf153
  v232 := Tryz.zeroValue153
  t233 := Tryz.underlying154
  a233 := Tryz.isAgg154
  z233 := Tryz.sizeOf154
  v233 := Tryz.zeroValue154
  g15 := by kernel_rfl
  g16 := by kernel_rfl
  g17 := by kernel_rfl
  g18 := by kernel_rfl
  g19 := by kernel_rfl
  t80 := Tryz.underlying69
  a80 := Tryz.isAgg69
  z80 := Tryz.sizeOf69
  v80 := Tryz.zeroValue69
  i0 := by kernel_rfl
  i2 := by kernel_rfl
  i3 := by kernel_rfl
  i4 := by kernel_rfl
  i5 := by kernel_rfl
  i9 := by kernel_rfl
  i20 := by kernel_rfl
  i21 := by kernel_rfl
  i37 := by kernel_rfl
  i46 := by kernel_rfl
  i51 := by kernel_rfl
  i53 := by kernel_rfl
  i75 := by kernel_rfl
  i80 := by kernel_rfl
  i85 := by kernel_rfl
  i127 := by kernel_rfl
  i143 := by kernel_rfl
  i145 := by kernel_rfl
  i167 := by kernel_rfl
  i168 := by kernel_rfl
  i171 := by kernel_rfl
  i173 := by kernel_rfl
  i175 := by kernel_rfl
  i210 := by kernel_rfl
  i212 := by kernel_rfl
  i232 := by kernel_rfl
  i233 := by kernel_rfl
  m15 := by kernel_rfl
  m16 := by kernel_rfl
  m17 := by kernel_rfl
  m18 := by kernel_rfl
  m19 := by kernel_rfl
  c0 := by kernel_rfl
  c2 := by kernel_rfl
  c3 := by kernel_rfl
  c4 := by kernel_rfl
  c5 := by kernel_rfl
  c9 := by kernel_rfl
  c20 := by kernel_rfl
  c21 := by kernel_rfl
  c37 := by kernel_rfl
  c46 := by kernel_rfl
  c51 := by kernel_rfl
  c53 := by kernel_rfl
  c75 := by kernel_rfl
  c80 := by kernel_rfl
  c85 := by kernel_rfl
  c127 := by kernel_rfl
  c143 := by kernel_rfl
  c145 := by kernel_rfl
  c167 := by kernel_rfl
  c168 := by kernel_rfl
  c171 := by kernel_rfl
  c173 := by kernel_rfl
  c175 := by kernel_rfl
  c210 := by kernel_rfl
  c212 := by kernel_rfl
  c213 := by kernel_rfl
  c232 := by kernel_rfl
  c233 := by kernel_rfl

def layFormat_ren : Go.Shelf.Ren := ⟨fun | 173 => 59 | 246 => 67 | 283 => 74 | 284 => 75 | 285 => 76 | 286 => 77 | 129 => 86 | 317 => 85 | 318 => 87 | 319 => 88 | 320 => 89 | 337 => 97 | 338 => 98 | n => n, fun | 2 => 2 | 3 => 3 | 9 => 9 | 4 => 4 | 171 => 121 | 0 => 0 | 53 => 122 | 37 => 22 | 5 => 5 | 173 => 125 | 212 => 130 | 51 => 131 | 20 => 20 | 213 => 132 | 46 => 109 | 232 => 153 | 233 => 154 | n => n, fun | 17 => 1 | 18 => 6 | 19 => 7 | n => n⟩
theorem layFormat : Go.Proofs.LaysM.n173 Tryz.prog layFormat_ren where
  mixed := by kernel_rfl
  f129 := Tryz.func86.trans (congrArg some (by kernel_rfl))
  f173 := Tryz.func59.trans (congrArg some (by kernel_rfl))
  f246 := Tryz.func67.trans (congrArg some (by kernel_rfl))
  f283 := Tryz.func74.trans (congrArg some (by kernel_rfl))
  f284 := Tryz.func75.trans (congrArg some (by kernel_rfl))
  f285 := Tryz.func76.trans (congrArg some (by kernel_rfl))
  f286 := Tryz.func77.trans (congrArg some (by kernel_rfl))
  f317 := Tryz.func85.trans (congrArg some (by kernel_rfl))
  f318 := Tryz.func87.trans (congrArg some (by kernel_rfl))
  f319 := Tryz.func88.trans (congrArg some (by kernel_rfl))
  f320 := Tryz.func89.trans (congrArg some (by kernel_rfl))
  f337 := Tryz.func97.trans (congrArg some (by kernel_rfl))
  f338 := Tryz.func98.trans (congrArg some (by kernel_rfl))
  t0 := Tryz.underlying0
  a0 := Tryz.isAgg0
  z0 := Tryz.sizeOf0
  v0 := Tryz.zeroValue0
  t2 := Tryz.underlying2
  a2 := Tryz.isAgg2
  z2 := Tryz.sizeOf2
  v2 := Tryz.zeroValue2
  t3 := Tryz.underlying3
  a3 := Tryz.isAgg3
  z3 := Tryz.sizeOf3
  v3 := Tryz.zeroValue3
  t4 := Tryz.underlying4
  a4 := Tryz.isAgg4
  z4 := Tryz.sizeOf4
  v4 := Tryz.zeroValue4
  t5 := Tryz.underlying5
  a5 := Tryz.isAgg5
  z5 := Tryz.sizeOf5
  v5 := Tryz.zeroValue5
  t9 := Tryz.underlying9
  a9 := Tryz.isAgg9
  z9 := Tryz.sizeOf9
  v9 := Tryz.zeroValue9
  t20 := Tryz.underlying20
  a20 := Tryz.isAgg20
  z20 := Tryz.sizeOf20
  v20 := Tryz.zeroValue20
  t37 := Tryz.underlying22
  a37 := Tryz.isAgg22
  z37 := Tryz.sizeOf22
  v37 := Tryz.zeroValue22
  t46 := Tryz.underlying109
  a46 := Tryz.isAgg109
  z46 := Tryz.sizeOf109
  v46 := Tryz.zeroValue109
  t51 := Tryz.underlying131
  a51 := Tryz.isAgg131
  z51 := Tryz.sizeOf131
  v51 := Tryz.zeroValue131
  t53 := Tryz.underlying122
  a53 := Tryz.isAgg122
  z53 := Tryz.sizeOf122
  v53 := Tryz.zeroValue122
  t171 := Tryz.underlying121
  a171 := Tryz.isAgg121
  z171 := Tryz.sizeOf121
  v171 := Tryz.zeroValue121
  t173 := Tryz.underlying125
  a173 := Tryz.isAgg125
  z173 := Tryz.sizeOf125
  v173 := Tryz.zeroValue125
  t212 := Tryz.underlying130
  a212 := Tryz.isAgg130
  z212 := Tryz.sizeOf130
  v212 := Tryz.zeroValue130
  t213 := Tryz.underlying132
  a213 := Tryz.isAgg132
  z213 := Tryz.sizeOf132
  t232 := Tryz.underlying153
  a232 := Tryz.isAgg153
  z232 := Tryz.sizeOf153
  v232 := Tryz.zeroValue153
  t233 := Tryz.underlying154
  a233 := Tryz.isAgg154
  z233 := Tryz.sizeOf154
  v233 := Tryz.zeroValue154
  g17 := by kernel_rfl
  g18 := by kernel_rfl
  g19 := by kernel_rfl
  i0 := by kernel_rfl
  i2 := by kernel_rfl
  i3 := by kernel_rfl
  i4 := by kernel_rfl
  i5 := by kernel_rfl
  i9 := by kernel_rfl
  i20 := by kernel_rfl
  i37 := by kernel_rfl
  i46 := by kernel_rfl
  i51 := by kernel_rfl
  i53 := by kernel_rfl
  i171 := by kernel_rfl
  i173 := by kernel_rfl
  i212 := by kernel_rfl
  i232 := by kernel_rfl
  i233 := by kernel_rfl
  m17 := by kernel_rfl
  m18 := by kernel_rfl
  m19 := by kernel_rfl
end Go.Proofs.YtoabpbdjffonlaaGreatDoor
namespace Go.Proofs.YtoabpbdjffonlaaGreatDoor
open Go.ChangeShapes Go.WideShapes Go.ChangeAt Go.RowKit

/-! What the library parses -/
def stepU (n : Nat) (c : UInt8) : Nat := n * 10 + (c.toNat - 48)
theorem foldU_ge : ∀ (l : List UInt8) (acc : Nat), acc ≤ l.foldl stepU acc
  | [], _ => Nat.le_refl _
  | c :: r, acc => by have := foldU_ge r (stepU acc c); simp only [List.foldl_cons]; have h : acc ≤ stepU acc c := by unfold stepU; omega
                      omega
theorem parseU_digs (M : Nat) (hM : 10000000000 ≤ M) : ∀ (l : List UInt8) (acc : Nat), l.all isDig = true → l.foldl stepU acc < 10000000000 → Lib.parseUintM M acc l = .ok (l.foldl stepU acc)
  | [], _, _, _ => rfl
  | c :: r, acc, hd, hv => by
    simp only [List.all_cons, Bool.and_eq_true] at hd
    have h1 := digB_true hd.1
    simp only [List.foldl_cons] at hv ⊢
    have h2 := foldU_ge r (stepU acc c)
    have h3 : stepU acc c = acc * 10 + (c.toNat - 48) := rfl
    rw [Lib.parseUintM, if_pos h1, if_neg (by omega), if_neg (by omega)]
    exact parseU_digs M hM r _ hd.2 hv
theorem parseU_dec (u : Nat) (h : u < 10000000000) : Lib.parseUintB 64 (Lib.decDigits u) = .ok u := by
  have ⟨h1, h2, _⟩ := dec_val u
  have e : (Lib.decDigits u).foldl stepU 0 = u := h1
  rw [Lib.parseUintB, if_neg (dec_ne u), parseU_digs _ (by decide) _ _ h2 (by rw [e]; exact h), e]
theorem parse_itoa {n : Int} (h1 : -1000000000 < n) (h2 : n < 1000000000) : Lib.parseIntB 64 (Lib.itoa n) = .ok n := by
  unfold Lib.itoa
  by_cases hn : n < 0
  · rw [if_pos hn, Lib.parseIntB_minus, parseU_dec _ (by omega)]
    simp only [Lib.signedC]
    rw [if_neg (by have : (2 : Nat) ^ (64 - 1) = 9223372036854775808 := by decide
                   omega)]
    congr 1; omega
  · rw [if_neg hn]
    have ⟨_, e2, _⟩ := dec_val n.toNat
    have hp := parseU_dec n.toNat (by omega)
    cases hc : Lib.decDigits n.toNat with
    | nil => exact absurd hc (dec_ne _)
    | cons c r =>
      rw [hc] at e2 hp
      simp only [List.all_cons, Bool.and_eq_true] at e2
      have := digB_true e2.1
      rw [Lib.parseIntB_plain _ _ _ (by omega) (by omega), hp]
      simp only [Lib.signlessC]
      rw [if_neg (by have : (2 : Nat) ^ (64 - 1) = 9223372036854775808 := by decide
                     omega)]
      congr 1; omega
/-- What is read where the library parses a number. -/
theorem read_ok {s : ByteArray} {v : Int} (h : Lib.parseIntB 64 s.data.toList = .ok v) (e : itoaB v = s) (h1 : -1000000000 < v) (h2 : v < 1000000000) : readL s.data.toList = some v := by
  subst e; exact readL_itoa h1 h2
theorem read_of {s : ByteArray} {n : Int} (h : readL s.data.toList = some n) : Lib.parseIntB 64 s.data.toList = .ok n ∧ itoaB n = s ∧ -1000000000 < n ∧ n < 1000000000 := by
  have ⟨h1, h2, h3⟩ := readL_some h
  exact ⟨by rw [h1]; exact parse_itoa h2 h3, (WideShapes.bytes_inj (by rw [h1]; rfl)), h2, h3⟩
theorem read_no {s : ByteArray} (h : ∀ v, Lib.parseIntB 64 s.data.toList = .ok v → ¬ (itoaB v = s ∧ -1000000000 < v ∧ v < 1000000000)) : readL s.data.toList = none := by
  cases q : readL s.data.toList with
  | none => rfl
  | some n => have ⟨h1, h2⟩ := read_of q; exact absurd h2 (h n h1)

/-- What the library's own table holds, and its two errors. -/
structure Glob (w : World) : Prop where
  tab : Lib.TabIs Tryz.prog w "internal/strconv.uint64pow10" .u64 Lib.pow10Tab
  syn : ∃ t p, w.cell? ⟨4, 0, none⟩ = some (.iface t p)
  rng : ∃ t p, w.cell? ⟨5, 0, none⟩ = some (.iface t p)
theorem tab_below {w w' : World} {name : String} {k : IntKind} {zs : List Int} (h : Lib.TabIs Tryz.prog w name k zs) (hb : Below w.heap.size w w') : Lib.TabIs Tryz.prog w' name k zs := by
  unfold Lib.TabIs World.var? at h ⊢
  cases hg : Tryz.prog.globalNamed name with
  | none => simp [hg] at h
  | some g =>
    simp only [hg, Option.bind_some] at h ⊢
    have hlt : g < w.heap.size := by
      rcases Nat.lt_or_ge g w.heap.size with h' | h'
      · exact h'
      · simp [Array.getElem?_eq_none h'] at h
    rw [hb.block g hlt]; exact h
theorem Glob.below {w w' : World} (h : Glob w) (hb : Below w.heap.size w w') : Glob w' :=
  ⟨tab_below h.tab hb, let ⟨t, p, e⟩ := h.syn; ⟨t, p, (hb.cell (Lib.lt_of_cell e)).trans e⟩, let ⟨t, p, e⟩ := h.rng; ⟨t, p, (hb.cell (Lib.lt_of_cell e)).trans e⟩⟩
theorem below_grow (w : World) (k : Nat) (os : Array Obj) : Below w.heap.size w (Go.Sort.grow (w.drewN k) os) := by
  have h := below_draws (Below.refl w.heap.size w) k
  have hs : (w.drewN k).heap = w.heap := by
    have := h.size
    clear this; induction k with
    | zero => rfl
    | succ k ih => rfl
  refine ⟨h.os, h.tape, h.output, ?_, fun i hi => ?_⟩
  · show w.heap.size ≤ ((w.drewN k).heap ++ os).size
    rw [hs, Array.size_append]; omega
  · show ((w.drewN k).heap ++ os)[i]? = w.heap[i]?
    rw [hs, Array.getElem?_append_left hi]

theorem digits_any (n : Int) (h0 : -9223372036854775808 ≤ n) (h1 : n ≤ 9223372036854775807) (w : World) (hg : Glob w) :
    Calls Tryz.prog 42 #[.int .i64 n] w fun e w' => e = .returned (.string (itoaB n)) ∧ Below w.heap.size w w' := by
  have HG := Lib.hid hg
  clear hg
  go_enter Tryz.func42, Tryz.ntmps42
  go_wp2_with fail
  refine (Any.strconv_FormatInt_10 layFormat n h0 h1 _ HG.out.tab).mono ?_
  rintro e w' ⟨rfl, k, os, hw⟩
  have HB := Lib.hid (show Below w.heap.size w w' from hw ▸ below_grow w k os)
  clear hw
  go_wp2
  go_ret
  exact ⟨rfl, HB.out⟩
/-- A number as it is read. -/
def NumIn (s : ByteArray) (w : World) (e : Ending) (w' : World) : Prop :=
  e = .returned (.tuple #[.int .i64 ((readL s.data.toList).getD 0), .bool (readL s.data.toList).isSome]) ∧ Below w.heap.size w w'
theorem NumIn.no {s : ByteArray} {w w' : World} (h : readL s.data.toList = none) (hb : Below w.heap.size w w') : NumIn s w (.returned (.tuple #[.int .i64 0, .bool false])) w' := by
  refine ⟨?_, hb⟩; rw [h]; rfl
theorem NumIn.yes {s : ByteArray} {w w' : World} {n : Int} (h : readL s.data.toList = some n) (hb : Below w.heap.size w w') : NumIn s w (.returned (.tuple #[.int .i64 n, .bool true])) w' := by
  refine ⟨?_, hb⟩; rw [h]; rfl
theorem bytes_below {w w' : World} {T : TypeId} (h : w' = w ∨ ∃ t, w' = Lib.bytesWorld w T t) : Below w.heap.size w w' := by
  rcases h with rfl | ⟨t, rfl⟩
  · exact Below.refl _ _
  · exact Lib.bytesWorld_below _ _ _
set_option maxHeartbeats 2000000 in
set_option maxRecDepth 100000 in
theorem numberIn_any (s : ByteArray) (w : World) (hs : s.size ≤ 281474976710656) (hg : Glob w) :
    Calls Tryz.prog 61 #[.string s] w (NumIn s w) := by
  have HG := Lib.hid hg
  have HS := Lib.hid hs
  clear hg hs
  cases hp : Lib.parseIntB 64 s.data.toList
  · rename_i v
    have ⟨hv1, hv2⟩ := Lib.parseIntB_bounds hp
    have e63 : ((2 ^ (64 - 1) : Nat) : Int) = 9223372036854775808 := by decide
    rw [e63] at hv1 hv2
    clear e63
    have HV := Lib.hid (And.intro hv1 hv2)
    have HP := Lib.hid hp
    have HNO := Lib.hid (fun (q : ¬ (itoaB v = s ∧ -1000000000 < v ∧ v < 1000000000)) => read_no (s := s) fun u h => by rw [hp] at h; cases h; exact q)
    have HYES := Lib.hid (fun (q : itoaB v = s ∧ -1000000000 < v ∧ v < 1000000000) => read_ok hp q.1 q.2.1 q.2.2)
    clear hp hv1 hv2
    go_enter Tryz.func61, Tryz.ntmps61
    go_wp2_with fail
    refine (Any.strconv_ParseInt_10_at64_ok layParse s (by have := HS.out; omega) v HP.out _).mono ?_
    rintro e w1 ⟨rfl, hw⟩
    have HB := Lib.hid (bytes_below hw)
    clear hw
    by_cases hq : itoaB v = s
    case neg =>
      have HN := Lib.hid (HNO.out fun q => hq q.1)
      have hne : ¬ (itoaB v).toList = s.toList := fun q => hq (WideShapes.bytes_inj (by rw [ByteArray.toList_eq, ByteArray.toList_eq] at q; exact q))
      clear hq
      go_wp2_with fail
      refine (digits_any v HV.out.1 (by have := HV.out.2; omega) _ (HG.out.below HB.out)).mono ?_
      rintro e w2 ⟨rfl, hb2⟩
      have HB2 := Lib.hid (below_trans HB.out hb2)
      clear hb2
      go_wp2
      go_ret2
      exact NumIn.no HN.out HB2.out
    case pos =>
      have HQ := Lib.hid hq
      have heq : (itoaB v).toList = s.toList := by rw [hq]
      clear hq
      by_cases h1 : v < -999999999
      · have HN := Lib.hid (HNO.out fun q => by omega)
        go_wp2_with fail
        refine (digits_any v HV.out.1 (by have := HV.out.2; omega) _ (HG.out.below HB.out)).mono ?_
        rintro e w2 ⟨rfl, hb2⟩
        have HB2 := Lib.hid (below_trans HB.out hb2)
        clear hb2
        go_wp2
        go_ret2
        exact NumIn.no HN.out HB2.out
      · by_cases h2 : v > 999999999
        · have HN := Lib.hid (HNO.out fun q => by omega)
          go_wp2_with fail
          refine (digits_any v HV.out.1 (by have := HV.out.2; omega) _ (HG.out.below HB.out)).mono ?_
          rintro e w2 ⟨rfl, hb2⟩
          have HB2 := Lib.hid (below_trans HB.out hb2)
          clear hb2
          go_wp2
          go_ret2
          exact NumIn.no HN.out HB2.out
        · have HN := Lib.hid (HYES.out ⟨HQ.out, by omega, by omega⟩)
          go_wp2_with fail
          refine (digits_any v HV.out.1 (by have := HV.out.2; omega) _ (HG.out.below HB.out)).mono ?_
          rintro e w2 ⟨rfl, hb2⟩
          have HB2 := Lib.hid (below_trans HB.out hb2)
          clear hb2
          go_wp2
          go_ret2
          exact NumIn.yes HN.out HB2.out
  · have HP := Lib.hid hp
    have HN := Lib.hid (read_no (s := s) fun v h => by rw [hp] at h; cases h)
    clear hp
    obtain ⟨te, pe, he⟩ := HG.out.syn
    have HE := Lib.hid he
    clear he
    go_enter Tryz.func61, Tryz.ntmps61
    go_wp2_with fail
    refine (Any.strconv_ParseInt_10_at64_syntax layParse s HS.out HP.out _ _ HE.out (.inr ⟨te, pe, rfl⟩)).mono ?_
    rintro e w1 ⟨N, rfl, -, -, hb⟩
    have HB := Lib.hid hb
    clear hb
    go_wp2
    go_ret2
    exact NumIn.no HN.out HB.out
  · have HP := Lib.hid hp
    have HN := Lib.hid (read_no (s := s) fun v h => by rw [hp] at h; cases h)
    clear hp
    obtain ⟨te, pe, he⟩ := HG.out.rng
    have HE := Lib.hid he
    clear he
    go_enter Tryz.func61, Tryz.ntmps61
    go_wp2_with fail
    refine (Any.strconv_ParseInt_10_at64_range layParse s HS.out HP.out _ _ HE.out (.inr ⟨te, pe, rfl⟩)).mono ?_
    rintro e w1 ⟨N, rfl, -, -, hb⟩
    have HB := Lib.hid hb
    clear hb
    go_wp2
    go_ret2
    exact NumIn.no HN.out HB.out
end Go.Proofs.YtoabpbdjffonlaaGreatDoor
namespace Go.Proofs.YtoabpbdjffonlaaGreatDoor
open Go.Lib
/-! The library's own split is the same -/
theorem pieces_more (c b : UInt8) : ∀ (l cur h : List UInt8) (t : List (List UInt8)), pieces c cur l = h :: t → pieces c (b :: cur) l = (b :: h) :: t
  | [], cur, h, t, e => by
    rw [pieces] at e ⊢
    obtain ⟨rfl, rfl⟩ := List.cons.inj e
    rfl
  | x :: l, cur, h, t, e => by
    rw [pieces] at e ⊢
    by_cases q : x = c
    · rw [if_pos q] at e ⊢
      obtain ⟨rfl, rfl⟩ := List.cons.inj e
      rfl
    · rw [if_neg q] at e ⊢
      exact pieces_more c b l (cur ++ [x]) h t e
theorem index_skip (b c : UInt8) (l : List UInt8) (h : b ≠ c) : Lib.index (b :: l) [c] = if Lib.index l [c] == -1 then -1 else Lib.index l [c] + 1 := by
  have hp : ([c] : List UInt8).isPrefixOf (b :: l) = false := by simp [List.isPrefixOf, Ne.symm h]
  rw [Lib.index, hp]; simp
theorem index_here (c : UInt8) (l : List UInt8) : Lib.index (c :: l) [c] = 0 := by rw [Lib.index]; simp [List.isPrefixOf]
end Go.Proofs.YtoabpbdjffonlaaGreatDoor
