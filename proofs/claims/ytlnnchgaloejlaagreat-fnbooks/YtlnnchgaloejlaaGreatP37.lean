/-
  Texts joined: Draw9, DrawK, Draw3L, Draw4.
-/
import Derived.Test.YtlnnchgaloejlaaGreatP7
import Derived.Test.YtlnnchgaloejlaaGreatP12
import Derived.Test.YtlnnchgaloejlaaGreatP20
import Derived.Test.YtlnnchgaloejlaaGreatP35
import Derived.Test.YtlnnchgaloejlaaGreatP36
import Derived.Deep.CutRange
import Derived.Deep.RegionWith
namespace Go.Proofs.YtlnnchgaloejlaaGreat
open Go.ChangeShapes Go.WideShapes Go.ChangeAt Go.RowKit

theorem done_right {b : Bok} (h : bookB b = true) (o : Bok) : bookB (doneB b o) = true := by
  unfold doneB; split <;> assumption
theorem zero_right : bookB bok0 = true := by
  have h : newB [] = true := by decide
  have e := new_book []
  rw [h] at e
  have : freeInV [] = 0 := by decide
  rw [this] at e
  exact e
theorem new_right (ps : List Pur) : bookB (newL ps) = true := by
  cases h : newB ps
  · rw [newL_no h]; exact zero_right
  · rw [newL_yes h, new_book]; exact h
section
variable {b : Bok}
theorem open_right (h : bookB b = true) (name : ByteArray) (cut : Int) : bookB (openL b name cut).1 = true := by
  unfold openL
  repeat' split
  all_goals first | exact h | exact done_right h _ | exact absurd h (by assumption)
theorem join_right (h : bookB b = true) (name : ByteArray) : bookB (joinL b name).1 = true := by
  unfold joinL
  repeat' split
  all_goals first | exact h | exact done_right h _ | exact absurd h (by assumption)
theorem recut_right (h : bookB b = true) (name : ByteArray) (cut : Int) : bookB (recutL b name cut).1 = true := by
  unfold recutL
  repeat' split
  all_goals first | exact h | exact done_right h _ | exact absurd h (by assumption)
theorem lent_right (h : bookB b = true) (who mill : ByteArray) (n : Int) : bookB (lentL b who mill n).1 = true := by
  unfold lentL
  repeat' split
  all_goals first | exact h | exact done_right h _ | exact absurd h (by assumption)
theorem loose_right (h : bookB b = true) (who mill : ByteArray) (n : Int) : bookB (looseL b who mill n).1 = true := by
  unfold looseL
  repeat' split
  all_goals first | exact h | exact done_right h _ | exact absurd h (by assumption)
theorem shift_right (h : bookB b = true) (who fr tu : ByteArray) (n : Int) : bookB (shiftL b who fr tu n).1 = true := by
  unfold shiftL
  repeat' split
  all_goals first | exact h | exact done_right h _ | exact absurd h (by assumption)
theorem pun_right (h : bookB b = true) (mill : ByteArray) (n : Int) : bookB (punL b mill n).1 = true := by
  unfold punL
  repeat' split
  all_goals first | exact h | exact done_right h _ | exact absurd h (by assumption)
theorem mend_right (h : bookB b = true) (mill : ByteArray) : bookB (mendL b mill).1 = true := by
  unfold mendL
  repeat' split
  all_goals first | exact h | exact done_right h _ | exact absurd h (by assumption)
theorem earn_right (h : bookB b = true) (mill : ByteArray) (n : Int) : bookB (earnL b mill n).1 = true := by
  unfold earnL
  repeat' split
  all_goals first | exact h | exact done_right h _ | exact absurd h (by assumption)
theorem given_right (h : bookB b = true) (fr tu : ByteArray) (n : Int) : bookB (givenL b fr tu n).1 = true := by
  unfold givenL
  repeat' split
  all_goals first | exact h | exact done_right h _ | exact absurd h (by assumption)
theorem turn_right (h : bookB b = true)  : bookB (turnL b ).1 = true := by
  unfold turnL
  repeat' split
  all_goals first | exact h | exact done_right h _ | exact absurd h (by assumption)
theorem do_right (h : bookB b = true) (k : Int) (who mill tu : ByteArray) (n : Int) : bookB (doL b k who mill tu n).1 = true := by
  unfold doL
  repeat' split
  all_goals first | (with_reducible exact open_right h _ _) | (with_reducible exact join_right h _) | (with_reducible exact recut_right h _ _) | (with_reducible exact lent_right h _ _ _) | (with_reducible exact loose_right h _ _ _) | (with_reducible exact shift_right h _ _ _ _) | (with_reducible exact pun_right h _ _) | (with_reducible exact mend_right h _) | (with_reducible exact earn_right h _ _) | (with_reducible exact given_right h _ _ _) | (with_reducible exact turn_right h)
theorem does_right (h : bookB b = true) (d : Dee) : bookB (doesL b d).1 = true := by
  unfold doesL
  rw [if_pos h]
  split
  · exact do_right h _ _ _ _ _
  · exact h
theorem book_len (h : bookB b = true) : BLen b := by
  have := book_few h
  exact ⟨by omega, by omega, by omega, by omega⟩
theorem book_sized (h : bookB b = true) : BSized b := by
  obtain ⟨hl, -, -⟩ := book_true h
  obtain ⟨⟨hf, hm, hp, hw⟩, -⟩ := lists_all hl
  have nm : ∀ s : ByteArray, nameB s = true → s.size ≤ maxLen := fun s hs => by have := (nameB_true hs).2.1; unfold maxLen; omega
  have em : ByteArray.empty.size ≤ maxLen := by decide
  refine ⟨fun k => ?_, fun k => ?_, fun k hk => ?_, fun k hk => ?_⟩
  · by_cases hk : k < (pnames b.folk).length
    · exact nm _ (rises_name (folk_true hf).2.2 hk)
    · unfold sat; rw [List.getD_eq_getElem?_getD, List.getElem?_eq_none (by omega)]; exact em
  · by_cases hk : k < (mnames b.mills).length
    · exact nm _ (rises_name (mills_true hm).2.2 hk)
    · unfold sat; rw [List.getD_eq_getElem?_getD, List.getElem?_eq_none (by omega)]; exact em
  · have h1 := (parts_true hp).2.1 k hk hk
    simp only [partB, Bool.and_eq_true] at h1
    exact ⟨nm _ h1.1, nm _ h1.2.1⟩
  · have h1 := (waits_true hw).2.1 k hk hk
    simp only [waitB, Bool.and_eq_true] at h1
    exact ⟨nm _ h1.1, nm _ h1.2.1⟩
theorem book_parts (h : bookB b = true) : partsB b.parts = true := (lists_all (book_true h).1).1.2.2.1
end

/-- A book that a draw has under way lies in block X; the result's block is as it was made. -/
structure DayB (w : World) (C : Nat) (a : Option Addr) (len cap X : Nat) (b : Bok) (s : Spots) (W : World) : Prop where
  way : Way w C a len cap W
  x : OutV W X [.int .i64 b.season, .int .i64 b.supply, .int .i64 b.burnt, .int .i64 b.pot, .slice s.fa b.folk.length s.fc, .slice s.ma b.mills.length s.mc, .slice s.pa b.parts.length s.pc, .slice s.wa b.waits.length s.wc]
  o : OwnB W (w.heap.size + 1) b s
  n : NotIn b s X
  r : OutV W w.heap.size [.int .i64 0, .int .i64 0, .int .i64 0, .int .i64 0, .slice none 0 0, .slice none 0 0, .slice none 0 0, .slice none 0 0]
  ok : bookB b = true
  lo : w.heap.size < X
section
variable {w W W' : World} {C X len cap : Nat} {a : Option Addr} {b : Bok} {s : Spots}
theorem DayB.draw (h : DayB w C a len cap X b s W) (hc : Cur W' C a len cap) (hg : W.grownBy W' (some C)) : DayB w C a len cap X b s W' := by
  have hC := h.way.hC
  have hX := h.lo
  exact ⟨h.way.draw hc hg, h.x.keep hg (by omega), h.o.grown hg (by omega), h.n, h.r.keep hg (by omega), h.ok, h.lo⟩
theorem DayB.below (h : DayB w C a len cap X b s W) (hb : Below W.heap.size W W') : DayB w C a len cap X b s W' :=
  ⟨h.way.below hb, h.x.below hb, h.o.below hb, h.n, h.r.below hb, h.ok, h.lo⟩
theorem DayB.drew (h : DayB w C a len cap X b s W) : DayB w C a len cap X b s W.drew := h.below (below_draws (Below.refl _ _) 1)
theorem Way.putB (h : Way w C a len cap W) {B : Nat} (hB : w.heap.size ≤ B) (r : Bok) (t : Spots) : Way w C a len cap (putB W B r t) :=
  (((((((h.set hB 0 _).set hB 1 _).set hB 2 _).set hB 3 _).set hB 4 _).set hB 5 _).set hB 6 _).set hB 7 _
theorem OutV.putB {B : Nat} {v0 v1 v2 v3 v4 v5 v6 v7 : Value} (h : OutV W B [v0, v1, v2, v3, v4, v5, v6, v7]) (r : Bok) (t : Spots) : OutV (putB W B r t) B [.int .i64 r.season, .int .i64 r.supply, .int .i64 r.burnt, .int .i64 r.pot, .slice t.fa r.folk.length t.fc, .slice t.ma r.mills.length t.mc, .slice t.pa r.parts.length t.pc, .slice t.wa r.waits.length t.wc] :=
  (((((((h.set 0 (.int .i64 r.season)).set 1 (.int .i64 r.supply)).set 2 (.int .i64 r.burnt)).set 3 (.int .i64 r.pot)).set 4 (.slice t.fa r.folk.length t.fc)).set 5 (.slice t.ma r.mills.length t.mc)).set 6 (.slice t.pa r.parts.length t.pc)).set 7 (.slice t.wa r.waits.length t.wc)
/-- Another book, of a call's own, takes its place. -/
theorem DayB.put {r : Bok} {t : Spots} (h : DayB w C a len cap X b s W) (ho : OwnB W' W.heap.size r t) (hb : Below W.heap.size W W') (hr : bookB r = true) : DayB w C a len cap X r t (Proofs.YtlnnchgaloejlaaGreat.putB W' X r t) := by
  have h2 := h.below hb
  have hX := h.x.lt
  have hlo := h.lo
  have hn : NotIn r t X := ⟨fun x e l => by have := ho.folk.lo x e l; omega, fun x e l => by have := ho.mills.lo x e l; omega, fun x e l => by have := ho.parts.lo x e l; omega, fun x e l => by have := ho.waits.lo x e l; omega⟩
  exact ⟨h2.way.putB (by omega) r t, OutV.putB h2.x r t, (ho.apart (putB_grown _ _ _ _) hn).mono (by omega), hn, h2.r.keep (putB_grown _ _ _ _) (by omega), hr, h.lo⟩
theorem dayBelow (h : DayB w C a len cap X b s W) (n : Int) (hn : 1 ≤ n) (hn2 : n ≤ 1000000000) : Calls Tryz.prog 51 #[.pointer (some ⟨C, 0, none⟩), .int .i64 n] W fun e w' => ∃ x : Int, (0 ≤ x ∧ x < n) ∧ e = .returned (.int .i64 x) ∧ DayB w C a len cap X b s w' := by
  refine (l1Below_any n h.way.cur hn (by omega)).mono ?_
  rintro e w' ⟨x, hx, rfl, hc, hg⟩
  exact ⟨x, hx, rfl, h.draw hc hg⟩
/-- What a deed leaves: the box as it was, and what it is when the answer is put there. -/
def DayRes (w : World) (C : Nat) (a : Option Addr) (len cap X : Nat) (b : Bok) (s : Spots) (e : Ending) (w' : World) : Prop :=
  ∃ (r : Bok) (t : Spots) (c : Int), e = .returned (.tuple #[.agg #[.int .i64 r.season, .int .i64 r.supply, .int .i64 r.burnt, .int .i64 r.pot, .slice t.fa r.folk.length t.fc, .slice t.ma r.mills.length t.mc, .slice t.pa r.parts.length t.pc, .slice t.wa r.waits.length t.wc], .int .i64 c]) ∧ DayB w C a len cap X b s w' ∧ DayB w C a len cap X r t (putB w' X r t)
theorem dayOpen (h : DayB w C a len cap X b s W) (name : ByteArray) (hn : name.size ≤ maxLen) (cut : Int) : Calls Tryz.prog 85 #[.agg #[.int .i64 b.season, .int .i64 b.supply, .int .i64 b.burnt, .int .i64 b.pot, .slice s.fa b.folk.length s.fc, .slice s.ma b.mills.length s.mc, .slice s.pa b.parts.length s.pc, .slice s.wa b.waits.length s.wc], .string name, .int .i64 cut] W (DayRes w C a len cap X b s) := by
  have hf := book_few h.ok
  refine (sOpened_any name cut h.o.at h.o.rt (book_len h.ok) (book_sized h.ok) hn (by omega)).mono ?_
  rintro e w' ⟨t, rfl, ho, hb⟩
  exact ⟨_, t, _, rfl, h.below hb, h.put ho hb (open_right h.ok _ _)⟩
theorem dayDoes (h : DayB w C a len cap X b s W) (d : Dee) (hd : DShort d) : Calls Tryz.prog 86 #[.agg #[.int .i64 b.season, .int .i64 b.supply, .int .i64 b.burnt, .int .i64 b.pot, .slice s.fa b.folk.length s.fc, .slice s.ma b.mills.length s.mc, .slice s.pa b.parts.length s.pc, .slice s.wa b.waits.length s.wc], .agg #[.int .i64 d.kind, .string d.who, .string d.mill, .string d.to, .int .i64 d.n]] W (DayRes w C a len cap X b s) := by
  refine (sDoes_any d.kind d.n d.who d.mill d.to h.o.at h.o.rt (book_len h.ok) (book_sized h.ok) hd.1 hd.2.1 hd.2.2).mono ?_
  rintro e w' ⟨t, rfl, ho, hb⟩
  exact ⟨_, t, _, rfl, h.below hb, h.put ho hb (does_right h.ok _)⟩
theorem dayFor (h : DayB w C a len cap X b s W) : Calls Tryz.prog 87 #[.pointer (some ⟨C, 0, none⟩), .agg #[.int .i64 b.season, .int .i64 b.supply, .int .i64 b.burnt, .int .i64 b.pot, .slice s.fa b.folk.length s.fc, .slice s.ma b.mills.length s.mc, .slice s.pa b.parts.length s.pc, .slice s.wa b.waits.length s.wc]] W fun e w' => ∃ d : Dee, DShort d ∧ e = .returned (.agg #[.int .i64 d.kind, .string d.who, .string d.mill, .string d.to, .int .i64 d.n]) ∧ DayB w C a len cap X b s w' := by
  have hC := h.way.hC
  refine (l15DrawFor_any h.way.cur h.o (by omega) (book_parts h.ok)).mono ?_
  rintro e w' ⟨d, hd, rfl, hc, hg⟩
  exact ⟨d, hd, rfl, h.draw hc hg⟩
end
/-- A right book that is drawn. -/
def DrawnBk (C : Nat) (a : Option Addr) (len cap : Nat) (w : World) (e : Ending) (w' : World) : Prop :=
  ∃ (b : Bok) (s : Spots), bookB b = true ∧ e = .returned (.agg #[.int .i64 b.season, .int .i64 b.supply, .int .i64 b.burnt, .int .i64 b.pot, .slice s.fa b.folk.length s.fc, .slice s.ma b.mills.length s.mc, .slice s.pa b.parts.length s.pc, .slice s.wa b.waits.length s.wc]) ∧ OwnB w' w.heap.size b s ∧ Cur w' C a len cap ∧ w.grownBy w' (some C)
theorem end_book {w W : World} {C X len cap : Nat} {a : Option Addr} {b : Bok} {s : Spots} (h : DayB w C a len cap X b s W) : DrawnBk C a len cap w (.returned (.agg #[.int .i64 b.season, .int .i64 b.supply, .int .i64 b.burnt, .int .i64 b.pot, .slice s.fa b.folk.length s.fc, .slice s.ma b.mills.length s.mc, .slice s.pa b.parts.length s.pc, .slice s.wa b.waits.length s.wc])) (putB W w.heap.size b s) :=
  have hw := h.way.putB (Nat.le_refl _) b s
  ⟨b, s, h.ok, rfl, (h.o.grown (putB_grown _ _ _ _) (by omega)).mono (by omega), hw.cur, hw.grown⟩
end Go.Proofs.YtlnnchgaloejlaaGreat
namespace Go.Proofs.YtlnnchgaloejlaaGreat
open Go.ChangeShapes Go.WideShapes Go.ChangeAt Go.RowKit

set_option maxRecDepth 100000 in
set_option maxHeartbeats 32000000 in
set_option maxRecDepth 100000 in
theorem l7Draw_any {C : Nat} {a : Option Addr} {len cap : Nat} {w : World} (h : Cur w C a len cap) :
    Calls Tryz.prog 49 #[.pointer (some ⟨C, 0, none⟩)] w (DrawnBk C a len cap w) := by
  have hC : C < w.heap.size := lt_of_cell h.c0
  have HW := Lib.hid (Way.start h)
  clear h
  have bz := below_new w (.cells #[.int .i64 0, .int .i64 0, .int .i64 0, .int .i64 0, .slice none 0 0, .slice none 0 0, .slice none 0 0, .slice none 0 0] 29)
  have R := Lib.hid (OutV.new w [.int .i64 0, .int .i64 0, .int .i64 0, .int .i64 0, .slice none 0 0, .slice none 0 0, .slice none 0 0, .slice none 0 0] 29)
  obtain ⟨W1, hW1⟩ : ∃ W, w.alloc (.cells #[.int .i64 0, .int .i64 0, .int .i64 0, .int .i64 0, .slice none 0 0, .slice none 0 0, .slice none 0 0, .slice none 0 0] 29) = W := ⟨_, rfl⟩
  rw [show w.alloc (.cells ([.int .i64 0, .int .i64 0, .int .i64 0, .int .i64 0, .slice none 0 0, .slice none 0 0, .slice none 0 0, .slice none 0 0] : List Value).toArray 29) = W1 from hW1] at R
  rw [hW1] at bz
  replace HW := Lib.hid (HW.out.below bz)
  have hCR : C ≠ w.heap.size := by omega
  clear bz
  go_enter Tryz.func49, Tryz.ntmps49
  go_wp2_with fail
  refine (l3Draw_any HW.out.cur).mono ?_
  rintro e w2 ⟨g, qs, rfl, hq3, hown⟩
  have hO := hown 3 (Nat.le_refl _)
  rw [List.take_of_length_le (by omega)] at hO
  replace HW := Lib.hid (HW.out.draw hO.cur hO.grown)
  replace R := Lib.hid (R.out.keep hO.grown hCR)
  have hnb := sNewBook_any 3 hO.lies (by omega) (Sized.of (n := 7) (fun s hs => by obtain ⟨p, hp, rfl⟩ := List.mem_map.1 hs; exact hO.short p hp) (by unfold maxLen; omega))
  rw [hq3] at hnb
  have HNB := Lib.hid hnb
  have HOK := Lib.hid (new_right qs)
  clear hown hO hnb hq3 hW1
  go_wp2_with fail
  refine HNB.out.mono ?_
  rintro e w3 ⟨s, rfl, ho, hb⟩
  obtain ⟨b, Hb⟩ : ∃ b, Hid (newL qs = b) := ⟨_, Lib.hid rfl⟩
  obtain ⟨ok, Hok⟩ : ∃ k, Hid (newB qs = k) := ⟨_, Lib.hid rfl⟩
  rw [Hb.out] at ho HOK
  rw [Hb.out, Hok.out]
  have bn := below_new w3 (.cells #[.int .i64 b.season, .int .i64 b.supply, .int .i64 b.burnt, .int .i64 b.pot, .slice s.fa b.folk.length s.fc, .slice s.ma b.mills.length s.mc, .slice s.pa b.parts.length s.pc, .slice s.wa b.waits.length s.wc] 29)
  have hlt2 := R.out.lt
  have hsz := hb.size
  have HD := Lib.hid (show DayB w C a len cap w3.heap.size b s (w3.alloc (.cells #[.int .i64 b.season, .int .i64 b.supply, .int .i64 b.burnt, .int .i64 b.pot, .slice s.fa b.folk.length s.fc, .slice s.ma b.mills.length s.mc, .slice s.pa b.parts.length s.pc, .slice s.wa b.waits.length s.wc] 29)) from ⟨(HW.out.below hb).below bn, OutV.new w3 (#[.int .i64 b.season, .int .i64 b.supply, .int .i64 b.burnt, .int .i64 b.pot, .slice s.fa b.folk.length s.fc, .slice s.ma b.mills.length s.mc, .slice s.pa b.parts.length s.pc, .slice s.wa b.waits.length s.wc] : Array Value).toList 29, (ho.below bn).mono (by omega), ho.at.bold.notIn (Nat.le_refl _), (R.out.below hb).below bn, HOK.out, by omega⟩)
  obtain ⟨X, hX⟩ : ∃ X, w3.heap.size = X := ⟨_, rfl⟩
  obtain ⟨W4, hW4⟩ : ∃ W, w3.alloc (.cells #[.int .i64 b.season, .int .i64 b.supply, .int .i64 b.burnt, .int .i64 b.pot, .slice s.fa b.folk.length s.fc, .slice s.ma b.mills.length s.mc, .slice s.pa b.parts.length s.pc, .slice s.wa b.waits.length s.wc] 29) = W := ⟨_, rfl⟩
  rw [hW4, hX] at HD
  clear ho hb bn hlt2 hsz HW R HNB HOK
  have HA := Lib.hid (ann7)
  have HMI := Lib.hid (mia7)
  go_upto_region 2 with fail
  go_cut [] from 12 to 18 (fun wx => ∃ (r : Bok) (t : Spots), DayB w C a len cap X r t wx)
  case first =>
    have x0 := HD.out.x.has 0 _ rfl
    have x1 := HD.out.x.has 1 _ rfl
    have x2 := HD.out.x.has 2 _ rfl
    have x3 := HD.out.x.has 3 _ rfl
    have x4 := HD.out.x.has 4 _ rfl
    have x5 := HD.out.x.has 5 _ rfl
    have x6 := HD.out.x.has 6 _ rfl
    have x7 := HD.out.x.has 7 _ rfl
    go_wp2_with fail
    go_region_with (first
      | (go_at_call 51; (with_reducible refine (dayBelow HD.out.drew 101 (by decide) (by decide)).mono ?_); rintro e w5 ⟨x, hx, rfl, hM⟩; have HM5 := Lib.hid hM; have y0 := hM.x.has 0 _ rfl; have y1 := hM.x.has 1 _ rfl; have y2 := hM.x.has 2 _ rfl; have y3 := hM.x.has 3 _ rfl; have y4 := hM.x.has 4 _ rfl; have y5 := hM.x.has 5 _ rfl; have y6 := hM.x.has 6 _ rfl; have y7 := hM.x.has 7 _ rfl; clear hM)
      | (go_at_call 85; (with_reducible refine (dayOpen HM5.out ⟨#[97, 110, 110]⟩ (seven_max HA.out) x).mono ?_); rintro e w6 ⟨r, t, c, rfl, hM, hP⟩; have HP := Lib.hid hP; have z0 := hM.x.has 0 _ rfl; have z1 := hM.x.has 1 _ rfl; have z2 := hM.x.has 2 _ rfl; have z3 := hM.x.has 3 _ rfl; have z4 := hM.x.has 4 _ rfl; have z5 := hM.x.has 5 _ rfl; have z6 := hM.x.has 6 _ rfl; have z7 := hM.x.has 7 _ rfl; have zf := hM.x.free; have zl := hM.x.lt; clear hM hP))
    all_goals
      go_wp2_with fail
      go_meet
      exact ⟨r, t, HP.out⟩
  case rest =>
  clear HD hW4
  obtain ⟨b1, s1, hd⟩ := hcut
  have HD := Lib.hid hd
  clear hd
  go_wp2_with fail
  refine (l1Once_any _ HD.out.way.cur (by omega) (by omega)).mono ?_
  rintro e w7 ⟨tt, rfl, hc, hg⟩
  replace HD := Lib.hid (HD.out.draw hc hg)
  clear hc hg
  go_upto_if 21 with fail
  go_cut [] from 22 to 28 (fun wx => ∃ (r : Bok) (t : Spots), DayB w C a len cap X r t wx)
  case first =>
    cases tt
    · have x0 := HD.out.x.has 0 _ rfl
      have x1 := HD.out.x.has 1 _ rfl
      have x2 := HD.out.x.has 2 _ rfl
      have x3 := HD.out.x.has 3 _ rfl
      have x4 := HD.out.x.has 4 _ rfl
      have x5 := HD.out.x.has 5 _ rfl
      have x6 := HD.out.x.has 6 _ rfl
      have x7 := HD.out.x.has 7 _ rfl
      go_wp2_with fail
      go_region_with (first
        | (go_at_call 51; (with_reducible refine (dayBelow HD.out.drew 101 (by decide) (by decide)).mono ?_); rintro e w5 ⟨x, hx, rfl, hM⟩; have HM5 := Lib.hid hM; have y0 := hM.x.has 0 _ rfl; have y1 := hM.x.has 1 _ rfl; have y2 := hM.x.has 2 _ rfl; have y3 := hM.x.has 3 _ rfl; have y4 := hM.x.has 4 _ rfl; have y5 := hM.x.has 5 _ rfl; have y6 := hM.x.has 6 _ rfl; have y7 := hM.x.has 7 _ rfl; clear hM)
        | (go_at_call 85; (with_reducible refine (dayOpen HM5.out ⟨#[109, 105, 97]⟩ (seven_max HMI.out) x).mono ?_); rintro e w6 ⟨r, t, c, rfl, hM, hP⟩; have HP := Lib.hid hP; have z0 := hM.x.has 0 _ rfl; have z1 := hM.x.has 1 _ rfl; have z2 := hM.x.has 2 _ rfl; have z3 := hM.x.has 3 _ rfl; have z4 := hM.x.has 4 _ rfl; have z5 := hM.x.has 5 _ rfl; have z6 := hM.x.has 6 _ rfl; have z7 := hM.x.has 7 _ rfl; have zf := hM.x.free; have zl := hM.x.lt; clear hM hP))
      all_goals
        go_wp2_with fail
        go_meet
        exact ⟨r, t, HP.out⟩
    · go_wp2_with fail
      go_meet
      exact ⟨b1, s1, HD.out⟩
  case rest =>
  clear HD
  obtain ⟨b2, s2, hd⟩ := hcut
  have HD := Lib.hid hd
  clear hd
  go_wp2_with fail
  refine (l1Below_any _ HD.out.way.cur (by omega) (by omega)).mono ?_
  rintro e w8 ⟨n, ⟨hn, hn2⟩, rfl, hc, hg⟩
  replace HD := Lib.hid (HD.out.draw hc hg)
  clear hc hg
  obtain ⟨k, rfl⟩ : ∃ k : Nat, n = k := ⟨n.toNat, by omega⟩
  go_wp2_with fail
  go_loopw [5] (fun i w' => ∃ k : Nat, i = .int .i64 k ∧ k ≤ 24 ∧ ∃ (r : Bok) (t : Spots), DayB w C a len cap X r t w') (fun i _ => (intOf i).toNat)
  case atStart => exact ⟨k, rfl, by omega, b2, s2, HD.out⟩
  case round =>
    clear HD hn hn2
    obtain ⟨i, rfl, hi, b3, s3, hd⟩ := hrel
    have HD := Lib.hid hd
    clear hd
    have x0 := HD.out.x.has 0 _ rfl
    have x1 := HD.out.x.has 1 _ rfl
    have x2 := HD.out.x.has 2 _ rfl
    have x3 := HD.out.x.has 3 _ rfl
    have x4 := HD.out.x.has 4 _ rfl
    have x5 := HD.out.x.has 5 _ rfl
    have x6 := HD.out.x.has 6 _ rfl
    have x7 := HD.out.x.has 7 _ rfl
    by_cases h0 : 0 < i
    · go_wp2_with fail
      go_region_with (first
        | (go_at_call 87; (with_reducible refine (dayFor HD.out.drew).mono ?_); rintro e w5 ⟨d, hds, rfl, hM⟩; have HDS := Lib.hid hds; have HM5 := Lib.hid hM; have y0 := hM.x.has 0 _ rfl; have y1 := hM.x.has 1 _ rfl; have y2 := hM.x.has 2 _ rfl; have y3 := hM.x.has 3 _ rfl; have y4 := hM.x.has 4 _ rfl; have y5 := hM.x.has 5 _ rfl; have y6 := hM.x.has 6 _ rfl; have y7 := hM.x.has 7 _ rfl; clear hM hds)
        | (go_at_call 86; (with_reducible refine (dayDoes HM5.out d HDS.out).mono ?_); rintro e w6 ⟨r, t, c, rfl, hM, hP⟩; have HP := Lib.hid hP; have z0 := hM.x.has 0 _ rfl; have z1 := hM.x.has 1 _ rfl; have z2 := hM.x.has 2 _ rfl; have z3 := hM.x.has 3 _ rfl; have z4 := hM.x.has 4 _ rfl; have z5 := hM.x.has 5 _ rfl; have z6 := hM.x.has 6 _ rfl; have z7 := hM.x.has 7 _ rfl; have zf := hM.x.free; have zl := hM.x.lt; clear hM hP))
      all_goals
        go_wp2
        go_roundw
        case rel => exact ⟨i - 1, by go_num, by omega, r, t, HP.out⟩
        case measure => simp [intOf]; omega
    · obtain rfl : i = 0 := by omega
      have HE := Lib.hid (end_book HD.out)
      unfold putB at HE
      have r0 := HD.out.r.has 0 _ rfl
      have r1 := HD.out.r.has 1 _ rfl
      have r2 := HD.out.r.has 2 _ rfl
      have r3 := HD.out.r.has 3 _ rfl
      have r4 := HD.out.r.has 4 _ rfl
      have r5 := HD.out.r.has 5 _ rfl
      have r6 := HD.out.r.has 6 _ rfl
      have r7 := HD.out.r.has 7 _ rfl
      have rf := HD.out.r.free
      go_wp2
      exact bodyPost_ret (v := .agg #[.int .i64 b3.season, .int .i64 b3.supply, .int .i64 b3.burnt, .int .i64 b3.pot, .slice s3.fa b3.folk.length s3.fc, .slice s3.ma b3.mills.length s3.mc, .slice s3.pa b3.parts.length s3.pc, .slice s3.wa b3.waits.length s3.wc]) (by simp [results, Tryz.results49, go_sem, r0, r1, r2, r3, r4, r5, r6, r7]) rfl HE.out
end Go.Proofs.YtlnnchgaloejlaaGreat
namespace Go.Proofs.YtlnnchgaloejlaaGreat
open Go.ChangeShapes Go.WideShapes Go.ChangeAt Go.RowKit

/-- What is known of purses that were drawn. -/
structure Few (w : World) (g : Nat) (ps : List Pur) : Prop where
  lies : Purs w (some ⟨g, 0, none⟩) ps
  few : ps.length ≤ 9
  short : Sized (pnames ps)
theorem Few.below {w w' : World} {g : Nat} {ps : List Pur} (h : Few w g ps) (hb : Below w.heap.size w w') : Few w' g ps := ⟨h.lies.below hb, h.few, h.short⟩
theorem OwnD.few_ {C : Nat} {a : Option Addr} {len cap : Nat} {w : World} {g c : Nat} {ps : List Pur} {w' : World} (h : OwnD C a len cap w g c ps w') : Few w' g ps :=
  ⟨h.lies, h.few, Sized.of (n := 7) (fun s hs => by obtain ⟨p, hp, rfl⟩ := List.mem_map.1 hs; exact h.short p hp) (by unfold maxLen; omega)⟩

set_option maxHeartbeats 1000000 in
set_option maxRecDepth 100000 in
/-- Both lists hold the same purses: it says so. -/
theorem likeFolk_same {w : World} {a a' : Option Addr} {ps : List Pur} (cap cap' : Nat) (h : Purs w a ps) (h' : Purs w a' ps) (hl : ps.length ≤ 1048576) :
    Calls Tryz.prog 25 #[.slice a ps.length cap, .slice a' ps.length cap'] w fun e w' => e = .returned (.bool true) ∧ ∃ n, w' = w.drewN n := by
  have H := Lib.hid h
  have H' := Lib.hid h'
  clear h h'
  go_enter Tryz.func25, Tryz.ntmps25
  go_wp2
  go_loopw [5] (fun i w' => ∃ (k n : Nat), k ≤ ps.length ∧ i = .int .i64 k ∧ w' = w.drewN n) (fun i _ => ps.length - (intOf i).toNat)
  case atStart => exact ⟨0, 0, Nat.zero_le _, rfl, rfl⟩
  case round =>
    obtain ⟨k, n, hk, rfl, rfl⟩ := hrel
    by_cases hlt : k < ps.length
    · obtain ⟨b, off, rfl, _, hc, hc1⟩ := H.out.at k hlt
      obtain ⟨b', off', rfl, _, hc', hc1'⟩ := H'.out.at k hlt
      go_wp2
      go_quiet (fail)
      go_wp2
      go_roundw
      case rel => exact ⟨k + 1, _, by omega, by go_num, rfl⟩
      case measure => simp [intOf]; omega
    · go_wp2
      go_ret
      exact ⟨rfl, n, rfl⟩
end Go.Proofs.YtlnnchgaloejlaaGreat
namespace Go.Proofs.YtlnnchgaloejlaaGreat
open Go.ChangeShapes Go.WideShapes Go.ChangeAt Go.RowKit

/-- What is known of a mill that was drawn. -/
structure MDrawn (m : Mil) : Prop where
  name : m.name.size ≤ 7
  s1 : -1 ≤ m.stake
  s2 : m.stake ≤ 1000001
  h1 : -1 ≤ m.shares
  h2 : m.shares ≤ 1000000001
/-- What a draw of a mill leaves. -/
def DrawnM (C : Nat) (a : Option Addr) (len cap : Nat) (w : World) (e : Ending) (w' : World) : Prop :=
  ∃ m : Mil, MDrawn m ∧ e = .returned (.agg #[.string m.name, .int .i64 m.stake, .int .i64 m.shares, .int .i64 m.cut, .bool m.shut]) ∧ Cur w' C a len cap ∧ w.grownBy w' (some C)

/-- The answer's block takes the mill. -/
theorem end_mill {w wk : World} {C : Nat} {a : Option Addr} {len cap R M : Nat} {m : Mil} (h : Box w C a len cap R M 5 m.cs wk) (hC : C < w.heap.size) (ha : ∀ b off, a = some ⟨b, off, none⟩ → 0 < len → b < w.heap.size) (hm : MDrawn m) :
    DrawnM C a len cap w (.returned (.agg #[.string m.name, .int .i64 m.stake, .int .i64 m.shares, .int .i64 m.cut, .bool m.shut]))
      (((((wk.setCell ⟨R, 0, none⟩ (.string m.name)).setCell ⟨R, 1, none⟩ (.int .i64 m.stake)).setCell ⟨R, 2, none⟩ (.int .i64 m.shares)).setCell ⟨R, 3, none⟩ (.int .i64 m.cut)).setCell ⟨R, 4, none⟩ (.bool m.shut)) := by
  obtain ⟨c1, g1⟩ := cur_set h.cur h.grown hC ha h.rlo (o := 0) (.string m.name)
  obtain ⟨c2, g2⟩ := cur_set c1 g1 hC ha h.rlo (o := 1) (.int .i64 m.stake)
  obtain ⟨c3, g3⟩ := cur_set c2 g2 hC ha h.rlo (o := 2) (.int .i64 m.shares)
  obtain ⟨c4, g4⟩ := cur_set c3 g3 hC ha h.rlo (o := 3) (.int .i64 m.cut)
  obtain ⟨c5, g5⟩ := cur_set c4 g4 hC ha h.rlo (o := 4) (.bool m.shut)
  exact ⟨m, hm, rfl, c5, g5⟩

set_option maxHeartbeats 4000000 in
set_option maxRecDepth 100000 in
theorem l4Draw_any {C : Nat} {a : Option Addr} {len cap : Nat} {w : World} (s : ByteArray) (hs : s.size ≤ 7) (h : Cur w C a len cap) :
    Calls Tryz.prog 89 #[.pointer (some ⟨C, 0, none⟩), .string s] w (DrawnM C a len cap w) := by
  have hC : C < w.heap.size := lt_of_cell h.c0
  have HO := Lib.hid h.old
  have HC := Lib.hid h
  clear h
  go_enter Tryz.func89, Tryz.ntmps89
  go_wp2_with fail
  refine (l1Below_any _ (HC.out.kept (below_new _ _)) (by omega) (by omega)).mono ?_
  rintro e w1 ⟨x, ⟨hx, hx2⟩, rfl, hc1, hg1⟩
  go_wp2_with fail
  refine (l1Once_any _ hc1 (by omega) (by omega)).mono ?_
  rintro e w2 ⟨t, rfl, hc2, hg2⟩
  have hg := grown_step hg1 hg2
  have hR := (mine_lies (lies_new w [.string ByteArray.empty, .int .i64 0, .int .i64 0, .int .i64 0, .bool false] 54) rfl (free_new _ _ _)).grown (by simp) hg (by intro e; injection e with e; omega)
  have hle : w.heap.size < w2.heap.size := by have := hg.size; simp at this; omega
  have HX := Lib.hid (Box.new (c := 5) hR (Nat.le_refl _) hle hc2 (grown_step (grown_new (grown_refl w (some C)) _) hg) (Mil.cs ⟨s, 0, 0, x, t⟩) 54)
  clear hg hg1 hg2 hc1 hc2 HC hR
  go_wp2_with fail
  refine (l1Once_any _ HX.out.cur (by omega) (by omega)).mono ?_
  rintro e w3 ⟨u, rfl, hc3, hg3⟩
  have HX3 := Lib.hid (HX.out.draw hC hc3 hg3)
  clear hc3 hg3 HX
  cases u
  · go_wp2_with fail
    refine (l1Below_any _ HX3.out.cur (by omega) (by omega)).mono ?_
    rintro e w4 ⟨y, ⟨hy, hy2⟩, rfl, hc4, hg4⟩
    have HX4 := Lib.hid (HX3.out.draw hC hc4 hg4)
    clear hc4 hg4 HX3
    go_wp2_with fail
    refine (l1Below_any _ (HX4.out.cur.kept (below_new _ _)) (by omega) (by omega)).mono ?_
    rintro e w5 ⟨z, ⟨hz, hz2⟩, rfl, hc5, hg5⟩
    have HX5 := Lib.hid ((HX4.out.below (below_new _ _)).draw hC hc5 hg5)
    have hCk : C < w4.heap.size := Nat.lt_of_lt_of_le hC HX4.out.grown.size
    have p0 := kept_cell (b := w4.heap.size) (o := 0) hg5 (by go_simp; rfl) (by omega)
    have p1 := kept_cell (b := w4.heap.size) (o := 1) hg5 (by go_simp; rfl) (by omega)
    have p2 := kept_cell (b := w4.heap.size) (o := 2) hg5 (by go_simp; rfl) (by omega)
    clear hc5 hg5 HX4
    have hz3 : z = 0 ∨ z = 1 ∨ z = 2 := by omega
    rcases hz3 with rfl | rfl | rfl
    · have b0 := HX5.out.is 0 _ rfl
      have b1 := HX5.out.is 1 _ rfl
      have b2 := HX5.out.is 2 _ rfl
      have b3 := HX5.out.is 3 _ rfl
      have b4 := HX5.out.is 4 _ rfl
      have f5 := HX5.out.fm 0
      have f6 := HX5.out.fm 1
      have f7 := HX5.out.fm 2
      have f8 := HX5.out.fm 3
      have HX6 := Lib.hid (HX5.out.set hC HO.out 2 (.int .i64 (1 + y)))
      clear HX5
      go_wp2_with fail
      refine (l1Below_any _ HX6.out.cur (by omega) (by omega)).mono ?_
      rintro e w7 ⟨v, ⟨hv, hv2⟩, rfl, hc7, hg7⟩
      have hx7 := HX6.out.draw hC hc7 hg7
      have c0 := hx7.is 0 _ rfl
      have c1 := hx7.is 1 _ rfl
      have c2 := hx7.is 2 _ rfl
      have c3 := hx7.is 3 _ rfl
      have c4 := hx7.is 4 _ rfl
      have g1 := hx7.fm 1
      have HX8 := Lib.hid (hx7.set hC HO.out 1 (.int .i64 v))
      obtain ⟨r0, q0⟩ := hx7.room.all 0 (by omega)
      obtain ⟨r1, q1⟩ := hx7.room.all 1 (by omega)
      obtain ⟨r2, q2⟩ := hx7.room.all 2 (by omega)
      obtain ⟨r3, q3⟩ := hx7.room.all 3 (by omega)
      obtain ⟨r4, q4⟩ := hx7.room.all 4 (by omega)
      simp only [Nat.zero_add] at q0 q1 q2 q3 q4
      have n0 := hx7.room.free 0
      have n1 := hx7.room.free 1
      have n2 := hx7.room.free 2
      have n3 := hx7.room.free 3
      have n4 := hx7.room.free 4
      have hRM := hx7.ne
      have HD := Lib.hid (end_mill (m := ⟨s, v, 1 + y, x, t⟩) HX8.out hC HO.out ⟨hs, by show (-1 : Int) ≤ v; omega, by show (v : Int) ≤ 1000001; omega, by show (-1 : Int) ≤ 1 + y; omega, by show (1 + y : Int) ≤ 1000000001; omega⟩)
      clear hx7 hc7 hg7 HX6 HX8 b0 b1 b2 b3 b4 f5 f6 f7 f8
      go_wp2
      exact bodyPost_ret (v := .agg #[.string s, .int .i64 v, .int .i64 (1 + y), .int .i64 x, .bool t]) (by simp [results, Tryz.results89, go_sem, q0, q1, q2, q3, q4]) rfl HD.out
    · have b0 := HX5.out.is 0 _ rfl
      have b1 := HX5.out.is 1 _ rfl
      have b2 := HX5.out.is 2 _ rfl
      have b3 := HX5.out.is 3 _ rfl
      have b4 := HX5.out.is 4 _ rfl
      have f5 := HX5.out.fm 0
      have f6 := HX5.out.fm 1
      have f7 := HX5.out.fm 2
      have f8 := HX5.out.fm 3
      have HX6 := Lib.hid (HX5.out.set hC HO.out 2 (.int .i64 (1 + y * 10)))
      clear HX5
      go_wp2_with fail
      refine (l1Below_any _ HX6.out.cur (by omega) (by omega)).mono ?_
      rintro e w7 ⟨v, ⟨hv, hv2⟩, rfl, hc7, hg7⟩
      have hx7 := HX6.out.draw hC hc7 hg7
      have c0 := hx7.is 0 _ rfl
      have c1 := hx7.is 1 _ rfl
      have c2 := hx7.is 2 _ rfl
      have c3 := hx7.is 3 _ rfl
      have c4 := hx7.is 4 _ rfl
      have g1 := hx7.fm 1
      have HX8 := Lib.hid (hx7.set hC HO.out 1 (.int .i64 v))
      obtain ⟨r0, q0⟩ := hx7.room.all 0 (by omega)
      obtain ⟨r1, q1⟩ := hx7.room.all 1 (by omega)
      obtain ⟨r2, q2⟩ := hx7.room.all 2 (by omega)
      obtain ⟨r3, q3⟩ := hx7.room.all 3 (by omega)
      obtain ⟨r4, q4⟩ := hx7.room.all 4 (by omega)
      simp only [Nat.zero_add] at q0 q1 q2 q3 q4
      have n0 := hx7.room.free 0
      have n1 := hx7.room.free 1
      have n2 := hx7.room.free 2
      have n3 := hx7.room.free 3
      have n4 := hx7.room.free 4
      have hRM := hx7.ne
      have HD := Lib.hid (end_mill (m := ⟨s, v, 1 + y * 10, x, t⟩) HX8.out hC HO.out ⟨hs, by show (-1 : Int) ≤ v; omega, by show (v : Int) ≤ 1000001; omega, by show (-1 : Int) ≤ 1 + y * 10; omega, by show (1 + y * 10 : Int) ≤ 1000000001; omega⟩)
      clear hx7 hc7 hg7 HX6 HX8 b0 b1 b2 b3 b4 f5 f6 f7 f8
      go_wp2
      exact bodyPost_ret (v := .agg #[.string s, .int .i64 v, .int .i64 (1 + y * 10), .int .i64 x, .bool t]) (by simp [results, Tryz.results89, go_sem, q0, q1, q2, q3, q4]) rfl HD.out
    · have b0 := HX5.out.is 0 _ rfl
      have b1 := HX5.out.is 1 _ rfl
      have b2 := HX5.out.is 2 _ rfl
      have b3 := HX5.out.is 3 _ rfl
      have b4 := HX5.out.is 4 _ rfl
      have f5 := HX5.out.fm 0
      have f6 := HX5.out.fm 1
      have f7 := HX5.out.fm 2
      have f8 := HX5.out.fm 3
      have HX6 := Lib.hid (HX5.out.set hC HO.out 2 (.int .i64 (1 + y * 1000)))
      clear HX5
      go_wp2_with fail
      refine (l1Below_any _ HX6.out.cur (by omega) (by omega)).mono ?_
      rintro e w7 ⟨v, ⟨hv, hv2⟩, rfl, hc7, hg7⟩
      have hx7 := HX6.out.draw hC hc7 hg7
      have c0 := hx7.is 0 _ rfl
      have c1 := hx7.is 1 _ rfl
      have c2 := hx7.is 2 _ rfl
      have c3 := hx7.is 3 _ rfl
      have c4 := hx7.is 4 _ rfl
      have g1 := hx7.fm 1
      have HX8 := Lib.hid (hx7.set hC HO.out 1 (.int .i64 v))
      obtain ⟨r0, q0⟩ := hx7.room.all 0 (by omega)
      obtain ⟨r1, q1⟩ := hx7.room.all 1 (by omega)
      obtain ⟨r2, q2⟩ := hx7.room.all 2 (by omega)
      obtain ⟨r3, q3⟩ := hx7.room.all 3 (by omega)
      obtain ⟨r4, q4⟩ := hx7.room.all 4 (by omega)
      simp only [Nat.zero_add] at q0 q1 q2 q3 q4
      have n0 := hx7.room.free 0
      have n1 := hx7.room.free 1
      have n2 := hx7.room.free 2
      have n3 := hx7.room.free 3
      have n4 := hx7.room.free 4
      have hRM := hx7.ne
      have HD := Lib.hid (end_mill (m := ⟨s, v, 1 + y * 1000, x, t⟩) HX8.out hC HO.out ⟨hs, by show (-1 : Int) ≤ v; omega, by show (v : Int) ≤ 1000001; omega, by show (-1 : Int) ≤ 1 + y * 1000; omega, by show (1 + y * 1000 : Int) ≤ 1000000001; omega⟩)
      clear hx7 hc7 hg7 HX6 HX8 b0 b1 b2 b3 b4 f5 f6 f7 f8
      go_wp2
      exact bodyPost_ret (v := .agg #[.string s, .int .i64 v, .int .i64 (1 + y * 1000), .int .i64 x, .bool t]) (by simp [results, Tryz.results89, go_sem, q0, q1, q2, q3, q4]) rfl HD.out
  · have b0 := HX3.out.is 0 _ rfl
    have b1 := HX3.out.is 1 _ rfl
    have b2 := HX3.out.is 2 _ rfl
    have b3 := HX3.out.is 3 _ rfl
    have b4 := HX3.out.is 4 _ rfl
    have f5 := HX3.out.fm 0
    have f6 := HX3.out.fm 1
    have f7 := HX3.out.fm 2
    have f8 := HX3.out.fm 3
    obtain ⟨r0, q0⟩ := HX3.out.room.all 0 (by omega)
    obtain ⟨r1, q1⟩ := HX3.out.room.all 1 (by omega)
    obtain ⟨r2, q2⟩ := HX3.out.room.all 2 (by omega)
    obtain ⟨r3, q3⟩ := HX3.out.room.all 3 (by omega)
    obtain ⟨r4, q4⟩ := HX3.out.room.all 4 (by omega)
    simp only [Nat.zero_add] at q0 q1 q2 q3 q4
    have f0 := HX3.out.room.free 0
    have f1 := HX3.out.room.free 1
    have f2 := HX3.out.room.free 2
    have f3 := HX3.out.room.free 3
    have f4 := HX3.out.room.free 4
    have HD := Lib.hid (end_mill (m := ⟨s, 0, 0, x, t⟩) HX3.out hC HO.out ⟨hs, by show (-1 : Int) ≤ 0; omega, by show (0 : Int) ≤ 1000001; omega, by show (-1 : Int) ≤ 0; omega, by show (0 : Int) ≤ 1000000001; omega⟩)
    go_wp2
    exact bodyPost_ret (v := .agg #[.string (s), .int .i64 (0), .int .i64 (0), .int .i64 (x), .bool (t)]) (by simp [results, Tryz.results89, go_sem, q0, q1, q2, q3, q4]) rfl HD.out

set_option maxHeartbeats 4000000 in
set_option maxRecDepth 100000 in
theorem l4DrawAny_any {C : Nat} {a : Option Addr} {len cap : Nat} {w : World} (h : Cur w C a len cap) :
    Calls Tryz.prog 90 #[.pointer (some ⟨C, 0, none⟩)] w (DrawnM C a len cap w) := by
  have hC : C < w.heap.size := lt_of_cell h.c0
  have HO := Lib.hid h.old
  have HC := Lib.hid h
  clear h
  go_enter Tryz.func90, Tryz.ntmps90
  go_wp2_with fail
  refine (l2Draw_any (HC.out.kept (below_new _ _))).mono ?_
  rintro e w1 ⟨s, hs, rfl, hc1, hg1⟩
  go_wp2_with fail
  refine (l4Draw_any s hs hc1).mono ?_
  rintro e w2 ⟨m, hm, rfl, hc2, hg2⟩
  have hg := grown_step hg1 hg2
  have hR := (mine_lies (lies_new w [.string ByteArray.empty, .int .i64 0, .int .i64 0, .int .i64 0, .bool false] 54) rfl (free_new _ _ _)).grown (by simp) hg (by intro e; injection e with e; omega)
  have hle : w.heap.size < w2.heap.size := by have := hg.size; simp at this; omega
  have HX := Lib.hid (Box.new (c := 5) hR (Nat.le_refl _) hle hc2 (grown_step (grown_new (grown_refl w (some C)) _) hg) m.cs 54)
  obtain ⟨hmn, hm1, hm2, hm3, hm4⟩ := hm
  clear hg hg1 hg2 hc1 hc2 HC hR hs
  go_wp2_with fail
  refine (l1Once_any _ HX.out.cur (by omega) (by omega)).mono ?_
  rintro e w3 ⟨u, rfl, hc3, hg3⟩
  have HX3 := Lib.hid (HX.out.draw hC hc3 hg3)
  clear hc3 hg3 HX
  cases u
  · have b0 := HX3.out.is 0 _ rfl
    have b1 := HX3.out.is 1 _ rfl
    have b2 := HX3.out.is 2 _ rfl
    have b3 := HX3.out.is 3 _ rfl
    have b4 := HX3.out.is 4 _ rfl
    obtain ⟨r0, q0⟩ := HX3.out.room.all 0 (by omega)
    obtain ⟨r1, q1⟩ := HX3.out.room.all 1 (by omega)
    obtain ⟨r2, q2⟩ := HX3.out.room.all 2 (by omega)
    obtain ⟨r3, q3⟩ := HX3.out.room.all 3 (by omega)
    obtain ⟨r4, q4⟩ := HX3.out.room.all 4 (by omega)
    simp only [Nat.zero_add] at q0 q1 q2 q3 q4
    have n0 := HX3.out.room.free 0
    have n1 := HX3.out.room.free 1
    have n2 := HX3.out.room.free 2
    have n3 := HX3.out.room.free 3
    have n4 := HX3.out.room.free 4
    have HD := Lib.hid (end_mill (m := ⟨m.name, m.stake, m.shares, m.cut, m.shut⟩) HX3.out hC HO.out ⟨hmn, hm1, hm2, hm3, hm4⟩)
    go_wp2
    exact bodyPost_ret (v := .agg #[.string (m.name), .int .i64 (m.stake), .int .i64 (m.shares), .int .i64 (m.cut), .bool (m.shut)]) (by simp [results, Tryz.results90, go_sem, q0, q1, q2, q3, q4]) rfl HD.out
  · go_wp2_with fail
    refine (l1Below_any _ HX3.out.cur (by omega) (by omega)).mono ?_
    rintro e w4 ⟨y, ⟨hy, hy2⟩, rfl, hc4, hg4⟩
    have HX4 := Lib.hid (HX3.out.draw hC hc4 hg4)
    clear hc4 hg4 HX3
    have hy3 : y = 0 ∨ y = 1 ∨ y = 2 ∨ y = 3 := by omega
    rcases hy3 with rfl | rfl | rfl | rfl
    · go_wp2_with fail
      refine (l2DrawAny_any HX4.out.cur).mono ?_
      rintro e w5 ⟨s5, hs5, rfl, hc5, hg5⟩
      have hx5 := HX4.out.draw hC hc5 hg5
      have b0 := hx5.is 0 _ rfl
      have b1 := hx5.is 1 _ rfl
      have b2 := hx5.is 2 _ rfl
      have b3 := hx5.is 3 _ rfl
      have b4 := hx5.is 4 _ rfl
      obtain ⟨r0, q0⟩ := hx5.room.all 0 (by omega)
      obtain ⟨r1, q1⟩ := hx5.room.all 1 (by omega)
      obtain ⟨r2, q2⟩ := hx5.room.all 2 (by omega)
      obtain ⟨r3, q3⟩ := hx5.room.all 3 (by omega)
      obtain ⟨r4, q4⟩ := hx5.room.all 4 (by omega)
      simp only [Nat.zero_add] at q0 q1 q2 q3 q4
      have n0 := hx5.room.free 0
      have n1 := hx5.room.free 1
      have n2 := hx5.room.free 2
      have n3 := hx5.room.free 3
      have n4 := hx5.room.free 4
      have g0 := hx5.fm 0
      have HX6 := Lib.hid (hx5.set hC HO.out 0 (.string s5))
      have HD := Lib.hid (end_mill (m := ⟨s5, m.stake, m.shares, m.cut, m.shut⟩) HX6.out hC HO.out ⟨hs5, hm1, hm2, hm3, hm4⟩)
      clear hx5 hc5 hg5 HX4 HX6
      go_wp2
      exact bodyPost_ret (v := .agg #[.string (s5), .int .i64 (m.stake), .int .i64 (m.shares), .int .i64 (m.cut), .bool (m.shut)]) (by simp [results, Tryz.results90, go_sem, q0, q1, q2, q3, q4]) rfl HD.out
    · go_wp2_with fail
      refine (l1DrawAmount_any HX4.out.cur).mono ?_
      rintro e w5 ⟨z, ⟨hz, hz2⟩, rfl, hc5, hg5⟩
      have hx5 := HX4.out.draw hC hc5 hg5
      have b0 := hx5.is 0 _ rfl
      have b1 := hx5.is 1 _ rfl
      have b2 := hx5.is 2 _ rfl
      have b3 := hx5.is 3 _ rfl
      have b4 := hx5.is 4 _ rfl
      obtain ⟨r0, q0⟩ := hx5.room.all 0 (by omega)
      obtain ⟨r1, q1⟩ := hx5.room.all 1 (by omega)
      obtain ⟨r2, q2⟩ := hx5.room.all 2 (by omega)
      obtain ⟨r3, q3⟩ := hx5.room.all 3 (by omega)
      obtain ⟨r4, q4⟩ := hx5.room.all 4 (by omega)
      simp only [Nat.zero_add] at q0 q1 q2 q3 q4
      have n0 := hx5.room.free 0
      have n1 := hx5.room.free 1
      have n2 := hx5.room.free 2
      have n3 := hx5.room.free 3
      have n4 := hx5.room.free 4
      have g0 := hx5.fm 1
      have HX6 := Lib.hid (hx5.set hC HO.out 1 (.int .i64 z))
      have HD := Lib.hid (end_mill (m := ⟨m.name, z, m.shares, m.cut, m.shut⟩) HX6.out hC HO.out ⟨hmn, hz, hz2, hm3, hm4⟩)
      clear hx5 hc5 hg5 HX4 HX6
      go_wp2
      exact bodyPost_ret (v := .agg #[.string (m.name), .int .i64 (z), .int .i64 (m.shares), .int .i64 (m.cut), .bool (m.shut)]) (by simp [results, Tryz.results90, go_sem, q0, q1, q2, q3, q4]) rfl HD.out
    · go_wp2_with fail
      refine (l1Below_any _ (HX4.out.cur.kept (below_new _ _)) (by omega) (by omega)).mono ?_
      rintro e w5 ⟨z, ⟨hz, hz2⟩, rfl, hc5, hg5⟩
      have HX5 := Lib.hid ((HX4.out.below (below_new _ _)).draw hC hc5 hg5)
      have hCk : C < w4.heap.size := Nat.lt_of_lt_of_le hC HX4.out.grown.size
      have p0 := kept_cell (b := w4.heap.size) (o := 0) hg5 (by go_simp; rfl) (by omega)
      have p1 := kept_cell (b := w4.heap.size) (o := 1) hg5 (by go_simp; rfl) (by omega)
      have p2 := kept_cell (b := w4.heap.size) (o := 2) hg5 (by go_simp; rfl) (by omega)
      have p3 := kept_cell (b := w4.heap.size) (o := 3) hg5 (by go_simp; rfl) (by omega)
      clear hc5 hg5 HX4
      have hz3 : z = 0 ∨ z = 1 ∨ z = 2 ∨ z = 3 := by omega
      rcases hz3 with rfl | rfl | rfl | rfl
      · have b0 := HX5.out.is 0 _ rfl
        have b1 := HX5.out.is 1 _ rfl
        have b2 := HX5.out.is 2 _ rfl
        have b3 := HX5.out.is 3 _ rfl
        have b4 := HX5.out.is 4 _ rfl
        obtain ⟨r0, q0⟩ := HX5.out.room.all 0 (by omega)
        obtain ⟨r1, q1⟩ := HX5.out.room.all 1 (by omega)
        obtain ⟨r2, q2⟩ := HX5.out.room.all 2 (by omega)
        obtain ⟨r3, q3⟩ := HX5.out.room.all 3 (by omega)
        obtain ⟨r4, q4⟩ := HX5.out.room.all 4 (by omega)
        simp only [Nat.zero_add] at q0 q1 q2 q3 q4
        have n0 := HX5.out.room.free 0
        have n1 := HX5.out.room.free 1
        have n2 := HX5.out.room.free 2
        have n3 := HX5.out.room.free 3
        have n4 := HX5.out.room.free 4
        have g0 := HX5.out.fm 2
        have HX6 := Lib.hid (HX5.out.set hC HO.out 2 (.int .i64 (-1)))
        have HD := Lib.hid (end_mill (m := ⟨m.name, m.stake, (-1), m.cut, m.shut⟩) HX6.out hC HO.out ⟨hmn, hm1, hm2, by show (-1 : Int) ≤ (-1); omega, by show ((-1) : Int) ≤ 1000000001; omega⟩)
        clear HX5 HX6
        go_wp2
        exact bodyPost_ret (v := .agg #[.string (m.name), .int .i64 (m.stake), .int .i64 ((-1)), .int .i64 (m.cut), .bool (m.shut)]) (by simp [results, Tryz.results90, go_sem, q0, q1, q2, q3, q4]) rfl HD.out
      · have b0 := HX5.out.is 0 _ rfl
        have b1 := HX5.out.is 1 _ rfl
        have b2 := HX5.out.is 2 _ rfl
        have b3 := HX5.out.is 3 _ rfl
        have b4 := HX5.out.is 4 _ rfl
        obtain ⟨r0, q0⟩ := HX5.out.room.all 0 (by omega)
        obtain ⟨r1, q1⟩ := HX5.out.room.all 1 (by omega)
        obtain ⟨r2, q2⟩ := HX5.out.room.all 2 (by omega)
        obtain ⟨r3, q3⟩ := HX5.out.room.all 3 (by omega)
        obtain ⟨r4, q4⟩ := HX5.out.room.all 4 (by omega)
        simp only [Nat.zero_add] at q0 q1 q2 q3 q4
        have n0 := HX5.out.room.free 0
        have n1 := HX5.out.room.free 1
        have n2 := HX5.out.room.free 2
        have n3 := HX5.out.room.free 3
        have n4 := HX5.out.room.free 4
        have g0 := HX5.out.fm 2
        have HX6 := Lib.hid (HX5.out.set hC HO.out 2 (.int .i64 0))
        have HD := Lib.hid (end_mill (m := ⟨m.name, m.stake, 0, m.cut, m.shut⟩) HX6.out hC HO.out ⟨hmn, hm1, hm2, by show (-1 : Int) ≤ 0; omega, by show (0 : Int) ≤ 1000000001; omega⟩)
        clear HX5 HX6
        go_wp2
        exact bodyPost_ret (v := .agg #[.string (m.name), .int .i64 (m.stake), .int .i64 (0), .int .i64 (m.cut), .bool (m.shut)]) (by simp [results, Tryz.results90, go_sem, q0, q1, q2, q3, q4]) rfl HD.out
      · have b0 := HX5.out.is 0 _ rfl
        have b1 := HX5.out.is 1 _ rfl
        have b2 := HX5.out.is 2 _ rfl
        have b3 := HX5.out.is 3 _ rfl
        have b4 := HX5.out.is 4 _ rfl
        obtain ⟨r0, q0⟩ := HX5.out.room.all 0 (by omega)
        obtain ⟨r1, q1⟩ := HX5.out.room.all 1 (by omega)
        obtain ⟨r2, q2⟩ := HX5.out.room.all 2 (by omega)
        obtain ⟨r3, q3⟩ := HX5.out.room.all 3 (by omega)
        obtain ⟨r4, q4⟩ := HX5.out.room.all 4 (by omega)
        simp only [Nat.zero_add] at q0 q1 q2 q3 q4
        have n0 := HX5.out.room.free 0
        have n1 := HX5.out.room.free 1
        have n2 := HX5.out.room.free 2
        have n3 := HX5.out.room.free 3
        have n4 := HX5.out.room.free 4
        have g0 := HX5.out.fm 2
        have HX6 := Lib.hid (HX5.out.set hC HO.out 2 (.int .i64 1000000000))
        have HD := Lib.hid (end_mill (m := ⟨m.name, m.stake, 1000000000, m.cut, m.shut⟩) HX6.out hC HO.out ⟨hmn, hm1, hm2, by show (-1 : Int) ≤ 1000000000; omega, by show (1000000000 : Int) ≤ 1000000001; omega⟩)
        clear HX5 HX6
        go_wp2
        exact bodyPost_ret (v := .agg #[.string (m.name), .int .i64 (m.stake), .int .i64 (1000000000), .int .i64 (m.cut), .bool (m.shut)]) (by simp [results, Tryz.results90, go_sem, q0, q1, q2, q3, q4]) rfl HD.out
      · have b0 := HX5.out.is 0 _ rfl
        have b1 := HX5.out.is 1 _ rfl
        have b2 := HX5.out.is 2 _ rfl
        have b3 := HX5.out.is 3 _ rfl
        have b4 := HX5.out.is 4 _ rfl
        obtain ⟨r0, q0⟩ := HX5.out.room.all 0 (by omega)
        obtain ⟨r1, q1⟩ := HX5.out.room.all 1 (by omega)
        obtain ⟨r2, q2⟩ := HX5.out.room.all 2 (by omega)
        obtain ⟨r3, q3⟩ := HX5.out.room.all 3 (by omega)
        obtain ⟨r4, q4⟩ := HX5.out.room.all 4 (by omega)
        simp only [Nat.zero_add] at q0 q1 q2 q3 q4
        have n0 := HX5.out.room.free 0
        have n1 := HX5.out.room.free 1
        have n2 := HX5.out.room.free 2
        have n3 := HX5.out.room.free 3
        have n4 := HX5.out.room.free 4
        have g0 := HX5.out.fm 2
        have HX6 := Lib.hid (HX5.out.set hC HO.out 2 (.int .i64 1000000001))
        have HD := Lib.hid (end_mill (m := ⟨m.name, m.stake, 1000000001, m.cut, m.shut⟩) HX6.out hC HO.out ⟨hmn, hm1, hm2, by show (-1 : Int) ≤ 1000000001; omega, by show (1000000001 : Int) ≤ 1000000001; omega⟩)
        clear HX5 HX6
        go_wp2
        exact bodyPost_ret (v := .agg #[.string (m.name), .int .i64 (m.stake), .int .i64 (1000000001), .int .i64 (m.cut), .bool (m.shut)]) (by simp [results, Tryz.results90, go_sem, q0, q1, q2, q3, q4]) rfl HD.out
    · go_wp2_with fail
      refine (l1Below_any _ (HX4.out.cur.kept (below_new _ _)) (by omega) (by omega)).mono ?_
      rintro e w5 ⟨z, ⟨hz, hz2⟩, rfl, hc5, hg5⟩
      have HX5 := Lib.hid ((HX4.out.below (below_new _ _)).draw hC hc5 hg5)
      have hCk : C < w4.heap.size := Nat.lt_of_lt_of_le hC HX4.out.grown.size
      have p0 := kept_cell (b := w4.heap.size) (o := 0) hg5 (by go_simp; rfl) (by omega)
      have p1 := kept_cell (b := w4.heap.size) (o := 1) hg5 (by go_simp; rfl) (by omega)
      clear hc5 hg5 HX4
      have hz3 : z = 0 ∨ z = 1 := by omega
      rcases hz3 with rfl | rfl
      · have b0 := HX5.out.is 0 _ rfl
        have b1 := HX5.out.is 1 _ rfl
        have b2 := HX5.out.is 2 _ rfl
        have b3 := HX5.out.is 3 _ rfl
        have b4 := HX5.out.is 4 _ rfl
        obtain ⟨r0, q0⟩ := HX5.out.room.all 0 (by omega)
        obtain ⟨r1, q1⟩ := HX5.out.room.all 1 (by omega)
        obtain ⟨r2, q2⟩ := HX5.out.room.all 2 (by omega)
        obtain ⟨r3, q3⟩ := HX5.out.room.all 3 (by omega)
        obtain ⟨r4, q4⟩ := HX5.out.room.all 4 (by omega)
        simp only [Nat.zero_add] at q0 q1 q2 q3 q4
        have n0 := HX5.out.room.free 0
        have n1 := HX5.out.room.free 1
        have n2 := HX5.out.room.free 2
        have n3 := HX5.out.room.free 3
        have n4 := HX5.out.room.free 4
        have g0 := HX5.out.fm 3
        have HX6 := Lib.hid (HX5.out.set hC HO.out 3 (.int .i64 (-1)))
        have HD := Lib.hid (end_mill (m := ⟨m.name, m.stake, m.shares, (-1), m.shut⟩) HX6.out hC HO.out ⟨hmn, hm1, hm2, hm3, hm4⟩)
        clear HX5 HX6
        go_wp2
        exact bodyPost_ret (v := .agg #[.string (m.name), .int .i64 (m.stake), .int .i64 (m.shares), .int .i64 ((-1)), .bool (m.shut)]) (by simp [results, Tryz.results90, go_sem, q0, q1, q2, q3, q4]) rfl HD.out
      · have b0 := HX5.out.is 0 _ rfl
        have b1 := HX5.out.is 1 _ rfl
        have b2 := HX5.out.is 2 _ rfl
        have b3 := HX5.out.is 3 _ rfl
        have b4 := HX5.out.is 4 _ rfl
        obtain ⟨r0, q0⟩ := HX5.out.room.all 0 (by omega)
        obtain ⟨r1, q1⟩ := HX5.out.room.all 1 (by omega)
        obtain ⟨r2, q2⟩ := HX5.out.room.all 2 (by omega)
        obtain ⟨r3, q3⟩ := HX5.out.room.all 3 (by omega)
        obtain ⟨r4, q4⟩ := HX5.out.room.all 4 (by omega)
        simp only [Nat.zero_add] at q0 q1 q2 q3 q4
        have n0 := HX5.out.room.free 0
        have n1 := HX5.out.room.free 1
        have n2 := HX5.out.room.free 2
        have n3 := HX5.out.room.free 3
        have n4 := HX5.out.room.free 4
        have g0 := HX5.out.fm 3
        have HX6 := Lib.hid (HX5.out.set hC HO.out 3 (.int .i64 101))
        have HD := Lib.hid (end_mill (m := ⟨m.name, m.stake, m.shares, 101, m.shut⟩) HX6.out hC HO.out ⟨hmn, hm1, hm2, hm3, hm4⟩)
        clear HX5 HX6
        go_wp2
        exact bodyPost_ret (v := .agg #[.string (m.name), .int .i64 (m.stake), .int .i64 (m.shares), .int .i64 (101), .bool (m.shut)]) (by simp [results, Tryz.results90, go_sem, q0, q1, q2, q3, q4]) rfl HD.out
end Go.Proofs.YtlnnchgaloejlaaGreat
