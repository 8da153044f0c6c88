/-
  Texts joined: DoesB, Draw, Draw1.
-/
import Derived.Test.YtlnnchgaloejlaaGreatP12
import Derived.Test.YtlnnchgaloejlaaGreatP14
import Derived.Test.YtlnnchgaloejlaaGreatP26
import Derived.Test.YtlnnchgaloejlaaGreatP28
import Derived.Test.YtlnnchgaloejlaaGreatP29
import Derived.Test.YtlnnchgaloejlaaGreatP30
import Derived.Test.YtlnnchgaloejlaaGreatP31
import Derived.Test.YtlnnchgaloejlaaGreatP32
import Derived.Test.YtlnnchgaloejlaaGreatP33
import Derived.Test.YtlnnchgaloejlaaGreatP34
namespace Go.Proofs.YtlnnchgaloejlaaGreat
open Go.ChangeShapes Go.WideShapes Go.ChangeAt Go.RowKit

/-- What comes of a right deed, by its kind. -/
noncomputable def doL (b : Bok) (k : Int) (who mill to : ByteArray) (n : Int) : Bok × Int :=
  if k = 1 then openL b mill n else
  if k = 2 then joinL b who else
  if k = 3 then recutL b mill n else
  if k = 4 then lentL b who mill n else
  if k = 5 then looseL b who mill n else
  if k = 6 then shiftL b who mill to n else
  if k = 7 then punL b mill n else
  if k = 8 then mendL b mill else
  if k = 9 then earnL b mill n else
  if k = 10 then givenL b who to n else
  turnL b
/-- What comes of a deed. -/
noncomputable def doesL (b : Bok) (d : Dee) : Bok × Int :=
  if bookB b = true then
    if deedB d = true then doL b d.kind d.who d.mill d.to d.n
    else (b, 7)
  else (bok0, 7)
theorem book_few {b : Bok} (h : bookB b = true) : b.folk.length ≤ 8 ∧ b.mills.length ≤ 4 ∧ b.parts.length ≤ 20 ∧ b.waits.length ≤ 20 := by
  obtain ⟨hl, -, -⟩ := book_true h
  obtain ⟨⟨hf, hm, hp, hw⟩, -⟩ := lists_all hl
  exact ⟨(folk_true hf).1, (mills_true hm).1, (parts_true hp).1, (waits_true hw).1⟩

set_option maxRecDepth 100000 in
set_option maxHeartbeats 64000000 in
set_option maxRecDepth 100000 in
theorem sDoes_any {w : World} {b : Bok} {s : Spots} (k n : Int) (who mill to : ByteArray) (h : BookAt w b s) (hr : Roots b s) (hl : BLen b) (hz : BSized b) (h1 : who.size ≤ maxLen) (h2 : mill.size ≤ maxLen) (h3 : to.size ≤ maxLen) :
    Calls Tryz.prog 86 #[.agg #[.int .i64 b.season, .int .i64 b.supply, .int .i64 b.burnt, .int .i64 b.pot, .slice s.fa b.folk.length s.fc, .slice s.ma b.mills.length s.mc, .slice s.pa b.parts.length s.pc, .slice s.wa b.waits.length s.wc], .agg #[.int .i64 k, .string who, .string mill, .string to, .int .i64 n]] w (ResK (doesL b ⟨k, who, mill, to, n⟩).1 (doesL b ⟨k, who, mill, to, n⟩).2 w.heap.size w) := by
  have HS1 := Lib.hid h1
  have HS2 := Lib.hid h2
  have HS3 := Lib.hid h3
  have HH := Lib.hid h
  have HR := Lib.hid hr
  have HL := Lib.hid hl
  have HZ := Lib.hid hz
  have XC := Lib.hid (CellB.new w b s 29)
  have D := Lib.hid (below_new w (.cells #[.int .i64 b.season, .int .i64 b.supply, .int .i64 b.burnt, .int .i64 b.pot, .slice s.fa b.folk.length s.fc, .slice s.ma b.mills.length s.mc, .slice s.pa b.parts.length s.pc, .slice s.wa b.waits.length s.wc] 29))
  obtain ⟨W0, hW0⟩ : ∃ W, w.alloc (.cells #[.int .i64 b.season, .int .i64 b.supply, .int .i64 b.burnt, .int .i64 b.pot, .slice s.fa b.folk.length s.fc, .slice s.ma b.mills.length s.mc, .slice s.pa b.parts.length s.pc, .slice s.wa b.waits.length s.wc] 29) = W := ⟨_, rfl⟩
  have hs0 : W0.heap.size = w.heap.size + 1 := by rw [← hW0]; simp
  rw [hW0] at XC D
  have DC := Lib.hid (RecAt.new Dee.cs W0 ⟨k, who, mill, to, n⟩ 108)
  have bd := below_new W0 (.cells #[.int .i64 k, .string who, .string mill, .string to, .int .i64 n] 108)
  obtain ⟨W1, hW1⟩ : ∃ W, W0.alloc (.cells #[.int .i64 k, .string who, .string mill, .string to, .int .i64 n] 108) = W := ⟨_, rfl⟩
  have hs1 : W1.heap.size = w.heap.size + 1 + 1 := by rw [← hW1]; simp [hs0]
  rw [show W0.alloc (.cells (Dee.cs ⟨k, who, mill, to, n⟩).toArray 108) = W1 from hW1, hs0] at DC
  rw [hW1] at bd
  replace XC := Lib.hid (XC.out.below bd)
  replace D := Lib.hid (below_trans D.out bd)
  have bz := below_new W1 (.cells #[.int .i64 0, .int .i64 0, .int .i64 0, .int .i64 0, .slice none 0 0, .slice none 0 0, .slice none 0 0, .slice none 0 0] 29)
  have R := Lib.hid (OutV.new W1 [.int .i64 0, .int .i64 0, .int .i64 0, .int .i64 0, .slice none 0 0, .slice none 0 0, .slice none 0 0, .slice none 0 0] 29)
  obtain ⟨W2, hW2⟩ : ∃ W, W1.alloc (.cells #[.int .i64 0, .int .i64 0, .int .i64 0, .int .i64 0, .slice none 0 0, .slice none 0 0, .slice none 0 0, .slice none 0 0] 29) = W := ⟨_, rfl⟩
  rw [show W1.alloc (.cells ([.int .i64 0, .int .i64 0, .int .i64 0, .int .i64 0, .slice none 0 0, .slice none 0 0, .slice none 0 0, .slice none 0 0] : List Value).toArray 29) = W2 from hW2, hs1] at R
  rw [hW2] at bz
  replace XC := Lib.hid (XC.out.below bz)
  replace DC := Lib.hid (DC.out.below bz)
  replace D := Lib.hid (below_trans D.out bz)
  clear bd bz h hr hl hz h1 h2 h3
  have x0 := XC.out.c0
  have x1 := XC.out.c1
  have x2 := XC.out.c2
  have x3 := XC.out.c3
  have x4 := XC.out.c4
  have x5 := XC.out.c5
  have x6 := XC.out.c6
  have x7 := XC.out.c7

  go_enter Tryz.func86, Tryz.ntmps86
  go_wp2_with fail
  refine (sBookOk_any (s := s) (HH.out.below D.out) HL.out HZ.out).mono ?_
  rintro e w2 ⟨rfl, hb⟩
  clear x0 x1 x2 x3 x4 x5 x6 x7
  replace XC := Lib.hid (XC.out.below hb)
  replace DC := Lib.hid (DC.out.below hb)
  replace R := Lib.hid (R.out.below hb)
  replace D := Lib.hid (below_trans D.out hb)
  clear hb
  cases hk : bookB b
  · have HE := Lib.hid (show ResK (doesL b ⟨k, who, mill, to, n⟩).1 (doesL b ⟨k, who, mill, to, n⟩).2 w.heap.size w (.returned (.tuple #[.agg #[.int .i64 0, .int .i64 0, .int .i64 0, .int .i64 0, .slice none 0 0, .slice none 0 0, .slice none 0 0, .slice none 0 0], .int .i64 7])) (putB w2 (w.heap.size + 1 + 1) bok0 ⟨none, 0, none, 0, none, 0, none, 0⟩) from by
      have e : doesL b ⟨k, who, mill, to, n⟩ = (bok0, 7) := by rw [doesL, hk]; rfl
      rw [e]
      exact ⟨⟨none, 0, none, 0, none, 0, none, 0⟩, rfl, ownB_nil _ _ _ ⟨.inl ⟨rfl, rfl⟩, .inl ⟨rfl, rfl⟩, .inl ⟨rfl, rfl⟩, .inl ⟨rfl, rfl⟩, Nat.le_refl _, Nat.le_refl _, Nat.le_refl _, Nat.le_refl _⟩, putB_below D.out (by omega) _ _⟩)
    unfold putB at HE
    have r0 := R.out.has 0 _ rfl
    have r1 := R.out.has 1 _ rfl
    have r2 := R.out.has 2 _ rfl
    have r3 := R.out.has 3 _ rfl
    have r4 := R.out.has 4 _ rfl
    have r5 := R.out.has 5 _ rfl
    have r6 := R.out.has 6 _ rfl
    have r7 := R.out.has 7 _ rfl
    have rf := R.out.free
    go_wp2
    exact bodyPost_ret (v := .tuple #[.agg #[.int .i64 0, .int .i64 0, .int .i64 0, .int .i64 0, .slice none 0 0, .slice none 0 0, .slice none 0 0, .slice none 0 0], .int .i64 7]) (by simp [results, Tryz.results86, go_sem, r0, r1, r2, r3, r4, r5, r6, r7]) rfl HE.out
  have HN := Lib.hid (show doesL b ⟨k, who, mill, to, n⟩ = _ from (show doesL b ⟨k, who, mill, to, n⟩ = if bookB b = true then _ else _ from rfl).trans (if_pos hk))
  have HLF := Lib.hid (show b.folk.length ≤ 1000000 by have := (book_few hk).1; omega)
  have HLM := Lib.hid (show b.mills.length ≤ 1000000 by have := (book_few hk).2.1; omega)
  clear hk
  have d0 := DC.out 0 _ rfl
  have d1 := DC.out 1 _ rfl
  have d2 := DC.out 2 _ rfl
  have d3 := DC.out 3 _ rfl
  have d4 := DC.out 4 _ rfl
  go_wp2_with fail
  refine (sDeedOk_any k n who mill to _ HS1.out HS2.out HS3.out).mono ?_
  rintro e w3 ⟨rfl, hb⟩
  clear d0 d1 d2 d3 d4
  replace XC := Lib.hid (XC.out.below hb)
  replace DC := Lib.hid (DC.out.below hb)
  replace R := Lib.hid (R.out.below hb)
  replace D := Lib.hid (below_trans D.out hb)
  clear hb
  cases hd : deedB ⟨k, who, mill, to, n⟩
  · replace HN := Lib.hid (HN.out.trans (if_neg (by rw [hd]; decide)))
    have hlt0 := R.out.lt
    have hsz0 := D.out.size
    have x0 := XC.out.c0
    have x1 := XC.out.c1
    have x2 := XC.out.c2
    have x3 := XC.out.c3
    have x4 := XC.out.c4
    have x5 := XC.out.c5
    have x6 := XC.out.c6
    have x7 := XC.out.c7
    go_wp2_with fail
    refine (l7Copy_sol (s := s) (HH.out.below D.out) HR.out HL.out).mono ?_
    rintro e w4 ⟨s9, rfl, ho, hb, -⟩
    clear x0 x1 x2 x3 x4 x5 x6 x7
    replace R := Lib.hid (R.out.below hb)
    have HE := Lib.hid (show ResK (doesL b ⟨k, who, mill, to, n⟩).1 (doesL b ⟨k, who, mill, to, n⟩).2 w.heap.size w (.returned (.tuple #[.agg #[.int .i64 b.season, .int .i64 b.supply, .int .i64 b.burnt, .int .i64 b.pot, .slice s9.fa b.folk.length s9.fc, .slice s9.ma b.mills.length s9.mc, .slice s9.pa b.parts.length s9.pc, .slice s9.wa b.waits.length s9.wc], .int .i64 7])) (putB w4 (w.heap.size + 1 + 1) b s9) from by
      rw [HN.out]
      have hlt := R.out.lt
      have hsz := D.out.size
      exact ⟨s9, rfl, (ho.grown (putB_grown _ _ _ _) (by omega)).mono (by omega), putB_below (below_trans D.out hb) (by omega) _ _⟩)
    unfold putB at HE
    clear ho hb
    have r0 := R.out.has 0 _ rfl
    have r1 := R.out.has 1 _ rfl
    have r2 := R.out.has 2 _ rfl
    have r3 := R.out.has 3 _ rfl
    have r4 := R.out.has 4 _ rfl
    have r5 := R.out.has 5 _ rfl
    have r6 := R.out.has 6 _ rfl
    have r7 := R.out.has 7 _ rfl
    have rf := R.out.free
    go_wp2
    exact bodyPost_ret (v := .tuple #[.agg #[.int .i64 b.season, .int .i64 b.supply, .int .i64 b.burnt, .int .i64 b.pot, .slice s9.fa b.folk.length s9.fc, .slice s9.ma b.mills.length s9.mc, .slice s9.pa b.parts.length s9.pc, .slice s9.wa b.waits.length s9.wc], .int .i64 7]) (by simp [results, Tryz.results86, go_sem, r0, r1, r2, r3, r4, r5, r6, r7]) rfl HE.out
  replace HN := Lib.hid (HN.out.trans (if_pos hd))
  have HKD := Lib.hid (deed_true hd).1
  clear hd
  have hlt := R.out.lt
  have hsz := D.out.size
  rcases kinds HKD.out.1 HKD.out.2 with rfl | rfl | rfl | rfl | rfl | rfl | rfl | rfl | rfl | rfl | rfl
  · have HNk := Lib.hid (HN.out.trans (show doL b 1 who mill to n = openL b mill n by simp [doL]))
    obtain ⟨r, Hr⟩ : ∃ r, Hid ((openL b mill n).1 = r) := ⟨_, Lib.hid rfl⟩
    obtain ⟨c, Hc⟩ : ∃ c, Hid ((openL b mill n).2 = c) := ⟨_, Lib.hid rfl⟩
    have d0 := DC.out 0 _ rfl
    have d1 := DC.out 1 _ rfl
    have d2 := DC.out 2 _ rfl
    have d3 := DC.out 3 _ rfl
    have d4 := DC.out 4 _ rfl
    have x0 := XC.out.c0
    have x1 := XC.out.c1
    have x2 := XC.out.c2
    have x3 := XC.out.c3
    have x4 := XC.out.c4
    have x5 := XC.out.c5
    have x6 := XC.out.c6
    have x7 := XC.out.c7
    go_wp2_with fail
    refine (sOpened_any (s := s) mill n (HH.out.below D.out) HR.out HL.out HZ.out HS2.out HLM.out).mono ?_
    rw [Hr.out, Hc.out]
    rintro e w9 ⟨s9, rfl, ho, hb⟩
    clear x0 x1 x2 x3 x4 x5 x6 x7 d0 d1 d2 d3 d4
    replace R := Lib.hid (R.out.below hb)
    have HE := Lib.hid (show ResK (doesL b ⟨1, who, mill, to, n⟩).1 (doesL b ⟨1, who, mill, to, n⟩).2 w.heap.size w (.returned (.tuple #[.agg #[.int .i64 r.season, .int .i64 r.supply, .int .i64 r.burnt, .int .i64 r.pot, .slice s9.fa r.folk.length s9.fc, .slice s9.ma r.mills.length s9.mc, .slice s9.pa r.parts.length s9.pc, .slice s9.wa r.waits.length s9.wc], .int .i64 c])) (putB w9 (w.heap.size + 1 + 1) r s9) from by
      rw [HNk.out, Hr.out, Hc.out]
      exact ⟨s9, rfl, (ho.grown (putB_grown _ _ _ _) (by omega)).mono (by omega), putB_below (below_trans D.out hb) (by omega) _ _⟩)
    unfold putB at HE
    clear ho hb
    have r0 := R.out.has 0 _ rfl
    have r1 := R.out.has 1 _ rfl
    have r2 := R.out.has 2 _ rfl
    have r3 := R.out.has 3 _ rfl
    have r4 := R.out.has 4 _ rfl
    have r5 := R.out.has 5 _ rfl
    have r6 := R.out.has 6 _ rfl
    have r7 := R.out.has 7 _ rfl
    have rf := R.out.free
    go_wp2
    exact bodyPost_ret (v := .tuple #[.agg #[.int .i64 r.season, .int .i64 r.supply, .int .i64 r.burnt, .int .i64 r.pot, .slice s9.fa r.folk.length s9.fc, .slice s9.ma r.mills.length s9.mc, .slice s9.pa r.parts.length s9.pc, .slice s9.wa r.waits.length s9.wc], .int .i64 c]) (by simp [results, Tryz.results86, go_sem, r0, r1, r2, r3, r4, r5, r6, r7]) rfl HE.out
  · have HNk := Lib.hid (HN.out.trans (show doL b 2 who mill to n = joinL b who by simp [doL]))
    obtain ⟨r, Hr⟩ : ∃ r, Hid ((joinL b who).1 = r) := ⟨_, Lib.hid rfl⟩
    obtain ⟨c, Hc⟩ : ∃ c, Hid ((joinL b who).2 = c) := ⟨_, Lib.hid rfl⟩
    have d0 := DC.out 0 _ rfl
    have d1 := DC.out 1 _ rfl
    have d2 := DC.out 2 _ rfl
    have d3 := DC.out 3 _ rfl
    have d4 := DC.out 4 _ rfl
    have x0 := XC.out.c0
    have x1 := XC.out.c1
    have x2 := XC.out.c2
    have x3 := XC.out.c3
    have x4 := XC.out.c4
    have x5 := XC.out.c5
    have x6 := XC.out.c6
    have x7 := XC.out.c7
    go_wp2_with fail
    refine (sJoined_any (s := s) who (HH.out.below D.out) HR.out HL.out HZ.out HS1.out HLF.out).mono ?_
    rw [Hr.out, Hc.out]
    rintro e w9 ⟨s9, rfl, ho, hb⟩
    clear x0 x1 x2 x3 x4 x5 x6 x7 d0 d1 d2 d3 d4
    replace R := Lib.hid (R.out.below hb)
    have HE := Lib.hid (show ResK (doesL b ⟨2, who, mill, to, n⟩).1 (doesL b ⟨2, who, mill, to, n⟩).2 w.heap.size w (.returned (.tuple #[.agg #[.int .i64 r.season, .int .i64 r.supply, .int .i64 r.burnt, .int .i64 r.pot, .slice s9.fa r.folk.length s9.fc, .slice s9.ma r.mills.length s9.mc, .slice s9.pa r.parts.length s9.pc, .slice s9.wa r.waits.length s9.wc], .int .i64 c])) (putB w9 (w.heap.size + 1 + 1) r s9) from by
      rw [HNk.out, Hr.out, Hc.out]
      exact ⟨s9, rfl, (ho.grown (putB_grown _ _ _ _) (by omega)).mono (by omega), putB_below (below_trans D.out hb) (by omega) _ _⟩)
    unfold putB at HE
    clear ho hb
    have r0 := R.out.has 0 _ rfl
    have r1 := R.out.has 1 _ rfl
    have r2 := R.out.has 2 _ rfl
    have r3 := R.out.has 3 _ rfl
    have r4 := R.out.has 4 _ rfl
    have r5 := R.out.has 5 _ rfl
    have r6 := R.out.has 6 _ rfl
    have r7 := R.out.has 7 _ rfl
    have rf := R.out.free
    go_wp2
    exact bodyPost_ret (v := .tuple #[.agg #[.int .i64 r.season, .int .i64 r.supply, .int .i64 r.burnt, .int .i64 r.pot, .slice s9.fa r.folk.length s9.fc, .slice s9.ma r.mills.length s9.mc, .slice s9.pa r.parts.length s9.pc, .slice s9.wa r.waits.length s9.wc], .int .i64 c]) (by simp [results, Tryz.results86, go_sem, r0, r1, r2, r3, r4, r5, r6, r7]) rfl HE.out
  · have HNk := Lib.hid (HN.out.trans (show doL b 3 who mill to n = recutL b mill n by simp [doL]))
    obtain ⟨r, Hr⟩ : ∃ r, Hid ((recutL b mill n).1 = r) := ⟨_, Lib.hid rfl⟩
    obtain ⟨c, Hc⟩ : ∃ c, Hid ((recutL b mill n).2 = c) := ⟨_, Lib.hid rfl⟩
    have d0 := DC.out 0 _ rfl
    have d1 := DC.out 1 _ rfl
    have d2 := DC.out 2 _ rfl
    have d3 := DC.out 3 _ rfl
    have d4 := DC.out 4 _ rfl
    have x0 := XC.out.c0
    have x1 := XC.out.c1
    have x2 := XC.out.c2
    have x3 := XC.out.c3
    have x4 := XC.out.c4
    have x5 := XC.out.c5
    have x6 := XC.out.c6
    have x7 := XC.out.c7
    go_wp2_with fail
    refine (sRecut_any (s := s) mill n (HH.out.below D.out) HR.out HL.out HZ.out ).mono ?_
    rw [Hr.out, Hc.out]
    rintro e w9 ⟨s9, rfl, ho, hb⟩
    clear x0 x1 x2 x3 x4 x5 x6 x7 d0 d1 d2 d3 d4
    replace R := Lib.hid (R.out.below hb)
    have HE := Lib.hid (show ResK (doesL b ⟨3, who, mill, to, n⟩).1 (doesL b ⟨3, who, mill, to, n⟩).2 w.heap.size w (.returned (.tuple #[.agg #[.int .i64 r.season, .int .i64 r.supply, .int .i64 r.burnt, .int .i64 r.pot, .slice s9.fa r.folk.length s9.fc, .slice s9.ma r.mills.length s9.mc, .slice s9.pa r.parts.length s9.pc, .slice s9.wa r.waits.length s9.wc], .int .i64 c])) (putB w9 (w.heap.size + 1 + 1) r s9) from by
      rw [HNk.out, Hr.out, Hc.out]
      exact ⟨s9, rfl, (ho.grown (putB_grown _ _ _ _) (by omega)).mono (by omega), putB_below (below_trans D.out hb) (by omega) _ _⟩)
    unfold putB at HE
    clear ho hb
    have r0 := R.out.has 0 _ rfl
    have r1 := R.out.has 1 _ rfl
    have r2 := R.out.has 2 _ rfl
    have r3 := R.out.has 3 _ rfl
    have r4 := R.out.has 4 _ rfl
    have r5 := R.out.has 5 _ rfl
    have r6 := R.out.has 6 _ rfl
    have r7 := R.out.has 7 _ rfl
    have rf := R.out.free
    go_wp2
    exact bodyPost_ret (v := .tuple #[.agg #[.int .i64 r.season, .int .i64 r.supply, .int .i64 r.burnt, .int .i64 r.pot, .slice s9.fa r.folk.length s9.fc, .slice s9.ma r.mills.length s9.mc, .slice s9.pa r.parts.length s9.pc, .slice s9.wa r.waits.length s9.wc], .int .i64 c]) (by simp [results, Tryz.results86, go_sem, r0, r1, r2, r3, r4, r5, r6, r7]) rfl HE.out
  · have HNk := Lib.hid (HN.out.trans (show doL b 4 who mill to n = lentL b who mill n by simp [doL]))
    obtain ⟨r, Hr⟩ : ∃ r, Hid ((lentL b who mill n).1 = r) := ⟨_, Lib.hid rfl⟩
    obtain ⟨c, Hc⟩ : ∃ c, Hid ((lentL b who mill n).2 = c) := ⟨_, Lib.hid rfl⟩
    have d0 := DC.out 0 _ rfl
    have d1 := DC.out 1 _ rfl
    have d2 := DC.out 2 _ rfl
    have d3 := DC.out 3 _ rfl
    have d4 := DC.out 4 _ rfl
    have x0 := XC.out.c0
    have x1 := XC.out.c1
    have x2 := XC.out.c2
    have x3 := XC.out.c3
    have x4 := XC.out.c4
    have x5 := XC.out.c5
    have x6 := XC.out.c6
    have x7 := XC.out.c7
    go_wp2_with fail
    refine (sLent_any (s := s) who mill n (HH.out.below D.out) HR.out HL.out HZ.out HS1.out).mono ?_
    rw [Hr.out, Hc.out]
    rintro e w9 ⟨s9, rfl, ho, hb⟩
    clear x0 x1 x2 x3 x4 x5 x6 x7 d0 d1 d2 d3 d4
    replace R := Lib.hid (R.out.below hb)
    have HE := Lib.hid (show ResK (doesL b ⟨4, who, mill, to, n⟩).1 (doesL b ⟨4, who, mill, to, n⟩).2 w.heap.size w (.returned (.tuple #[.agg #[.int .i64 r.season, .int .i64 r.supply, .int .i64 r.burnt, .int .i64 r.pot, .slice s9.fa r.folk.length s9.fc, .slice s9.ma r.mills.length s9.mc, .slice s9.pa r.parts.length s9.pc, .slice s9.wa r.waits.length s9.wc], .int .i64 c])) (putB w9 (w.heap.size + 1 + 1) r s9) from by
      rw [HNk.out, Hr.out, Hc.out]
      exact ⟨s9, rfl, (ho.grown (putB_grown _ _ _ _) (by omega)).mono (by omega), putB_below (below_trans D.out hb) (by omega) _ _⟩)
    unfold putB at HE
    clear ho hb
    have r0 := R.out.has 0 _ rfl
    have r1 := R.out.has 1 _ rfl
    have r2 := R.out.has 2 _ rfl
    have r3 := R.out.has 3 _ rfl
    have r4 := R.out.has 4 _ rfl
    have r5 := R.out.has 5 _ rfl
    have r6 := R.out.has 6 _ rfl
    have r7 := R.out.has 7 _ rfl
    have rf := R.out.free
    go_wp2
    exact bodyPost_ret (v := .tuple #[.agg #[.int .i64 r.season, .int .i64 r.supply, .int .i64 r.burnt, .int .i64 r.pot, .slice s9.fa r.folk.length s9.fc, .slice s9.ma r.mills.length s9.mc, .slice s9.pa r.parts.length s9.pc, .slice s9.wa r.waits.length s9.wc], .int .i64 c]) (by simp [results, Tryz.results86, go_sem, r0, r1, r2, r3, r4, r5, r6, r7]) rfl HE.out
  · have HNk := Lib.hid (HN.out.trans (show doL b 5 who mill to n = looseL b who mill n by simp [doL]))
    obtain ⟨r, Hr⟩ : ∃ r, Hid ((looseL b who mill n).1 = r) := ⟨_, Lib.hid rfl⟩
    obtain ⟨c, Hc⟩ : ∃ c, Hid ((looseL b who mill n).2 = c) := ⟨_, Lib.hid rfl⟩
    have d0 := DC.out 0 _ rfl
    have d1 := DC.out 1 _ rfl
    have d2 := DC.out 2 _ rfl
    have d3 := DC.out 3 _ rfl
    have d4 := DC.out 4 _ rfl
    have x0 := XC.out.c0
    have x1 := XC.out.c1
    have x2 := XC.out.c2
    have x3 := XC.out.c3
    have x4 := XC.out.c4
    have x5 := XC.out.c5
    have x6 := XC.out.c6
    have x7 := XC.out.c7
    go_wp2_with fail
    refine (sLoosened_any (s := s) who mill n (HH.out.below D.out) HR.out HL.out HZ.out HS1.out HS2.out).mono ?_
    rw [Hr.out, Hc.out]
    rintro e w9 ⟨s9, rfl, ho, hb⟩
    clear x0 x1 x2 x3 x4 x5 x6 x7 d0 d1 d2 d3 d4
    replace R := Lib.hid (R.out.below hb)
    have HE := Lib.hid (show ResK (doesL b ⟨5, who, mill, to, n⟩).1 (doesL b ⟨5, who, mill, to, n⟩).2 w.heap.size w (.returned (.tuple #[.agg #[.int .i64 r.season, .int .i64 r.supply, .int .i64 r.burnt, .int .i64 r.pot, .slice s9.fa r.folk.length s9.fc, .slice s9.ma r.mills.length s9.mc, .slice s9.pa r.parts.length s9.pc, .slice s9.wa r.waits.length s9.wc], .int .i64 c])) (putB w9 (w.heap.size + 1 + 1) r s9) from by
      rw [HNk.out, Hr.out, Hc.out]
      exact ⟨s9, rfl, (ho.grown (putB_grown _ _ _ _) (by omega)).mono (by omega), putB_below (below_trans D.out hb) (by omega) _ _⟩)
    unfold putB at HE
    clear ho hb
    have r0 := R.out.has 0 _ rfl
    have r1 := R.out.has 1 _ rfl
    have r2 := R.out.has 2 _ rfl
    have r3 := R.out.has 3 _ rfl
    have r4 := R.out.has 4 _ rfl
    have r5 := R.out.has 5 _ rfl
    have r6 := R.out.has 6 _ rfl
    have r7 := R.out.has 7 _ rfl
    have rf := R.out.free
    go_wp2
    exact bodyPost_ret (v := .tuple #[.agg #[.int .i64 r.season, .int .i64 r.supply, .int .i64 r.burnt, .int .i64 r.pot, .slice s9.fa r.folk.length s9.fc, .slice s9.ma r.mills.length s9.mc, .slice s9.pa r.parts.length s9.pc, .slice s9.wa r.waits.length s9.wc], .int .i64 c]) (by simp [results, Tryz.results86, go_sem, r0, r1, r2, r3, r4, r5, r6, r7]) rfl HE.out
  · have HNk := Lib.hid (HN.out.trans (show doL b 6 who mill to n = shiftL b who mill to n by simp [doL]))
    obtain ⟨r, Hr⟩ : ∃ r, Hid ((shiftL b who mill to n).1 = r) := ⟨_, Lib.hid rfl⟩
    obtain ⟨c, Hc⟩ : ∃ c, Hid ((shiftL b who mill to n).2 = c) := ⟨_, Lib.hid rfl⟩
    have d0 := DC.out 0 _ rfl
    have d1 := DC.out 1 _ rfl
    have d2 := DC.out 2 _ rfl
    have d3 := DC.out 3 _ rfl
    have d4 := DC.out 4 _ rfl
    have x0 := XC.out.c0
    have x1 := XC.out.c1
    have x2 := XC.out.c2
    have x3 := XC.out.c3
    have x4 := XC.out.c4
    have x5 := XC.out.c5
    have x6 := XC.out.c6
    have x7 := XC.out.c7
    go_wp2_with fail
    refine (sShifted_any (s := s) who mill to n (HH.out.below D.out) HR.out HL.out HZ.out HS1.out).mono ?_
    rw [Hr.out, Hc.out]
    rintro e w9 ⟨s9, rfl, ho, hb⟩
    clear x0 x1 x2 x3 x4 x5 x6 x7 d0 d1 d2 d3 d4
    replace R := Lib.hid (R.out.below hb)
    have HE := Lib.hid (show ResK (doesL b ⟨6, who, mill, to, n⟩).1 (doesL b ⟨6, who, mill, to, n⟩).2 w.heap.size w (.returned (.tuple #[.agg #[.int .i64 r.season, .int .i64 r.supply, .int .i64 r.burnt, .int .i64 r.pot, .slice s9.fa r.folk.length s9.fc, .slice s9.ma r.mills.length s9.mc, .slice s9.pa r.parts.length s9.pc, .slice s9.wa r.waits.length s9.wc], .int .i64 c])) (putB w9 (w.heap.size + 1 + 1) r s9) from by
      rw [HNk.out, Hr.out, Hc.out]
      exact ⟨s9, rfl, (ho.grown (putB_grown _ _ _ _) (by omega)).mono (by omega), putB_below (below_trans D.out hb) (by omega) _ _⟩)
    unfold putB at HE
    clear ho hb
    have r0 := R.out.has 0 _ rfl
    have r1 := R.out.has 1 _ rfl
    have r2 := R.out.has 2 _ rfl
    have r3 := R.out.has 3 _ rfl
    have r4 := R.out.has 4 _ rfl
    have r5 := R.out.has 5 _ rfl
    have r6 := R.out.has 6 _ rfl
    have r7 := R.out.has 7 _ rfl
    have rf := R.out.free
    go_wp2
    exact bodyPost_ret (v := .tuple #[.agg #[.int .i64 r.season, .int .i64 r.supply, .int .i64 r.burnt, .int .i64 r.pot, .slice s9.fa r.folk.length s9.fc, .slice s9.ma r.mills.length s9.mc, .slice s9.pa r.parts.length s9.pc, .slice s9.wa r.waits.length s9.wc], .int .i64 c]) (by simp [results, Tryz.results86, go_sem, r0, r1, r2, r3, r4, r5, r6, r7]) rfl HE.out
  · have HNk := Lib.hid (HN.out.trans (show doL b 7 who mill to n = punL b mill n by simp [doL]))
    obtain ⟨r, Hr⟩ : ∃ r, Hid ((punL b mill n).1 = r) := ⟨_, Lib.hid rfl⟩
    obtain ⟨c, Hc⟩ : ∃ c, Hid ((punL b mill n).2 = c) := ⟨_, Lib.hid rfl⟩
    have d0 := DC.out 0 _ rfl
    have d1 := DC.out 1 _ rfl
    have d2 := DC.out 2 _ rfl
    have d3 := DC.out 3 _ rfl
    have d4 := DC.out 4 _ rfl
    have x0 := XC.out.c0
    have x1 := XC.out.c1
    have x2 := XC.out.c2
    have x3 := XC.out.c3
    have x4 := XC.out.c4
    have x5 := XC.out.c5
    have x6 := XC.out.c6
    have x7 := XC.out.c7
    go_wp2_with fail
    refine (sPunished_any (s := s) mill n (HH.out.below D.out) HR.out HL.out HZ.out ).mono ?_
    rw [Hr.out, Hc.out]
    rintro e w9 ⟨s9, rfl, ho, hb⟩
    clear x0 x1 x2 x3 x4 x5 x6 x7 d0 d1 d2 d3 d4
    replace R := Lib.hid (R.out.below hb)
    have HE := Lib.hid (show ResK (doesL b ⟨7, who, mill, to, n⟩).1 (doesL b ⟨7, who, mill, to, n⟩).2 w.heap.size w (.returned (.tuple #[.agg #[.int .i64 r.season, .int .i64 r.supply, .int .i64 r.burnt, .int .i64 r.pot, .slice s9.fa r.folk.length s9.fc, .slice s9.ma r.mills.length s9.mc, .slice s9.pa r.parts.length s9.pc, .slice s9.wa r.waits.length s9.wc], .int .i64 c])) (putB w9 (w.heap.size + 1 + 1) r s9) from by
      rw [HNk.out, Hr.out, Hc.out]
      exact ⟨s9, rfl, (ho.grown (putB_grown _ _ _ _) (by omega)).mono (by omega), putB_below (below_trans D.out hb) (by omega) _ _⟩)
    unfold putB at HE
    clear ho hb
    have r0 := R.out.has 0 _ rfl
    have r1 := R.out.has 1 _ rfl
    have r2 := R.out.has 2 _ rfl
    have r3 := R.out.has 3 _ rfl
    have r4 := R.out.has 4 _ rfl
    have r5 := R.out.has 5 _ rfl
    have r6 := R.out.has 6 _ rfl
    have r7 := R.out.has 7 _ rfl
    have rf := R.out.free
    go_wp2
    exact bodyPost_ret (v := .tuple #[.agg #[.int .i64 r.season, .int .i64 r.supply, .int .i64 r.burnt, .int .i64 r.pot, .slice s9.fa r.folk.length s9.fc, .slice s9.ma r.mills.length s9.mc, .slice s9.pa r.parts.length s9.pc, .slice s9.wa r.waits.length s9.wc], .int .i64 c]) (by simp [results, Tryz.results86, go_sem, r0, r1, r2, r3, r4, r5, r6, r7]) rfl HE.out
  · have HNk := Lib.hid (HN.out.trans (show doL b 8 who mill to n = mendL b mill by simp [doL]))
    obtain ⟨r, Hr⟩ : ∃ r, Hid ((mendL b mill).1 = r) := ⟨_, Lib.hid rfl⟩
    obtain ⟨c, Hc⟩ : ∃ c, Hid ((mendL b mill).2 = c) := ⟨_, Lib.hid rfl⟩
    have d0 := DC.out 0 _ rfl
    have d1 := DC.out 1 _ rfl
    have d2 := DC.out 2 _ rfl
    have d3 := DC.out 3 _ rfl
    have d4 := DC.out 4 _ rfl
    have x0 := XC.out.c0
    have x1 := XC.out.c1
    have x2 := XC.out.c2
    have x3 := XC.out.c3
    have x4 := XC.out.c4
    have x5 := XC.out.c5
    have x6 := XC.out.c6
    have x7 := XC.out.c7
    go_wp2_with fail
    refine (sMended_any (s := s) mill (HH.out.below D.out) HR.out HL.out HZ.out ).mono ?_
    rw [Hr.out, Hc.out]
    rintro e w9 ⟨s9, rfl, ho, hb⟩
    clear x0 x1 x2 x3 x4 x5 x6 x7 d0 d1 d2 d3 d4
    replace R := Lib.hid (R.out.below hb)
    have HE := Lib.hid (show ResK (doesL b ⟨8, who, mill, to, n⟩).1 (doesL b ⟨8, who, mill, to, n⟩).2 w.heap.size w (.returned (.tuple #[.agg #[.int .i64 r.season, .int .i64 r.supply, .int .i64 r.burnt, .int .i64 r.pot, .slice s9.fa r.folk.length s9.fc, .slice s9.ma r.mills.length s9.mc, .slice s9.pa r.parts.length s9.pc, .slice s9.wa r.waits.length s9.wc], .int .i64 c])) (putB w9 (w.heap.size + 1 + 1) r s9) from by
      rw [HNk.out, Hr.out, Hc.out]
      exact ⟨s9, rfl, (ho.grown (putB_grown _ _ _ _) (by omega)).mono (by omega), putB_below (below_trans D.out hb) (by omega) _ _⟩)
    unfold putB at HE
    clear ho hb
    have r0 := R.out.has 0 _ rfl
    have r1 := R.out.has 1 _ rfl
    have r2 := R.out.has 2 _ rfl
    have r3 := R.out.has 3 _ rfl
    have r4 := R.out.has 4 _ rfl
    have r5 := R.out.has 5 _ rfl
    have r6 := R.out.has 6 _ rfl
    have r7 := R.out.has 7 _ rfl
    have rf := R.out.free
    go_wp2
    exact bodyPost_ret (v := .tuple #[.agg #[.int .i64 r.season, .int .i64 r.supply, .int .i64 r.burnt, .int .i64 r.pot, .slice s9.fa r.folk.length s9.fc, .slice s9.ma r.mills.length s9.mc, .slice s9.pa r.parts.length s9.pc, .slice s9.wa r.waits.length s9.wc], .int .i64 c]) (by simp [results, Tryz.results86, go_sem, r0, r1, r2, r3, r4, r5, r6, r7]) rfl HE.out
  · have HNk := Lib.hid (HN.out.trans (show doL b 9 who mill to n = earnL b mill n by simp [doL]))
    obtain ⟨r, Hr⟩ : ∃ r, Hid ((earnL b mill n).1 = r) := ⟨_, Lib.hid rfl⟩
    obtain ⟨c, Hc⟩ : ∃ c, Hid ((earnL b mill n).2 = c) := ⟨_, Lib.hid rfl⟩
    have d0 := DC.out 0 _ rfl
    have d1 := DC.out 1 _ rfl
    have d2 := DC.out 2 _ rfl
    have d3 := DC.out 3 _ rfl
    have d4 := DC.out 4 _ rfl
    have x0 := XC.out.c0
    have x1 := XC.out.c1
    have x2 := XC.out.c2
    have x3 := XC.out.c3
    have x4 := XC.out.c4
    have x5 := XC.out.c5
    have x6 := XC.out.c6
    have x7 := XC.out.c7
    go_wp2_with fail
    refine (sEarned_any (s := s) mill n (HH.out.below D.out) HR.out HL.out HZ.out ).mono ?_
    rw [Hr.out, Hc.out]
    rintro e w9 ⟨s9, rfl, ho, hb⟩
    clear x0 x1 x2 x3 x4 x5 x6 x7 d0 d1 d2 d3 d4
    replace R := Lib.hid (R.out.below hb)
    have HE := Lib.hid (show ResK (doesL b ⟨9, who, mill, to, n⟩).1 (doesL b ⟨9, who, mill, to, n⟩).2 w.heap.size w (.returned (.tuple #[.agg #[.int .i64 r.season, .int .i64 r.supply, .int .i64 r.burnt, .int .i64 r.pot, .slice s9.fa r.folk.length s9.fc, .slice s9.ma r.mills.length s9.mc, .slice s9.pa r.parts.length s9.pc, .slice s9.wa r.waits.length s9.wc], .int .i64 c])) (putB w9 (w.heap.size + 1 + 1) r s9) from by
      rw [HNk.out, Hr.out, Hc.out]
      exact ⟨s9, rfl, (ho.grown (putB_grown _ _ _ _) (by omega)).mono (by omega), putB_below (below_trans D.out hb) (by omega) _ _⟩)
    unfold putB at HE
    clear ho hb
    have r0 := R.out.has 0 _ rfl
    have r1 := R.out.has 1 _ rfl
    have r2 := R.out.has 2 _ rfl
    have r3 := R.out.has 3 _ rfl
    have r4 := R.out.has 4 _ rfl
    have r5 := R.out.has 5 _ rfl
    have r6 := R.out.has 6 _ rfl
    have r7 := R.out.has 7 _ rfl
    have rf := R.out.free
    go_wp2
    exact bodyPost_ret (v := .tuple #[.agg #[.int .i64 r.season, .int .i64 r.supply, .int .i64 r.burnt, .int .i64 r.pot, .slice s9.fa r.folk.length s9.fc, .slice s9.ma r.mills.length s9.mc, .slice s9.pa r.parts.length s9.pc, .slice s9.wa r.waits.length s9.wc], .int .i64 c]) (by simp [results, Tryz.results86, go_sem, r0, r1, r2, r3, r4, r5, r6, r7]) rfl HE.out
  · have HNk := Lib.hid (HN.out.trans (show doL b 10 who mill to n = givenL b who to n by simp [doL]))
    obtain ⟨r, Hr⟩ : ∃ r, Hid ((givenL b who to n).1 = r) := ⟨_, Lib.hid rfl⟩
    obtain ⟨c, Hc⟩ : ∃ c, Hid ((givenL b who to n).2 = c) := ⟨_, Lib.hid rfl⟩
    have d0 := DC.out 0 _ rfl
    have d1 := DC.out 1 _ rfl
    have d2 := DC.out 2 _ rfl
    have d3 := DC.out 3 _ rfl
    have d4 := DC.out 4 _ rfl
    have x0 := XC.out.c0
    have x1 := XC.out.c1
    have x2 := XC.out.c2
    have x3 := XC.out.c3
    have x4 := XC.out.c4
    have x5 := XC.out.c5
    have x6 := XC.out.c6
    have x7 := XC.out.c7
    go_wp2_with fail
    refine (sGiven_any (s := s) who to n (HH.out.below D.out) HR.out HL.out HZ.out ).mono ?_
    rw [Hr.out, Hc.out]
    rintro e w9 ⟨s9, rfl, ho, hb⟩
    clear x0 x1 x2 x3 x4 x5 x6 x7 d0 d1 d2 d3 d4
    replace R := Lib.hid (R.out.below hb)
    have HE := Lib.hid (show ResK (doesL b ⟨10, who, mill, to, n⟩).1 (doesL b ⟨10, who, mill, to, n⟩).2 w.heap.size w (.returned (.tuple #[.agg #[.int .i64 r.season, .int .i64 r.supply, .int .i64 r.burnt, .int .i64 r.pot, .slice s9.fa r.folk.length s9.fc, .slice s9.ma r.mills.length s9.mc, .slice s9.pa r.parts.length s9.pc, .slice s9.wa r.waits.length s9.wc], .int .i64 c])) (putB w9 (w.heap.size + 1 + 1) r s9) from by
      rw [HNk.out, Hr.out, Hc.out]
      exact ⟨s9, rfl, (ho.grown (putB_grown _ _ _ _) (by omega)).mono (by omega), putB_below (below_trans D.out hb) (by omega) _ _⟩)
    unfold putB at HE
    clear ho hb
    have r0 := R.out.has 0 _ rfl
    have r1 := R.out.has 1 _ rfl
    have r2 := R.out.has 2 _ rfl
    have r3 := R.out.has 3 _ rfl
    have r4 := R.out.has 4 _ rfl
    have r5 := R.out.has 5 _ rfl
    have r6 := R.out.has 6 _ rfl
    have r7 := R.out.has 7 _ rfl
    have rf := R.out.free
    go_wp2
    exact bodyPost_ret (v := .tuple #[.agg #[.int .i64 r.season, .int .i64 r.supply, .int .i64 r.burnt, .int .i64 r.pot, .slice s9.fa r.folk.length s9.fc, .slice s9.ma r.mills.length s9.mc, .slice s9.pa r.parts.length s9.pc, .slice s9.wa r.waits.length s9.wc], .int .i64 c]) (by simp [results, Tryz.results86, go_sem, r0, r1, r2, r3, r4, r5, r6, r7]) rfl HE.out
  · have HNk := Lib.hid (HN.out.trans (show doL b 11 who mill to n = turnL b by simp [doL]))
    obtain ⟨r, Hr⟩ : ∃ r, Hid ((turnL b).1 = r) := ⟨_, Lib.hid rfl⟩
    obtain ⟨c, Hc⟩ : ∃ c, Hid ((turnL b).2 = c) := ⟨_, Lib.hid rfl⟩
    have d0 := DC.out 0 _ rfl
    have d1 := DC.out 1 _ rfl
    have d2 := DC.out 2 _ rfl
    have d3 := DC.out 3 _ rfl
    have d4 := DC.out 4 _ rfl
    have x0 := XC.out.c0
    have x1 := XC.out.c1
    have x2 := XC.out.c2
    have x3 := XC.out.c3
    have x4 := XC.out.c4
    have x5 := XC.out.c5
    have x6 := XC.out.c6
    have x7 := XC.out.c7
    go_wp2_with fail
    refine (sTurned_any (s := s)  (HH.out.below D.out) HR.out HL.out HZ.out ).mono ?_
    rw [Hr.out, Hc.out]
    rintro e w9 ⟨s9, rfl, ho, hb⟩
    clear x0 x1 x2 x3 x4 x5 x6 x7 d0 d1 d2 d3 d4
    replace R := Lib.hid (R.out.below hb)
    have HE := Lib.hid (show ResK (doesL b ⟨11, who, mill, to, n⟩).1 (doesL b ⟨11, who, mill, to, n⟩).2 w.heap.size w (.returned (.tuple #[.agg #[.int .i64 r.season, .int .i64 r.supply, .int .i64 r.burnt, .int .i64 r.pot, .slice s9.fa r.folk.length s9.fc, .slice s9.ma r.mills.length s9.mc, .slice s9.pa r.parts.length s9.pc, .slice s9.wa r.waits.length s9.wc], .int .i64 c])) (putB w9 (w.heap.size + 1 + 1) r s9) from by
      rw [HNk.out, Hr.out, Hc.out]
      exact ⟨s9, rfl, (ho.grown (putB_grown _ _ _ _) (by omega)).mono (by omega), putB_below (below_trans D.out hb) (by omega) _ _⟩)
    unfold putB at HE
    clear ho hb
    have r0 := R.out.has 0 _ rfl
    have r1 := R.out.has 1 _ rfl
    have r2 := R.out.has 2 _ rfl
    have r3 := R.out.has 3 _ rfl
    have r4 := R.out.has 4 _ rfl
    have r5 := R.out.has 5 _ rfl
    have r6 := R.out.has 6 _ rfl
    have r7 := R.out.has 7 _ rfl
    have rf := R.out.free
    go_wp2
    exact bodyPost_ret (v := .tuple #[.agg #[.int .i64 r.season, .int .i64 r.supply, .int .i64 r.burnt, .int .i64 r.pot, .slice s9.fa r.folk.length s9.fc, .slice s9.ma r.mills.length s9.mc, .slice s9.pa r.parts.length s9.pc, .slice s9.wa r.waits.length s9.wc], .int .i64 c]) (by simp [results, Tryz.results86, go_sem, r0, r1, r2, r3, r4, r5, r6, r7]) rfl HE.out
end Go.Proofs.YtlnnchgaloejlaaGreat
namespace Go.Proofs.YtlnnchgaloejlaaGreat
open Go.ChangeShapes Go.WideShapes Go.ChangeAt Go.RowKit

end Go.Proofs.YtlnnchgaloejlaaGreat
namespace Go.Proofs.YtlnnchgaloejlaaGreat
open Go.ChangeShapes Go.WideShapes Go.ChangeAt Go.RowKit

set_option maxHeartbeats 1000000 in
set_option maxRecDepth 100000 in
theorem l1DrawAmount_any {C : Nat} {a : Option Addr} {len cap : Nat} {w : World} (h : Cur w C a len cap) :
    Calls Tryz.prog 52 #[.pointer (some ⟨C, 0, none⟩)] w (Drawn C a len cap (fun x => -1 ≤ x ∧ x ≤ 1000001) w) := by
  go_enter Tryz.func52, Tryz.ntmps52
  go_wp2_with fail
  refine (l1Once_any _ h (by omega) (by omega)).mono ?_
  rintro e w1 ⟨t, rfl, hc1, hg1⟩
  have hC : C < w1.heap.size := lt_of_cell hc1.c0
  cases t
  · go_wp2_with fail
    refine (l1Below_any _ hc1 (by omega) (by omega)).mono ?_
    rintro e w2 ⟨x, ⟨hx, hx2⟩, rfl, hc2, hg2⟩
    go_wp2
    go_ret
    exact ⟨_, ⟨by omega, by omega⟩, rfl, hc2, grown_step hg1 hg2⟩
  · go_wp2_with fail
    refine (l1Below_any _ (hc1.kept ((Below.refl _ _).alloc (Nat.le_refl _) _)) (by omega) (by omega)).mono ?_
    rintro e w2 ⟨x, ⟨hx, hx2⟩, rfl, hc2, hg2⟩
    have hg : w.grownBy w2 (some C) := grown_step hg1 (grown_step (grown_new (grown_refl _ _) _) hg2)
    have q0 := kept_cell (b := w1.heap.size) (o := 0) hg2 (by go_simp; rfl) (by omega)
    have q1 := kept_cell (b := w1.heap.size) (o := 1) hg2 (by go_simp; rfl) (by omega)
    have q2 := kept_cell (b := w1.heap.size) (o := 2) hg2 (by go_simp; rfl) (by omega)
    have q3 := kept_cell (b := w1.heap.size) (o := 3) hg2 (by go_simp; rfl) (by omega)
    clear hg1 hg2
    have hx3 : x = 0 ∨ x = 1 ∨ x = 2 ∨ x = 3 := by omega
    rcases hx3 with rfl | rfl | rfl | rfl
    all_goals
      go_wp2
      go_ret
      exact ⟨_, ⟨by omega, by omega⟩, rfl, hc2, hg⟩

end Go.Proofs.YtlnnchgaloejlaaGreat
