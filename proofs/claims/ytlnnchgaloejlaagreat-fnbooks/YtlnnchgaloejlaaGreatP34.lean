/-
  Texts joined: GivenB, DeedW, DeedX.
-/
import Derived.Test.YtlnnchgaloejlaaGreatP1
import Derived.Test.YtlnnchgaloejlaaGreatP15
import Derived.Test.YtlnnchgaloejlaaGreatP19
namespace Go.Proofs.YtlnnchgaloejlaaGreat
open Go.ChangeShapes Go.WideShapes Go.ChangeAt Go.RowKit

/-- What comes of it. -/
noncomputable def givenL (b : Bok) (fr to : ByteArray) (n : Int) : Bok × Int :=
  if bookB b = true then
    if 0 ≤ placeV (pnames b.folk) fr then
      if 0 ≤ placeV (pnames b.folk) to then
        if n < 1 then (b, 7) else
        if (fr.toList == to.toList) = true then (b, 7) else
        if payB b.folk fr n (-n) = true then
          if payB (payL b.folk fr n (-n)) to n n = true then
            (doneB b (b.wFolk (payL (payL b.folk fr n (-n)) to n n)), doneC (b.wFolk (payL (payL b.folk fr n (-n)) to n n)))
          else (b, 6)
        else (b, 4)
      else (b, 1)
    else (b, 1)
  else (bok0, 7)

set_option maxRecDepth 100000 in
set_option maxHeartbeats 16000000 in
set_option maxRecDepth 100000 in
theorem sGiven_any {w : World} {b : Bok} {s : Spots} (fr to : ByteArray) (n : Int) (h : BookAt w b s) (hr : Roots b s) (hl : BLen b) (hz : BSized b) :
    Calls Tryz.prog 127 #[.agg #[.int .i64 b.season, .int .i64 b.supply, .int .i64 b.burnt, .int .i64 b.pot, .slice s.fa b.folk.length s.fc, .slice s.ma b.mills.length s.mc, .slice s.pa b.parts.length s.pc, .slice s.wa b.waits.length s.wc], .string fr, .string to, .int .i64 n] w (ResK (givenL b fr to n).1 (givenL b fr to n).2 w.heap.size w) := by
  have HH := Lib.hid h
  have HR := Lib.hid hr
  have HL := Lib.hid hl
  have HZ := Lib.hid hz
  have l1 := hl.fl
  have l2 := hl.ml
  have l3 := hl.pl
  have l4 := hl.wl
  have XC := Lib.hid (CellB.new w b s 29)
  have D := Lib.hid (below_new w (.cells #[.int .i64 b.season, .int .i64 b.supply, .int .i64 b.burnt, .int .i64 b.pot, .slice s.fa b.folk.length s.fc, .slice s.ma b.mills.length s.mc, .slice s.pa b.parts.length s.pc, .slice s.wa b.waits.length s.wc] 29))
  obtain ⟨W0, hW0⟩ : ∃ W, w.alloc (.cells #[.int .i64 b.season, .int .i64 b.supply, .int .i64 b.burnt, .int .i64 b.pot, .slice s.fa b.folk.length s.fc, .slice s.ma b.mills.length s.mc, .slice s.pa b.parts.length s.pc, .slice s.wa b.waits.length s.wc] 29) = W := ⟨_, rfl⟩
  have hs0 : W0.heap.size = w.heap.size + 1 := by rw [← hW0]; simp
  rw [hW0] at XC D
  have bz := below_new W0 (.cells #[.int .i64 0, .int .i64 0, .int .i64 0, .int .i64 0, .slice none 0 0, .slice none 0 0, .slice none 0 0, .slice none 0 0] 29)
  have R := Lib.hid (OutV.new W0 [.int .i64 0, .int .i64 0, .int .i64 0, .int .i64 0, .slice none 0 0, .slice none 0 0, .slice none 0 0, .slice none 0 0] 29)
  obtain ⟨W1, hW1⟩ : ∃ W, W0.alloc (.cells #[.int .i64 0, .int .i64 0, .int .i64 0, .int .i64 0, .slice none 0 0, .slice none 0 0, .slice none 0 0, .slice none 0 0] 29) = W := ⟨_, rfl⟩
  rw [show W0.alloc (.cells ([.int .i64 0, .int .i64 0, .int .i64 0, .int .i64 0, .slice none 0 0, .slice none 0 0, .slice none 0 0, .slice none 0 0] : List Value).toArray 29) = W1 from hW1, hs0] at R
  rw [hW1] at bz
  replace XC := Lib.hid (XC.out.below bz)
  replace D := Lib.hid (below_trans D.out bz)
  clear bz h hr hl hz
  have x0 := XC.out.c0
  have x1 := XC.out.c1
  have x2 := XC.out.c2
  have x3 := XC.out.c3
  have x4 := XC.out.c4
  have x5 := XC.out.c5
  have x6 := XC.out.c6
  have x7 := XC.out.c7

  go_enter Tryz.func127, Tryz.ntmps127
  go_wp2_with fail
  refine (sBookOk_any (s := s) (HH.out.below D.out) HL.out HZ.out).mono ?_
  rintro e w2 ⟨rfl, hb⟩
  clear x0 x1 x2 x3 x4 x5 x6 x7
  replace XC := Lib.hid (XC.out.below hb)
  replace R := Lib.hid (R.out.below hb)
  replace D := Lib.hid (below_trans D.out hb)
  clear hb

  cases hk : bookB b
  · have HE := Lib.hid (show ResK (givenL b fr to n).1 (givenL b fr to n).2 w.heap.size w (.returned (.tuple #[.agg #[.int .i64 0, .int .i64 0, .int .i64 0, .int .i64 0, .slice none 0 0, .slice none 0 0, .slice none 0 0, .slice none 0 0], .int .i64 7])) (putB w2 (w.heap.size + 1) bok0 ⟨none, 0, none, 0, none, 0, none, 0⟩) from by
      have e : givenL b fr to n = (bok0, 7) := by rw [givenL, hk]; rfl
      rw [e]
      exact ⟨⟨none, 0, none, 0, none, 0, none, 0⟩, rfl, ownB_nil _ _ _ ⟨.inl ⟨rfl, rfl⟩, .inl ⟨rfl, rfl⟩, .inl ⟨rfl, rfl⟩, .inl ⟨rfl, rfl⟩, Nat.le_refl _, Nat.le_refl _, Nat.le_refl _, Nat.le_refl _⟩, putB_below D.out (by omega) _ _⟩)
    unfold putB at HE
    have r0 := R.out.has 0 _ rfl
    have r1 := R.out.has 1 _ rfl
    have r2 := R.out.has 2 _ rfl
    have r3 := R.out.has 3 _ rfl
    have r4 := R.out.has 4 _ rfl
    have r5 := R.out.has 5 _ rfl
    have r6 := R.out.has 6 _ rfl
    have r7 := R.out.has 7 _ rfl
    have rf := R.out.free
    go_wp2
    exact bodyPost_ret (v := .tuple #[.agg #[.int .i64 0, .int .i64 0, .int .i64 0, .int .i64 0, .slice none 0 0, .slice none 0 0, .slice none 0 0, .slice none 0 0], .int .i64 7]) (by simp [results, Tryz.results127, go_sem, r0, r1, r2, r3, r4, r5, r6, r7]) rfl HE.out
  have HN := Lib.hid (show givenL b fr to n = _ from (show givenL b fr to n = if bookB b = true then _ else _ from rfl).trans (if_pos hk))
  have HK := Lib.hid hk
  clear hk
  have x0 := XC.out.c0
  have x1 := XC.out.c1
  have x2 := XC.out.c2
  have x3 := XC.out.c3
  have x4 := XC.out.c4
  have x5 := XC.out.c5
  have x6 := XC.out.c6
  have x7 := XC.out.c7

  have hltR := R.out.lt
  go_wp2_with fail
  refine (l7Copy_sol (s := s) (HH.out.below D.out) HR.out HL.out).mono ?_
  rintro e w3 ⟨s3, rfl, ho, hb, hso⟩
  have SOs3 := Lib.hid hso
  clear x0 x1 x2 x3 x4 x5 x6 x7 hso
  have O := Lib.hid ho
  have sz3 := hb.size
  replace XC := Lib.hid (XC.out.below hb)
  replace R := Lib.hid (R.out.below hb)
  replace D := Lib.hid (below_trans D.out hb)
  clear hb

  have C := Lib.hid (CellB.new w3 b s3 29)
  have OLDs3 := Lib.hid (O.out.at.bold)
  have bV := below_new w3 (.cells #[.int .i64 b.season, .int .i64 b.supply, .int .i64 b.burnt, .int .i64 b.pot, .slice s3.fa b.folk.length s3.fc, .slice s3.ma b.mills.length s3.mc, .slice s3.pa b.parts.length s3.pc, .slice s3.wa b.waits.length s3.wc] 29)
  obtain ⟨V, hVV⟩ : ∃ V, w3.alloc (.cells #[.int .i64 b.season, .int .i64 b.supply, .int .i64 b.burnt, .int .i64 b.pot, .slice s3.fa b.folk.length s3.fc, .slice s3.ma b.mills.length s3.mc, .slice s3.pa b.parts.length s3.pc, .slice s3.wa b.waits.length s3.wc] 29) = V := ⟨_, rfl⟩
  have szV : V.heap.size = w3.heap.size + 1 := by rw [← hVV]; simp
  rw [hVV] at bV C
  clear ho
  replace O := Lib.hid (O.out.below bV)
  replace XC := Lib.hid (XC.out.below bV)
  replace R := Lib.hid (R.out.below bV)
  replace D := Lib.hid (below_trans D.out bV)
  clear bV
  have FO := Lib.hid (show FreeB V w3.heap.size from by rw [← hVV]; exact FreeB.new _ _ _)
  have x4 := XC.out.c4
  go_wp2_with fail
  refine (l3Find_any _ _ (HH.out.folk.below D.out) (by omega)).mono ?_
  rintro e w' ⟨rfl, rfl⟩
  clear x4
  by_cases hp : 0 ≤ placeV (pnames b.folk) fr
  case neg =>
    have HQ := Lib.hid (HN.out.trans (if_neg hp))
    have hlo := place_lo (pnames b.folk) fr
    have hpe : placeV (pnames b.folk) fr = -1 := by omega
    rw [hpe]
    clear hp hpe hlo
    have HE := Lib.hid (show ResK (givenL b fr to n).1 (givenL b fr to n).2 w.heap.size w (.returned (.tuple #[.agg #[.int .i64 b.season, .int .i64 b.supply, .int .i64 b.burnt, .int .i64 b.pot, .slice s3.fa b.folk.length s3.fc, .slice s3.ma b.mills.length s3.mc, .slice s3.pa b.parts.length s3.pc, .slice s3.wa b.waits.length s3.wc], .int .i64 1])) (putB V (w.heap.size + 1) b s3) from by
      have e : givenL b fr to n = (b, 1) := HQ.out
      rw [e]
      exact ⟨s3, rfl, (O.out.grown (putB_grown _ _ _ _) (by omega)).mono (by omega), putB_below D.out (by omega) _ _⟩)
    unfold putB at HE
    have y0 := C.out.c0
    have y1 := C.out.c1
    have y2 := C.out.c2
    have y3 := C.out.c3
    have y4 := C.out.c4
    have y5 := C.out.c5
    have y6 := C.out.c6
    have y7 := C.out.c7
    have r0 := R.out.has 0 _ rfl
    have r1 := R.out.has 1 _ rfl
    have r2 := R.out.has 2 _ rfl
    have r3 := R.out.has 3 _ rfl
    have r4 := R.out.has 4 _ rfl
    have r5 := R.out.has 5 _ rfl
    have r6 := R.out.has 6 _ rfl
    have r7 := R.out.has 7 _ rfl
    have rf := R.out.free
    go_wp2
    exact bodyPost_ret (v := .tuple #[.agg #[.int .i64 b.season, .int .i64 b.supply, .int .i64 b.burnt, .int .i64 b.pot, .slice s3.fa b.folk.length s3.fc, .slice s3.ma b.mills.length s3.mc, .slice s3.pa b.parts.length s3.pc, .slice s3.wa b.waits.length s3.wc], .int .i64 1]) (by simp [results, Tryz.results127, go_sem, r0, r1, r2, r3, r4, r5, r6, r7]) rfl HE.out
  replace HN := Lib.hid (HN.out.trans (if_pos hp))
  obtain ⟨k, ek, hklk, -⟩ := place_hit hp
  rw [len_pn] at hklk
  rw [ek]
  have HEk := Lib.hid ek
  clear hp ek
  have x4 := XC.out.c4
  go_wp2_with fail
  refine (l3Find_any _ _ (HH.out.folk.below D.out) (by omega)).mono ?_
  rintro e w' ⟨rfl, rfl⟩
  clear x4
  by_cases hp : 0 ≤ placeV (pnames b.folk) to
  case neg =>
    have HQ := Lib.hid (HN.out.trans (if_neg hp))
    have hlo := place_lo (pnames b.folk) to
    have hpe : placeV (pnames b.folk) to = -1 := by omega
    rw [hpe]
    clear hp hpe hlo
    have HE := Lib.hid (show ResK (givenL b fr to n).1 (givenL b fr to n).2 w.heap.size w (.returned (.tuple #[.agg #[.int .i64 b.season, .int .i64 b.supply, .int .i64 b.burnt, .int .i64 b.pot, .slice s3.fa b.folk.length s3.fc, .slice s3.ma b.mills.length s3.mc, .slice s3.pa b.parts.length s3.pc, .slice s3.wa b.waits.length s3.wc], .int .i64 1])) (putB V (w.heap.size + 1) b s3) from by
      have e : givenL b fr to n = (b, 1) := HQ.out
      rw [e]
      exact ⟨s3, rfl, (O.out.grown (putB_grown _ _ _ _) (by omega)).mono (by omega), putB_below D.out (by omega) _ _⟩)
    unfold putB at HE
    have y0 := C.out.c0
    have y1 := C.out.c1
    have y2 := C.out.c2
    have y3 := C.out.c3
    have y4 := C.out.c4
    have y5 := C.out.c5
    have y6 := C.out.c6
    have y7 := C.out.c7
    have r0 := R.out.has 0 _ rfl
    have r1 := R.out.has 1 _ rfl
    have r2 := R.out.has 2 _ rfl
    have r3 := R.out.has 3 _ rfl
    have r4 := R.out.has 4 _ rfl
    have r5 := R.out.has 5 _ rfl
    have r6 := R.out.has 6 _ rfl
    have r7 := R.out.has 7 _ rfl
    have rf := R.out.free
    go_wp2
    exact bodyPost_ret (v := .tuple #[.agg #[.int .i64 b.season, .int .i64 b.supply, .int .i64 b.burnt, .int .i64 b.pot, .slice s3.fa b.folk.length s3.fc, .slice s3.ma b.mills.length s3.mc, .slice s3.pa b.parts.length s3.pc, .slice s3.wa b.waits.length s3.wc], .int .i64 1]) (by simp [results, Tryz.results127, go_sem, r0, r1, r2, r3, r4, r5, r6, r7]) rfl HE.out
  replace HN := Lib.hid (HN.out.trans (if_pos hp))
  obtain ⟨m, ek, hklm, -⟩ := place_hit hp
  rw [len_pn] at hklm
  rw [ek]
  have HEm := Lib.hid ek
  clear hp ek
  by_cases hn1 : n < 1
  · have HQ := Lib.hid (HN.out.trans (if_pos hn1))
    have HE := Lib.hid (show ResK (givenL b fr to n).1 (givenL b fr to n).2 w.heap.size w (.returned (.tuple #[.agg #[.int .i64 b.season, .int .i64 b.supply, .int .i64 b.burnt, .int .i64 b.pot, .slice s3.fa b.folk.length s3.fc, .slice s3.ma b.mills.length s3.mc, .slice s3.pa b.parts.length s3.pc, .slice s3.wa b.waits.length s3.wc], .int .i64 7])) (putB V (w.heap.size + 1) b s3) from by
      have e : givenL b fr to n = (b, 7) := HQ.out
      rw [e]
      exact ⟨s3, rfl, (O.out.grown (putB_grown _ _ _ _) (by omega)).mono (by omega), putB_below D.out (by omega) _ _⟩)
    unfold putB at HE
    have y0 := C.out.c0
    have y1 := C.out.c1
    have y2 := C.out.c2
    have y3 := C.out.c3
    have y4 := C.out.c4
    have y5 := C.out.c5
    have y6 := C.out.c6
    have y7 := C.out.c7
    have r0 := R.out.has 0 _ rfl
    have r1 := R.out.has 1 _ rfl
    have r2 := R.out.has 2 _ rfl
    have r3 := R.out.has 3 _ rfl
    have r4 := R.out.has 4 _ rfl
    have r5 := R.out.has 5 _ rfl
    have r6 := R.out.has 6 _ rfl
    have r7 := R.out.has 7 _ rfl
    have rf := R.out.free
    go_wp2
    exact bodyPost_ret (v := .tuple #[.agg #[.int .i64 b.season, .int .i64 b.supply, .int .i64 b.burnt, .int .i64 b.pot, .slice s3.fa b.folk.length s3.fc, .slice s3.ma b.mills.length s3.mc, .slice s3.pa b.parts.length s3.pc, .slice s3.wa b.waits.length s3.wc], .int .i64 7]) (by simp [results, Tryz.results127, go_sem, r0, r1, r2, r3, r4, r5, r6, r7]) rfl HE.out
  replace HN := Lib.hid (HN.out.trans (if_neg hn1))
  cases hq : (fr.toList == to.toList)
  case true =>
    have HQ := Lib.hid (HN.out.trans (if_pos hq))
    have HE := Lib.hid (show ResK (givenL b fr to n).1 (givenL b fr to n).2 w.heap.size w (.returned (.tuple #[.agg #[.int .i64 b.season, .int .i64 b.supply, .int .i64 b.burnt, .int .i64 b.pot, .slice s3.fa b.folk.length s3.fc, .slice s3.ma b.mills.length s3.mc, .slice s3.pa b.parts.length s3.pc, .slice s3.wa b.waits.length s3.wc], .int .i64 7])) (putB V (w.heap.size + 1) b s3) from by
      have e : givenL b fr to n = (b, 7) := HQ.out
      rw [e]
      exact ⟨s3, rfl, (O.out.grown (putB_grown _ _ _ _) (by omega)).mono (by omega), putB_below D.out (by omega) _ _⟩)
    unfold putB at HE
    have y0 := C.out.c0
    have y1 := C.out.c1
    have y2 := C.out.c2
    have y3 := C.out.c3
    have y4 := C.out.c4
    have y5 := C.out.c5
    have y6 := C.out.c6
    have y7 := C.out.c7
    have r0 := R.out.has 0 _ rfl
    have r1 := R.out.has 1 _ rfl
    have r2 := R.out.has 2 _ rfl
    have r3 := R.out.has 3 _ rfl
    have r4 := R.out.has 4 _ rfl
    have r5 := R.out.has 5 _ rfl
    have r6 := R.out.has 6 _ rfl
    have r7 := R.out.has 7 _ rfl
    have rf := R.out.free
    go_wp2
    exact bodyPost_ret (v := .tuple #[.agg #[.int .i64 b.season, .int .i64 b.supply, .int .i64 b.burnt, .int .i64 b.pot, .slice s3.fa b.folk.length s3.fc, .slice s3.ma b.mills.length s3.mc, .slice s3.pa b.parts.length s3.pc, .slice s3.wa b.waits.length s3.wc], .int .i64 7]) (by simp [results, Tryz.results127, go_sem, r0, r1, r2, r3, r4, r5, r6, r7]) rfl HE.out
  replace HN := Lib.hid (HN.out.trans (if_neg (by rw [hq]; decide)))
  obtain ⟨xf, hxxf⟩ : ∃ x, s.fa = some ⟨x, 0, none⟩ := by
    rcases HR.out.f with ⟨e, -⟩ | ⟨x, e⟩
    · have := purs_none (by have := HH.out.folk; rw [e] at this; exact this)
      rw [this] at hklk; simp at hklk
    · exact ⟨x, e⟩
  have HF := Lib.hid (show Purs w (some ⟨xf, 0, none⟩) b.folk by have := HH.out.folk; rw [hxxf] at this; exact this)
  have x4 := XC.out.c4
  rw [hxxf] at x4
  clear hxxf
  have szV0 : w.heap.size + 1 + 1 ≤ w3.heap.size := by omega
  go_wp2_with fail
  refine (sSpent_cap _ fr n (HF.out.below D.out) (by omega) HZ.out.fs).mono ?_
  rintro e w4 ⟨af, cf, rfl, hpf, hof, hb, hcc⟩
  have sz4 := hb.size
  have Pf := Lib.hid (show OwnP w4 V.heap.size af (payL b.folk fr n (-n)) from ⟨hpf, hof⟩)
  have CCf := Lib.hid hcc
  clear hpf hof hcc
  replace XC := Lib.hid (XC.out.below hb)
  replace R := Lib.hid (R.out.below hb)
  replace D := Lib.hid (below_trans D.out hb)
  replace C := Lib.hid (C.out.below hb)
  replace O := Lib.hid (O.out.below hb)
  replace FO := Lib.hid (FO.out.below hb)
  clear hb
  cases hpay : payB b.folk fr n (-n)
  · have HQ := Lib.hid (HN.out.trans (if_neg (by rw [hpay]; decide)))
    have HE := Lib.hid (show ResK (givenL b fr to n).1 (givenL b fr to n).2 w.heap.size w (.returned (.tuple #[.agg #[.int .i64 b.season, .int .i64 b.supply, .int .i64 b.burnt, .int .i64 b.pot, .slice s3.fa b.folk.length s3.fc, .slice s3.ma b.mills.length s3.mc, .slice s3.pa b.parts.length s3.pc, .slice s3.wa b.waits.length s3.wc], .int .i64 4])) (putB w4 (w.heap.size + 1) b s3) from by
      have e : givenL b fr to n = (b, 4) := HQ.out
      rw [e]
      exact ⟨s3, rfl, (O.out.grown (putB_grown _ _ _ _) (by omega)).mono (by omega), putB_below D.out (by omega) _ _⟩)
    unfold putB at HE
    have y0 := C.out.c0
    have y1 := C.out.c1
    have y2 := C.out.c2
    have y3 := C.out.c3
    have y4 := C.out.c4
    have y5 := C.out.c5
    have y6 := C.out.c6
    have y7 := C.out.c7
    have r0 := R.out.has 0 _ rfl
    have r1 := R.out.has 1 _ rfl
    have r2 := R.out.has 2 _ rfl
    have r3 := R.out.has 3 _ rfl
    have r4 := R.out.has 4 _ rfl
    have r5 := R.out.has 5 _ rfl
    have r6 := R.out.has 6 _ rfl
    have r7 := R.out.has 7 _ rfl
    have rf := R.out.free
    go_wp2
    exact bodyPost_ret (v := .tuple #[.agg #[.int .i64 b.season, .int .i64 b.supply, .int .i64 b.burnt, .int .i64 b.pot, .slice s3.fa b.folk.length s3.fc, .slice s3.ma b.mills.length s3.mc, .slice s3.pa b.parts.length s3.pc, .slice s3.wa b.waits.length s3.wc], .int .i64 4]) (by simp [results, Tryz.results127, go_sem, r0, r1, r2, r3, r4, r5, r6, r7]) rfl HE.out
  replace HN := Lib.hid (HN.out.trans (if_pos hpay))
  obtain ⟨hlf, hl0, hnmf⟩ := pay_len hpay
  have HPBf := Lib.hid hpay
  have HNMf := Lib.hid hnmf
  clear hpay hnmf
  obtain ⟨f, HVf⟩ : ∃ l, Hid (payL b.folk fr n (-n) = l) := ⟨_, Lib.hid rfl⟩
  rw [HVf.out] at Pf CCf hlf HN HNMf
  rw [HVf.out]
  obtain ⟨xf, rfl⟩ := rooted_ownP Pf.out (by omega)
  have hbf : f.length ≤ 1048576 := by omega
  have hpf : 0 < f.length := by omega
  have HLNf := Lib.hid hlf
  clear hlf hl0
  have hxf0 := Pf.out.lo xf rfl (by omega)
  have hxf1 := Pf.out.hi xf rfl (by omega)
  clear x4
  go_wp2_with fail
  refine (sPaid_cap _ to n Pf.out.1 (by omega) (by rw [HNMf.out]; exact HZ.out.fs)).mono ?_
  rintro e w5 ⟨ag, cg, rfl, hpf, hof, hb, hcc⟩
  have sz5 := hb.size
  have Pg := Lib.hid (show OwnP w5 w4.heap.size ag (payL f to n n) from ⟨hpf, hof⟩)
  have CCg := Lib.hid hcc
  clear hpf hof hcc
  replace XC := Lib.hid (XC.out.below hb)
  replace R := Lib.hid (R.out.below hb)
  replace D := Lib.hid (below_trans D.out hb)
  replace C := Lib.hid (C.out.below hb)
  replace O := Lib.hid (O.out.below hb)
  replace FO := Lib.hid (FO.out.below hb)
  clear hb
  cases hpay : payB f to n n
  · have HQ := Lib.hid (HN.out.trans (if_neg (by rw [hpay]; decide)))
    have HE := Lib.hid (show ResK (givenL b fr to n).1 (givenL b fr to n).2 w.heap.size w (.returned (.tuple #[.agg #[.int .i64 b.season, .int .i64 b.supply, .int .i64 b.burnt, .int .i64 b.pot, .slice s3.fa b.folk.length s3.fc, .slice s3.ma b.mills.length s3.mc, .slice s3.pa b.parts.length s3.pc, .slice s3.wa b.waits.length s3.wc], .int .i64 6])) (putB w5 (w.heap.size + 1) b s3) from by
      have e : givenL b fr to n = (b, 6) := HQ.out
      rw [e]
      exact ⟨s3, rfl, (O.out.grown (putB_grown _ _ _ _) (by omega)).mono (by omega), putB_below D.out (by omega) _ _⟩)
    unfold putB at HE
    have y0 := C.out.c0
    have y1 := C.out.c1
    have y2 := C.out.c2
    have y3 := C.out.c3
    have y4 := C.out.c4
    have y5 := C.out.c5
    have y6 := C.out.c6
    have y7 := C.out.c7
    have r0 := R.out.has 0 _ rfl
    have r1 := R.out.has 1 _ rfl
    have r2 := R.out.has 2 _ rfl
    have r3 := R.out.has 3 _ rfl
    have r4 := R.out.has 4 _ rfl
    have r5 := R.out.has 5 _ rfl
    have r6 := R.out.has 6 _ rfl
    have r7 := R.out.has 7 _ rfl
    have rf := R.out.free
    go_wp2
    exact bodyPost_ret (v := .tuple #[.agg #[.int .i64 b.season, .int .i64 b.supply, .int .i64 b.burnt, .int .i64 b.pot, .slice s3.fa b.folk.length s3.fc, .slice s3.ma b.mills.length s3.mc, .slice s3.pa b.parts.length s3.pc, .slice s3.wa b.waits.length s3.wc], .int .i64 6]) (by simp [results, Tryz.results127, go_sem, r0, r1, r2, r3, r4, r5, r6, r7]) rfl HE.out
  replace HN := Lib.hid (HN.out.trans (if_pos hpay))
  obtain ⟨hlg, hl0, hnmg⟩ := pay_len hpay
  have HPBg := Lib.hid hpay
  have HNMg := Lib.hid hnmg
  clear hpay hnmg
  obtain ⟨g, HVg⟩ : ∃ l, Hid (payL f to n n = l) := ⟨_, Lib.hid rfl⟩
  rw [HVg.out] at Pg CCg hlg HN HNMg
  rw [HVg.out]
  obtain ⟨xg, rfl⟩ := rooted_ownP Pg.out (by omega)
  have hbg : g.length ≤ 1048576 := by omega
  have hpg : 0 < g.length := by omega
  have HLNg := Lib.hid hlg
  clear hlg hl0
  have hxg0 := Pg.out.lo xg rfl (by omega)
  have hxg1 := Pg.out.hi xg rfl (by omega)
  have y4 := C.out.c4
  have hfree := FO.out.1
  have O5 := Lib.hid (O.out.apart (gset (o := 4) (gid w5 (some w3.heap.size)) (.slice (some ⟨xg, 0, none⟩) g.length cg)) (OLDs3.out.notIn (Nat.le_refl _)))
  have P5 := Lib.hid (Pg.out.grown (gset (o := 4) (gid w5 (some w3.heap.size)) (.slice (some ⟨xg, 0, none⟩) g.length cg)) (by omega))
  have ap : ∀ (a : Option Addr) (n : Nat), (∀ x, a = some ⟨x, 0, none⟩ → 0 < n → x < w3.heap.size) → ApartN (some ⟨xg, 0, none⟩) a g.length n := fun a n hh => (apart_lt hh P5.out.lo (by omega)).symm
  replace O := Lib.hid (O5.out.wFolk (P5.out.mono (by omega)) (.inr ⟨_, rfl⟩) CCg.out (ap _ _ (fun x e h => OLDs3.out.mills x 0 e h)) (ap _ _ (fun x e h => OLDs3.out.parts x 0 e h)) (ap _ _ (fun x e h => OLDs3.out.waits x 0 e h)))
  replace C := Lib.hid (C.out.wFolk g (some ⟨xg, 0, none⟩) cg)
  clear O5 P5 ap
  have gs := gset (o := 4) (gid w5 (some w3.heap.size)) (.slice (some ⟨xg, 0, none⟩) g.length cg)
  replace XC := Lib.hid (XC.out.grown gs (by omega))
  replace R := Lib.hid (R.out.keep gs (by omega))
  replace D := Lib.hid (D.out.setCell (p := ⟨w3.heap.size, 4, none⟩) (by show w.heap.size ≤ w3.heap.size; omega) (.slice (some ⟨xg, 0, none⟩) g.length cg))
  replace FO := Lib.hid (FO.out.set ⟨w3.heap.size, 4, none⟩ (.slice (some ⟨xg, 0, none⟩) g.length cg))
  obtain ⟨V6, hVV6⟩ : ∃ W, w5.setCell ⟨w3.heap.size, 4, none⟩ (.slice (some ⟨xg, 0, none⟩) g.length cg) = W := ⟨_, rfl⟩
  have szV6 := gs.size
  rw [hVV6] at O C szV6 XC R D FO
  clear gs
  have HLO := Lib.hid (show BLen (b.wFolk g) from ⟨by show g.length ≤ 1048576; omega, HL.out.ml, HL.out.pl, HL.out.wl⟩)
  have HZO := Lib.hid (show BSized (b.wFolk g) from ⟨by show Sized (pnames g); rw [HNMg.out, HNMf.out]; exact HZ.out.fs, HZ.out.ms, HZ.out.ps, HZ.out.ws⟩)
  have hszd : w2.heap.size ≤ V6.heap.size := by omega
  have HRZ := Lib.hid (HN.out)
  obtain ⟨o, HO⟩ : ∃ o, Hid (b.wFolk g = o) := ⟨_, Lib.hid rfl⟩
  obtain ⟨t, HT⟩ : ∃ t, Hid (s3.wF (some ⟨xg, 0, none⟩) cg = t) := ⟨_, Lib.hid rfl⟩
  rw [HO.out] at C O HLO HZO HRZ
  rw [HT.out] at C O
  have x0 := XC.out.c0
  have x1 := XC.out.c1
  have x2 := XC.out.c2
  have x3 := XC.out.c3
  have x4 := XC.out.c4
  have x5 := XC.out.c5
  have x6 := XC.out.c6
  have x7 := XC.out.c7
  have y0 := C.out.c0
  have y1 := C.out.c1
  have y2 := C.out.c2
  have y3 := C.out.c3
  have y4 := C.out.c4
  have y5 := C.out.c5
  have y6 := C.out.c6
  have y7 := C.out.c7

  go_wp2_with fail
  refine (l8Done_any (b := b) (o := o) (s := s) (t := t) (HH.out.below D.out) HR.out HL.out O.out HLO.out HZO.out hszd).mono ?_
  obtain ⟨r, Hr⟩ : ∃ r, Hid (doneB b o = r) := ⟨_, Lib.hid rfl⟩
  obtain ⟨c, Hc⟩ : ∃ c, Hid (doneC o = c) := ⟨_, Lib.hid rfl⟩
  rw [Hr.out, Hc.out]
  rw [Hr.out, Hc.out] at HRZ
  rintro e w9 ⟨s9, rfl, ho, hb⟩
  replace R := Lib.hid (R.out.below hb)
  replace D := Lib.hid (below_trans D.out hb)
  have HE := Lib.hid (show ResK (givenL b fr to n).1 (givenL b fr to n).2 w.heap.size w (.returned (.tuple #[.agg #[.int .i64 r.season, .int .i64 r.supply, .int .i64 r.burnt, .int .i64 r.pot, .slice s9.fa r.folk.length s9.fc, .slice s9.ma r.mills.length s9.mc, .slice s9.pa r.parts.length s9.pc, .slice s9.wa r.waits.length s9.wc], .int .i64 c])) (putB w9 (w.heap.size + 1) r s9) from by
    rw [HRZ.out]
    exact ⟨s9, rfl, (ho.grown (putB_grown _ _ _ _) (by omega)).mono (by omega), putB_below D.out (by omega) _ _⟩)
  unfold putB at HE
  clear ho hb
  have r0 := R.out.has 0 _ rfl
  have r1 := R.out.has 1 _ rfl
  have r2 := R.out.has 2 _ rfl
  have r3 := R.out.has 3 _ rfl
  have r4 := R.out.has 4 _ rfl
  have r5 := R.out.has 5 _ rfl
  have r6 := R.out.has 6 _ rfl
  have r7 := R.out.has 7 _ rfl
  have rf := R.out.free
  go_wp2
  exact bodyPost_ret (v := .tuple #[.agg #[.int .i64 r.season, .int .i64 r.supply, .int .i64 r.burnt, .int .i64 r.pot, .slice s9.fa r.folk.length s9.fc, .slice s9.ma r.mills.length s9.mc, .slice s9.pa r.parts.length s9.pc, .slice s9.wa r.waits.length s9.wc], .int .i64 c]) (by simp [results, Tryz.results127, go_sem, r0, r1, r2, r3, r4, r5, r6, r7]) rfl HE.out
end Go.Proofs.YtlnnchgaloejlaaGreat
namespace Go.Proofs.YtlnnchgaloejlaaGreat
open Go.ChangeShapes Go.WideShapes Go.ChangeAt Go.RowKit

/-- Which letters a kind tells. -/
def tellsS (k : Int) : ByteArray := ([⟨#[77, 78]⟩, ⟨#[87]⟩, ⟨#[77, 78]⟩, ⟨#[87, 77, 78]⟩, ⟨#[87, 77, 78]⟩, ⟨#[87, 77, 84, 78]⟩, ⟨#[77, 78]⟩, ⟨#[77]⟩, ⟨#[77, 78]⟩, ⟨#[87, 84, 78]⟩, ByteArray.empty] : List ByteArray).getD (k - 1).toNat ByteArray.empty
theorem kinds {k : Int} (h1 : 1 ≤ k) (h2 : k ≤ 11) : k = 1 ∨ k = 2 ∨ k = 3 ∨ k = 4 ∨ k = 5 ∨ k = 6 ∨ k = 7 ∨ k = 8 ∨ k = 9 ∨ k = 10 ∨ k = 11 := by omega
set_option maxHeartbeats 4000000 in
set_option maxRecDepth 100000 in
theorem l15Tells_any (k : Int) (h1 : 1 ≤ k) (h2 : k ≤ 11) (w : World) :
    Calls Tryz.prog 169 #[.int .i64 k] w fun e w' => e = .returned (.string (tellsS k)) ∧ Below w.heap.size w w' := by
  rcases kinds h1 h2 with rfl | rfl | rfl | rfl | rfl | rfl | rfl | rfl | rfl | rfl | rfl
  all_goals
    clear h1 h2
    go_enter Tryz.func169, Tryz.ntmps169
    go_wp2
    go_ret
    exact ⟨rfl, below_new _ _⟩
/-- None of the first k bytes is c. -/
def NoLet (s : ByteArray) (c : Int) (k : Nat) : Prop := ∀ j (h : j < s.size), j < k → ((s[j].toNat : Int) == c) = false
instance (s : ByteArray) (c : Int) (k : Nat) : Decidable (NoLet s c k) := inferInstanceAs (Decidable (∀ j (h : j < s.size), j < k → ((s[j].toNat : Int) == c) = false))
def hasB (s : ByteArray) (c : Int) : Bool := !decide (NoLet s c s.size)
theorem has_no {s : ByteArray} {c : Int} (h : NoLet s c s.size) : hasB s c = false := by simp [hasB, h]
theorem has_yes {s : ByteArray} {c : Int} {k : Nat} (hk : k < s.size) (h : ((s[k].toNat : Int) == c) = true) : hasB s c = true := by
  have : ¬ NoLet s c s.size := fun hn => by rw [hn k hk hk] at h; cases h
  simp [hasB, this]
theorem NoLet.succ {s : ByteArray} {c : Int} {k : Nat} (h : NoLet s c k) (hk : k < s.size) (h1 : ((s[k].toNat : Int) == c) = false) : NoLet s c (k + 1) := fun j hj hlt => by
  by_cases e : j = k
  · subst e; exact h1
  · exact h j hj (by omega)
theorem tells_size (k : Int) : (tellsS k).size ≤ 4 := by
  unfold tellsS
  rcases Nat.lt_or_ge (k - 1).toNat 11 with h | h
  · generalize (k - 1).toNat = n at h
    match n, h with
    | 0, _ | 1, _ | 2, _ | 3, _ | 4, _ | 5, _ | 6, _ | 7, _ | 8, _ | 9, _ | 10, _ => decide
  · rw [List.getD_eq_getElem?_getD, List.getElem?_eq_none (by simpa using h)]; decide
set_option maxHeartbeats 4000000 in
set_option maxRecDepth 100000 in
theorem l15Has_any (k c : Int) (h1 : 1 ≤ k) (h2 : k ≤ 11) (w : World) :
    Calls Tryz.prog 148 #[.int .i64 k, .int .u8 c] w fun e w' => e = .returned (.bool (hasB (tellsS k) c)) ∧ Below w.heap.size w w' := by
  obtain ⟨s, hs⟩ : ∃ s, tellsS k = s := ⟨_, rfl⟩
  have hsz := tells_size k
  rw [hs] at hsz
  have HS := Lib.hid hs
  rw [hs]
  clear hs
  go_enter Tryz.func148, Tryz.ntmps148
  go_wp2_with fail
  refine (l15Tells_any k h1 h2 _).mono ?_
  rintro e w1 ⟨rfl, hb1⟩
  have HB := Lib.hid hb1
  clear hb1
  rw [HS.out]
  go_wp2_with fail
  go_loopw [6] (fun i w' => ∃ j : Nat, j ≤ s.size ∧ i = .int .i64 j ∧ w1 = w' ∧ NoLet s c j) (fun i _ => s.size - (intOf i).toNat)
  case atStart => exact ⟨0, Nat.zero_le _, rfl, rfl, fun _ _ h => by omega⟩
  case round =>
    obtain ⟨j, hj, rfl, rfl, hu⟩ := hrel
    have HU := Lib.hid hu
    clear hu
    by_cases hlt : j < s.size
    · cases hq : ((s[j].toNat : Int) == c)
      · have HN := Lib.hid (HU.out.succ hlt hq)
        go_wp2
        go_roundw
        case rel => exact ⟨j + 1, by omega, by go_num, by first | rfl | trivial, HN.out⟩
        case measure => simp [intOf]; omega
      · have HN := Lib.hid (has_yes hlt hq)
        go_wp2
        go_ret
        exact ⟨by rw [HN.out]; rfl, HB.out⟩
    · obtain rfl : j = s.size := by omega
      have HN := Lib.hid (has_no HU.out)
      go_wp2
      go_ret
      exact ⟨by rw [HN.out]; rfl, HB.out⟩
/-- A name where it is told, else nothing. -/
def nameIs (s : ByteArray) (t : Bool) : Bool := if t = true then nameB s else (s.toList == [])
set_option maxHeartbeats 1000000 in
set_option maxRecDepth 100000 in
theorem l15Name_any (s : ByteArray) (t : Bool) (w : World) (hs : s.size ≤ maxLen) :
    Calls Tryz.prog 149 #[.string s, .bool t] w fun e w' => e = .returned (.bool (nameIs s t)) ∧ w = w' := by
  cases t
  · cases hq : (s.toList == [])
    all_goals
      have HN := Lib.hid (show nameIs s false = _ from (if_neg (by decide)).trans hq)
      go_enter Tryz.func149, Tryz.ntmps149
      go_wp2
      go_ret
      exact ⟨by rw [HN.out]; rfl, rfl⟩
  · have HN := Lib.hid (show nameIs s true = nameB s from if_pos rfl)
    go_enter Tryz.func149, Tryz.ntmps149
    go_wp2_with fail
    refine (sNameOk_any s _ hs).mono ?_
    rintro e w' ⟨rfl, rfl⟩
    go_wp2
    go_ret
    exact ⟨by rw [HN.out]; rfl, rfl⟩
end Go.Proofs.YtlnnchgaloejlaaGreat
namespace Go.Proofs.YtlnnchgaloejlaaGreat
open Go.ChangeShapes Go.WideShapes Go.ChangeAt Go.RowKit

def mostN (k : Int) : Int := if hasB (tellsS k) 78 = true then 999999999 else 0
/-- Is it a right deed? -/
def deedB (d : Dee) : Bool := inB 1 11 d.kind && (nameIs d.who (hasB (tellsS d.kind) 87) && (nameIs d.mill (hasB (tellsS d.kind) 77) && (nameIs d.to (hasB (tellsS d.kind) 84) && inB 0 (mostN d.kind) d.n)))
section
variable {d : Dee}
theorem deed_k (h : inB 1 11 d.kind = false) : deedB d = false := by simp [deedB, h]
theorem deed_w (h : nameIs d.who (hasB (tellsS d.kind) 87) = false) : deedB d = false := by simp [deedB, h]
theorem deed_m (h : nameIs d.mill (hasB (tellsS d.kind) 77) = false) : deedB d = false := by simp [deedB, h]
theorem deed_t (h : nameIs d.to (hasB (tellsS d.kind) 84) = false) : deedB d = false := by simp [deedB, h]
theorem deed_n (h : inB 0 (mostN d.kind) d.n = false) : deedB d = false := by simp [deedB, h]
theorem deed_yes (h1 : inB 1 11 d.kind = true) (h2 : nameIs d.who (hasB (tellsS d.kind) 87) = true) (h3 : nameIs d.mill (hasB (tellsS d.kind) 77) = true) (h4 : nameIs d.to (hasB (tellsS d.kind) 84) = true) (h5 : inB 0 (mostN d.kind) d.n = true) : deedB d = true := by
  rw [deedB, h1, h2, h3, h4, h5]; rfl
theorem deed_true (h : deedB d = true) : (1 ≤ d.kind ∧ d.kind ≤ 11) ∧ nameIs d.who (hasB (tellsS d.kind) 87) = true ∧ nameIs d.mill (hasB (tellsS d.kind) 77) = true ∧ nameIs d.to (hasB (tellsS d.kind) 84) = true ∧ inB 0 (mostN d.kind) d.n = true := by
  simp only [deedB, Bool.and_eq_true] at h
  exact ⟨inB_true h.1, h.2⟩
theorem deed_cases (h : inB 1 11 d.kind = true) : (nameIs d.who (hasB (tellsS d.kind) 87) = false ∧ deedB d = false) ∨ (nameIs d.who (hasB (tellsS d.kind) 87) = true ∧ nameIs d.mill (hasB (tellsS d.kind) 77) = false ∧ deedB d = false) ∨ (nameIs d.who (hasB (tellsS d.kind) 87) = true ∧ nameIs d.mill (hasB (tellsS d.kind) 77) = true ∧ nameIs d.to (hasB (tellsS d.kind) 84) = false ∧ deedB d = false) ∨ (nameIs d.who (hasB (tellsS d.kind) 87) = true ∧ nameIs d.mill (hasB (tellsS d.kind) 77) = true ∧ nameIs d.to (hasB (tellsS d.kind) 84) = true ∧ inB 0 (mostN d.kind) d.n = false ∧ deedB d = false) ∨ (nameIs d.who (hasB (tellsS d.kind) 87) = true ∧ nameIs d.mill (hasB (tellsS d.kind) 77) = true ∧ nameIs d.to (hasB (tellsS d.kind) 84) = true ∧ inB 0 (mostN d.kind) d.n = true ∧ deedB d = true) := by
  cases q1 : nameIs d.who (hasB (tellsS d.kind) 87)
  · exact .inl ⟨rfl, deed_w q1⟩
  cases q2 : nameIs d.mill (hasB (tellsS d.kind) 77)
  · exact .inr (.inl ⟨rfl, rfl, deed_m q2⟩)
  cases q3 : nameIs d.to (hasB (tellsS d.kind) 84)
  · exact .inr (.inr (.inl ⟨rfl, rfl, rfl, deed_t q3⟩))
  cases q4 : inB 0 (mostN d.kind) d.n
  · exact .inr (.inr (.inr (.inl ⟨rfl, rfl, rfl, rfl, deed_n q4⟩)))
  · exact .inr (.inr (.inr (.inr ⟨rfl, rfl, rfl, rfl, deed_yes h q1 q2 q3 q4⟩)))
end

set_option maxHeartbeats 8000000 in
set_option maxRecDepth 100000 in
theorem sDeedOk_any (k n : Int) (who mill to : ByteArray) (w : World) (h1 : who.size ≤ maxLen) (h2 : mill.size ≤ maxLen) (h3 : to.size ≤ maxLen) :
    Calls Tryz.prog 118 #[.agg #[.int .i64 k, .string who, .string mill, .string to, .int .i64 n]] w fun e w' => e = .returned (.bool (deedB ⟨k, who, mill, to, n⟩)) ∧ Below w.heap.size w w' := by
  have HS1 := Lib.hid h1
  have HS2 := Lib.hid h2
  have HS3 := Lib.hid h3
  clear h1 h2 h3
  have HX := Lib.hid (RecAt.new Dee.cs w ⟨k, who, mill, to, n⟩ 108)
  have B0 := Lib.hid (below_new w (.cells #[.int .i64 k, .string who, .string mill, .string to, .int .i64 n] 108))
  obtain ⟨W, hW⟩ : ∃ W, w.alloc (.cells #[.int .i64 k, .string who, .string mill, .string to, .int .i64 n] 108) = W := ⟨_, rfl⟩
  rw [show w.alloc (.cells (Dee.cs ⟨k, who, mill, to, n⟩).toArray 108) = W from hW] at HX
  rw [hW] at B0
  have c0 := HX.out 0 _ rfl
  go_enter Tryz.func118, Tryz.ntmps118
  go_wp2_with fail
  refine (l1In_any _ _ _ _).mono ?_
  rintro e w' ⟨rfl, rfl⟩
  cases hk : inB 1 11 k
  · have HN := Lib.hid (deed_k (d := ⟨k, who, mill, to, n⟩) hk)
    go_wp2
    go_ret
    exact ⟨by rw [HN.out]; rfl, B0.out⟩
  have HK := Lib.hid (inB_true hk)
  have HKB := Lib.hid hk
  clear hk
  go_wp2_with fail
  refine (l15Has_any k 78 HK.out.1 HK.out.2 _).mono ?_
  rintro e w1 ⟨rfl, hb1⟩
  have HX1 := Lib.hid (HX.out.below hb1)
  have B1 := Lib.hid (below_trans B0.out hb1)
  clear hb1 HX B0 c0 hW
  have g0 := Grow.cell (HX1.out 0 _ rfl)
  have g1 := Grow.cell (HX1.out 1 _ rfl)
  have g2 := Grow.cell (HX1.out 2 _ rfl)
  have g3 := Grow.cell (HX1.out 3 _ rfl)
  have g4 := Grow.cell (HX1.out 4 _ rfl)
  clear HX1
  obtain ⟨most, hm⟩ : ∃ m, mostN k = m := ⟨_, rfl⟩
  have HM := Lib.hid hm
  cases hn : hasB (tellsS k) 78
  case' false => have hmv : most = 0 := by rw [← hm, mostN, hn]; rfl
  case' true => have hmv : most = 999999999 := by rw [← hm, mostN, hn]; rfl
  all_goals
    subst hmv
    clear hm hn
    rcases deed_cases (d := ⟨k, who, mill, to, n⟩) HKB.out with ⟨q1, hn⟩ | ⟨q1, q2, hn⟩ | ⟨q1, q2, q3, hn⟩ | ⟨q1, q2, q3, q4, hn⟩ | ⟨q1, q2, q3, q4, hn⟩
    all_goals
      have HN := Lib.hid hn
      clear hn
      (try simp only at q4)
      (try simp only at q3)
      (try simp only at q2)
      simp only at q1
      (try rw [HM.out] at q4)
      (try have Q4 := Lib.hid q4)
      (try have Q3 := Lib.hid q3)
      (try have Q2 := Lib.hid q2)
      have Q1 := Lib.hid q1
      obtain ⟨b1, e1⟩ : ∃ b, hasB (tellsS k) 87 = b := ⟨_, rfl⟩
      obtain ⟨b2, e2⟩ : ∃ b, hasB (tellsS k) 77 = b := ⟨_, rfl⟩
      obtain ⟨b3, e3⟩ : ∃ b, hasB (tellsS k) 84 = b := ⟨_, rfl⟩
      have E1 := Lib.hid e1
      have E2 := Lib.hid e2
      have E3 := Lib.hid e3
      rw [e1] at q1 Q1
      (try rw [e2] at q2 Q2)
      (try rw [e3] at q3 Q3)
      clear e1 e2 e3
      go_wp2
      refine wp_region_grow (by kernel_rfl) (by kernel_rfl) ?_
      repeat (go_big_quiet_step (first
        | (go_at_call 148; first
          | (with_reducible exact grow_call (bool_is E1.out) (l15Has_any k 87 HK.out.1 HK.out.2 _))
          | (with_reducible exact grow_call (bool_is E2.out) (l15Has_any k 77 HK.out.1 HK.out.2 _))
          | (with_reducible exact grow_call (bool_is E3.out) (l15Has_any k 84 HK.out.1 HK.out.2 _)))
        | (go_at_call 149; first
          | (with_reducible exact grow_same (bool_is Q1.out) (l15Name_any who b1 _ HS1.out))
          | (with_reducible exact grow_same (bool_is Q2.out) (l15Name_any mill b2 _ HS2.out))
          | (with_reducible exact grow_same (bool_is Q3.out) (l15Name_any to b3 _ HS3.out)))
        | (go_at_call 66; exact grow_same (bool_is Q4.out) (l1In_any _ _ _ _))))
      refine wpQuiet_nil ?_
      intro _ hw'
      obtain ⟨gq, rfl⟩ := hw'
      have HB2 := Lib.hid (below_trans B1.out gq.ok)
      go_wp2
      go_ret
      exact ⟨by rw [HN.out]; rfl, HB2.out⟩
end Go.Proofs.YtlnnchgaloejlaaGreat
