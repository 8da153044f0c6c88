/-
  Texts joined: ShiftB, LooseB.
-/
import Derived.Test.YtlnnchgaloejlaaGreatP17
import Derived.Test.YtlnnchgaloejlaaGreatP24
import Derived.Test.YtlnnchgaloejlaaGreatP32
namespace Go.Proofs.YtlnnchgaloejlaaGreat
open Go.ChangeShapes Go.WideShapes Go.ChangeAt Go.RowKit

/-- What comes of it. -/
noncomputable def shiftL (b : Bok) (who fr to : ByteArray) (n : Int) : Bok × Int :=
  if bookB b = true then
    if 0 ≤ placeV (mnames b.mills) fr then
      if 0 ≤ placeV (mnames b.mills) to then
        if 0 ≤ placeV (pnames b.folk) who then
          if n < 1 then (b, 7) else
          if (fr.toList == to.toList) = true then (b, 7) else
          if sharesOfV b.parts who fr < n then (b, 4) else
          if (b.mills.getD (placeV (mnames b.mills) to).toNat mil0).shut = true then (b, 3) else
          if (worthV (b.mills.getD (placeV (mnames b.mills) fr).toNat mil0) n) < 1 then (b, 5) else
          if lendC (lessX b who (placeV (mnames b.mills) fr).toNat n) who (placeV (mnames b.mills) to).toNat (worthV (b.mills.getD (placeV (mnames b.mills) fr).toNat mil0) n) = 0 then (doneB b (lendX (lessX b who (placeV (mnames b.mills) fr).toNat n) who (placeV (mnames b.mills) to).toNat (worthV (b.mills.getD (placeV (mnames b.mills) fr).toNat mil0) n)), doneC (lendX (lessX b who (placeV (mnames b.mills) fr).toNat n) who (placeV (mnames b.mills) to).toNat (worthV (b.mills.getD (placeV (mnames b.mills) fr).toNat mil0) n)))
          else (b, lendC (lessX b who (placeV (mnames b.mills) fr).toNat n) who (placeV (mnames b.mills) to).toNat (worthV (b.mills.getD (placeV (mnames b.mills) fr).toNat mil0) n))
        else (b, 1)
      else (b, 1)
    else (b, 1)
  else (bok0, 7)

set_option maxRecDepth 100000 in
set_option maxHeartbeats 16000000 in
set_option maxRecDepth 100000 in
theorem sShifted_any {w : World} {b : Bok} {s : Spots} (who fr to : ByteArray) (n : Int) (h : BookAt w b s) (hr : Roots b s) (hl : BLen b) (hz : BSized b) (hw : who.size ≤ maxLen) :
    Calls Tryz.prog 123 #[.agg #[.int .i64 b.season, .int .i64 b.supply, .int .i64 b.burnt, .int .i64 b.pot, .slice s.fa b.folk.length s.fc, .slice s.ma b.mills.length s.mc, .slice s.pa b.parts.length s.pc, .slice s.wa b.waits.length s.wc], .string who, .string fr, .string to, .int .i64 n] w (ResK (shiftL b who fr to n).1 (shiftL b who fr to n).2 w.heap.size w) := by
  have HW := Lib.hid hw
  clear hw
  have HH := Lib.hid h
  have HR := Lib.hid hr
  have HL := Lib.hid hl
  have HZ := Lib.hid hz
  have l1 := hl.fl
  have l2 := hl.ml
  have l3 := hl.pl
  have l4 := hl.wl
  have XC := Lib.hid (CellB.new w b s 29)
  have D := Lib.hid (below_new w (.cells #[.int .i64 b.season, .int .i64 b.supply, .int .i64 b.burnt, .int .i64 b.pot, .slice s.fa b.folk.length s.fc, .slice s.ma b.mills.length s.mc, .slice s.pa b.parts.length s.pc, .slice s.wa b.waits.length s.wc] 29))
  obtain ⟨W0, hW0⟩ : ∃ W, w.alloc (.cells #[.int .i64 b.season, .int .i64 b.supply, .int .i64 b.burnt, .int .i64 b.pot, .slice s.fa b.folk.length s.fc, .slice s.ma b.mills.length s.mc, .slice s.pa b.parts.length s.pc, .slice s.wa b.waits.length s.wc] 29) = W := ⟨_, rfl⟩
  have hs0 : W0.heap.size = w.heap.size + 1 := by rw [← hW0]; simp
  rw [hW0] at XC D
  have bz := below_new W0 (.cells #[.int .i64 0, .int .i64 0, .int .i64 0, .int .i64 0, .slice none 0 0, .slice none 0 0, .slice none 0 0, .slice none 0 0] 29)
  have R := Lib.hid (OutV.new W0 [.int .i64 0, .int .i64 0, .int .i64 0, .int .i64 0, .slice none 0 0, .slice none 0 0, .slice none 0 0, .slice none 0 0] 29)
  obtain ⟨W1, hW1⟩ : ∃ W, W0.alloc (.cells #[.int .i64 0, .int .i64 0, .int .i64 0, .int .i64 0, .slice none 0 0, .slice none 0 0, .slice none 0 0, .slice none 0 0] 29) = W := ⟨_, rfl⟩
  rw [show W0.alloc (.cells ([.int .i64 0, .int .i64 0, .int .i64 0, .int .i64 0, .slice none 0 0, .slice none 0 0, .slice none 0 0, .slice none 0 0] : List Value).toArray 29) = W1 from hW1, hs0] at R
  rw [hW1] at bz
  replace XC := Lib.hid (XC.out.below bz)
  replace D := Lib.hid (below_trans D.out bz)
  clear bz h hr hl hz
  have x0 := XC.out.c0
  have x1 := XC.out.c1
  have x2 := XC.out.c2
  have x3 := XC.out.c3
  have x4 := XC.out.c4
  have x5 := XC.out.c5
  have x6 := XC.out.c6
  have x7 := XC.out.c7

  go_enter Tryz.func123, Tryz.ntmps123
  go_wp2_with fail
  refine (sBookOk_any (s := s) (HH.out.below D.out) HL.out HZ.out).mono ?_
  rintro e w2 ⟨rfl, hb⟩
  clear x0 x1 x2 x3 x4 x5 x6 x7
  replace XC := Lib.hid (XC.out.below hb)
  replace R := Lib.hid (R.out.below hb)
  replace D := Lib.hid (below_trans D.out hb)
  clear hb

  cases hk : bookB b
  · have HE := Lib.hid (show ResK (shiftL b who fr to n).1 (shiftL b who fr to n).2 w.heap.size w (.returned (.tuple #[.agg #[.int .i64 0, .int .i64 0, .int .i64 0, .int .i64 0, .slice none 0 0, .slice none 0 0, .slice none 0 0, .slice none 0 0], .int .i64 7])) (putB w2 (w.heap.size + 1) bok0 ⟨none, 0, none, 0, none, 0, none, 0⟩) from by
      have e : shiftL b who fr to n = (bok0, 7) := by rw [shiftL, hk]; rfl
      rw [e]
      exact ⟨⟨none, 0, none, 0, none, 0, none, 0⟩, rfl, ownB_nil _ _ _ ⟨.inl ⟨rfl, rfl⟩, .inl ⟨rfl, rfl⟩, .inl ⟨rfl, rfl⟩, .inl ⟨rfl, rfl⟩, Nat.le_refl _, Nat.le_refl _, Nat.le_refl _, Nat.le_refl _⟩, putB_below D.out (by omega) _ _⟩)
    unfold putB at HE
    have r0 := R.out.has 0 _ rfl
    have r1 := R.out.has 1 _ rfl
    have r2 := R.out.has 2 _ rfl
    have r3 := R.out.has 3 _ rfl
    have r4 := R.out.has 4 _ rfl
    have r5 := R.out.has 5 _ rfl
    have r6 := R.out.has 6 _ rfl
    have r7 := R.out.has 7 _ rfl
    have rf := R.out.free
    go_wp2
    exact bodyPost_ret (v := .tuple #[.agg #[.int .i64 0, .int .i64 0, .int .i64 0, .int .i64 0, .slice none 0 0, .slice none 0 0, .slice none 0 0, .slice none 0 0], .int .i64 7]) (by simp [results, Tryz.results123, go_sem, r0, r1, r2, r3, r4, r5, r6, r7]) rfl HE.out
  have HN := Lib.hid (show shiftL b who fr to n = _ from (show shiftL b who fr to n = if bookB b = true then _ else _ from rfl).trans (if_pos hk))
  have HK := Lib.hid hk
  clear hk
  have x0 := XC.out.c0
  have x1 := XC.out.c1
  have x2 := XC.out.c2
  have x3 := XC.out.c3
  have x4 := XC.out.c4
  have x5 := XC.out.c5
  have x6 := XC.out.c6
  have x7 := XC.out.c7

  have hltR3 := R.out.lt
  go_wp2_with fail
  refine (l7Copy_sol (s := s) (HH.out.below D.out) HR.out HL.out).mono ?_
  rintro e w3 ⟨s3, rfl, ho, hb, hso⟩
  clear x0 x1 x2 x3 x4 x5 x6 x7
  have sz3 := hb.size
  have MO := Lib.hid (MineB.copy ho hso hb.size 29)
  have OLDs3 := Lib.hid (ho.at.bold)
  clear ho hso
  replace XC := Lib.hid (XC.out.below hb)
  replace R := Lib.hid (R.out.below hb)
  replace D := Lib.hid (below_trans D.out hb)
  clear hb

  have bV := below_new w3 (.cells #[.int .i64 b.season, .int .i64 b.supply, .int .i64 b.burnt, .int .i64 b.pot, .slice s3.fa b.folk.length s3.fc, .slice s3.ma b.mills.length s3.mc, .slice s3.pa b.parts.length s3.pc, .slice s3.wa b.waits.length s3.wc] 29)
  obtain ⟨V, hVV⟩ : ∃ V, w3.alloc (.cells #[.int .i64 b.season, .int .i64 b.supply, .int .i64 b.burnt, .int .i64 b.pot, .slice s3.fa b.folk.length s3.fc, .slice s3.ma b.mills.length s3.mc, .slice s3.pa b.parts.length s3.pc, .slice s3.wa b.waits.length s3.wc] 29) = V := ⟨_, rfl⟩
  have szV : w3.heap.size < V.heap.size := by rw [← hVV]; simp
  rw [hVV] at bV MO
  replace XC := Lib.hid (XC.out.below bV)
  replace R := Lib.hid (R.out.below bV)
  replace D := Lib.hid (below_trans D.out bV)
  clear bV
  have x5 := XC.out.c5
  go_wp2_with fail
  refine (l4Find_any _ _ (HH.out.mills.below D.out) (by omega)).mono ?_
  rintro e w' ⟨rfl, rfl⟩
  go_wp2_with fail
  refine (l4Find_any _ _ (HH.out.mills.below D.out) (by omega)).mono ?_
  rintro e w' ⟨rfl, rfl⟩
  clear x5
  by_cases hp : 0 ≤ placeV (mnames b.mills) fr
  case neg =>
    have HQ := Lib.hid (HN.out.trans (if_neg hp))
    have hlo := place_lo (mnames b.mills) fr
    have hpe : placeV (mnames b.mills) fr = -1 := by omega
    rw [hpe]
    clear hp hpe hlo
    have HE := Lib.hid (show ResK (shiftL b who fr to n).1 (shiftL b who fr to n).2 w.heap.size w (.returned (.tuple #[.agg #[.int .i64 b.season, .int .i64 b.supply, .int .i64 b.burnt, .int .i64 b.pot, .slice s3.fa b.folk.length s3.fc, .slice s3.ma b.mills.length s3.mc, .slice s3.pa b.parts.length s3.pc, .slice s3.wa b.waits.length s3.wc], .int .i64 1])) (putB V (w.heap.size + 1) b s3) from by
      have e : shiftL b who fr to n = (b, 1) := HQ.out
      rw [e]
      exact ⟨s3, rfl, (MO.out.o.grown (putB_grown _ _ _ _) (by omega)).mono (by omega), putB_below D.out (by omega) _ _⟩)
    unfold putB at HE
    have y0 := MO.out.c.c0
    have y1 := MO.out.c.c1
    have y2 := MO.out.c.c2
    have y3 := MO.out.c.c3
    have y4 := MO.out.c.c4
    have y5 := MO.out.c.c5
    have y6 := MO.out.c.c6
    have y7 := MO.out.c.c7
    have r0 := R.out.has 0 _ rfl
    have r1 := R.out.has 1 _ rfl
    have r2 := R.out.has 2 _ rfl
    have r3 := R.out.has 3 _ rfl
    have r4 := R.out.has 4 _ rfl
    have r5 := R.out.has 5 _ rfl
    have r6 := R.out.has 6 _ rfl
    have r7 := R.out.has 7 _ rfl
    have rf := R.out.free
    go_wp2
    exact bodyPost_ret (v := .tuple #[.agg #[.int .i64 b.season, .int .i64 b.supply, .int .i64 b.burnt, .int .i64 b.pot, .slice s3.fa b.folk.length s3.fc, .slice s3.ma b.mills.length s3.mc, .slice s3.pa b.parts.length s3.pc, .slice s3.wa b.waits.length s3.wc], .int .i64 1]) (by simp [results, Tryz.results123, go_sem, r0, r1, r2, r3, r4, r5, r6, r7]) rfl HE.out
  replace HN := Lib.hid (HN.out.trans (if_pos hp))
  obtain ⟨k, ek, hklk, -⟩ := place_hit hp
  rw [len_mn] at hklk
  rw [ek]
  have HEk := Lib.hid ek
  clear hp ek
  by_cases hp : 0 ≤ placeV (mnames b.mills) to
  case neg =>
    have HQ := Lib.hid (HN.out.trans (if_neg hp))
    have hlo := place_lo (mnames b.mills) to
    have hpe : placeV (mnames b.mills) to = -1 := by omega
    rw [hpe]
    clear hp hpe hlo
    have HE := Lib.hid (show ResK (shiftL b who fr to n).1 (shiftL b who fr to n).2 w.heap.size w (.returned (.tuple #[.agg #[.int .i64 b.season, .int .i64 b.supply, .int .i64 b.burnt, .int .i64 b.pot, .slice s3.fa b.folk.length s3.fc, .slice s3.ma b.mills.length s3.mc, .slice s3.pa b.parts.length s3.pc, .slice s3.wa b.waits.length s3.wc], .int .i64 1])) (putB V (w.heap.size + 1) b s3) from by
      have e : shiftL b who fr to n = (b, 1) := HQ.out
      rw [e]
      exact ⟨s3, rfl, (MO.out.o.grown (putB_grown _ _ _ _) (by omega)).mono (by omega), putB_below D.out (by omega) _ _⟩)
    unfold putB at HE
    have y0 := MO.out.c.c0
    have y1 := MO.out.c.c1
    have y2 := MO.out.c.c2
    have y3 := MO.out.c.c3
    have y4 := MO.out.c.c4
    have y5 := MO.out.c.c5
    have y6 := MO.out.c.c6
    have y7 := MO.out.c.c7
    have r0 := R.out.has 0 _ rfl
    have r1 := R.out.has 1 _ rfl
    have r2 := R.out.has 2 _ rfl
    have r3 := R.out.has 3 _ rfl
    have r4 := R.out.has 4 _ rfl
    have r5 := R.out.has 5 _ rfl
    have r6 := R.out.has 6 _ rfl
    have r7 := R.out.has 7 _ rfl
    have rf := R.out.free
    go_wp2
    exact bodyPost_ret (v := .tuple #[.agg #[.int .i64 b.season, .int .i64 b.supply, .int .i64 b.burnt, .int .i64 b.pot, .slice s3.fa b.folk.length s3.fc, .slice s3.ma b.mills.length s3.mc, .slice s3.pa b.parts.length s3.pc, .slice s3.wa b.waits.length s3.wc], .int .i64 1]) (by simp [results, Tryz.results123, go_sem, r0, r1, r2, r3, r4, r5, r6, r7]) rfl HE.out
  replace HN := Lib.hid (HN.out.trans (if_pos hp))
  obtain ⟨j, ek, hklj, -⟩ := place_hit hp
  rw [len_mn] at hklj
  rw [ek]
  have HEj := Lib.hid ek
  clear hp ek
  have HKTk := Lib.hid (show (placeV (mnames b.mills) fr).toNat = k by rw [HEk.out]; omega)
  have HGDk := Lib.hid (show b.mills.getD (placeV (mnames b.mills) fr).toNat mil0 = b.mills[k] by rw [HKTk.out, getD_mil hklk])
  have HKTj := Lib.hid (show (placeV (mnames b.mills) to).toNat = j by rw [HEj.out]; omega)
  have HGDj := Lib.hid (show b.mills.getD (placeV (mnames b.mills) to).toNat mil0 = b.mills[j] by rw [HKTj.out, getD_mil hklj])
  have x4 := XC.out.c4
  go_wp2_with fail
  refine (l3Find_any _ _ (HH.out.folk.below D.out) (by omega)).mono ?_
  rintro e w' ⟨rfl, rfl⟩
  clear x4
  by_cases hp : 0 ≤ placeV (pnames b.folk) who
  case neg =>
    have HQ := Lib.hid (HN.out.trans (if_neg hp))
    have hlo := place_lo (pnames b.folk) who
    have hpe : placeV (pnames b.folk) who = -1 := by omega
    rw [hpe]
    clear hp hpe hlo
    have HE := Lib.hid (show ResK (shiftL b who fr to n).1 (shiftL b who fr to n).2 w.heap.size w (.returned (.tuple #[.agg #[.int .i64 b.season, .int .i64 b.supply, .int .i64 b.burnt, .int .i64 b.pot, .slice s3.fa b.folk.length s3.fc, .slice s3.ma b.mills.length s3.mc, .slice s3.pa b.parts.length s3.pc, .slice s3.wa b.waits.length s3.wc], .int .i64 1])) (putB V (w.heap.size + 1) b s3) from by
      have e : shiftL b who fr to n = (b, 1) := HQ.out
      rw [e]
      exact ⟨s3, rfl, (MO.out.o.grown (putB_grown _ _ _ _) (by omega)).mono (by omega), putB_below D.out (by omega) _ _⟩)
    unfold putB at HE
    have y0 := MO.out.c.c0
    have y1 := MO.out.c.c1
    have y2 := MO.out.c.c2
    have y3 := MO.out.c.c3
    have y4 := MO.out.c.c4
    have y5 := MO.out.c.c5
    have y6 := MO.out.c.c6
    have y7 := MO.out.c.c7
    have r0 := R.out.has 0 _ rfl
    have r1 := R.out.has 1 _ rfl
    have r2 := R.out.has 2 _ rfl
    have r3 := R.out.has 3 _ rfl
    have r4 := R.out.has 4 _ rfl
    have r5 := R.out.has 5 _ rfl
    have r6 := R.out.has 6 _ rfl
    have r7 := R.out.has 7 _ rfl
    have rf := R.out.free
    go_wp2
    exact bodyPost_ret (v := .tuple #[.agg #[.int .i64 b.season, .int .i64 b.supply, .int .i64 b.burnt, .int .i64 b.pot, .slice s3.fa b.folk.length s3.fc, .slice s3.ma b.mills.length s3.mc, .slice s3.pa b.parts.length s3.pc, .slice s3.wa b.waits.length s3.wc], .int .i64 1]) (by simp [results, Tryz.results123, go_sem, r0, r1, r2, r3, r4, r5, r6, r7]) rfl HE.out
  replace HN := Lib.hid (HN.out.trans (if_pos hp))
  obtain ⟨m, ek, hklm, -⟩ := place_hit hp
  rw [len_pn] at hklm
  rw [ek]
  have HEm := Lib.hid ek
  clear hp ek
  by_cases hn1 : n < 1
  · have HQ := Lib.hid (HN.out.trans (if_pos hn1))
    have HE := Lib.hid (show ResK (shiftL b who fr to n).1 (shiftL b who fr to n).2 w.heap.size w (.returned (.tuple #[.agg #[.int .i64 b.season, .int .i64 b.supply, .int .i64 b.burnt, .int .i64 b.pot, .slice s3.fa b.folk.length s3.fc, .slice s3.ma b.mills.length s3.mc, .slice s3.pa b.parts.length s3.pc, .slice s3.wa b.waits.length s3.wc], .int .i64 7])) (putB V (w.heap.size + 1) b s3) from by
      have e : shiftL b who fr to n = (b, 7) := HQ.out
      rw [e]
      exact ⟨s3, rfl, (MO.out.o.grown (putB_grown _ _ _ _) (by omega)).mono (by omega), putB_below D.out (by omega) _ _⟩)
    unfold putB at HE
    have y0 := MO.out.c.c0
    have y1 := MO.out.c.c1
    have y2 := MO.out.c.c2
    have y3 := MO.out.c.c3
    have y4 := MO.out.c.c4
    have y5 := MO.out.c.c5
    have y6 := MO.out.c.c6
    have y7 := MO.out.c.c7
    have r0 := R.out.has 0 _ rfl
    have r1 := R.out.has 1 _ rfl
    have r2 := R.out.has 2 _ rfl
    have r3 := R.out.has 3 _ rfl
    have r4 := R.out.has 4 _ rfl
    have r5 := R.out.has 5 _ rfl
    have r6 := R.out.has 6 _ rfl
    have r7 := R.out.has 7 _ rfl
    have rf := R.out.free
    go_wp2
    exact bodyPost_ret (v := .tuple #[.agg #[.int .i64 b.season, .int .i64 b.supply, .int .i64 b.burnt, .int .i64 b.pot, .slice s3.fa b.folk.length s3.fc, .slice s3.ma b.mills.length s3.mc, .slice s3.pa b.parts.length s3.pc, .slice s3.wa b.waits.length s3.wc], .int .i64 7]) (by simp [results, Tryz.results123, go_sem, r0, r1, r2, r3, r4, r5, r6, r7]) rfl HE.out
  replace HN := Lib.hid (HN.out.trans (if_neg hn1))
  cases hq : (fr.toList == to.toList)
  case true =>
    have HQ := Lib.hid (HN.out.trans (if_pos hq))
    have HE := Lib.hid (show ResK (shiftL b who fr to n).1 (shiftL b who fr to n).2 w.heap.size w (.returned (.tuple #[.agg #[.int .i64 b.season, .int .i64 b.supply, .int .i64 b.burnt, .int .i64 b.pot, .slice s3.fa b.folk.length s3.fc, .slice s3.ma b.mills.length s3.mc, .slice s3.pa b.parts.length s3.pc, .slice s3.wa b.waits.length s3.wc], .int .i64 7])) (putB V (w.heap.size + 1) b s3) from by
      have e : shiftL b who fr to n = (b, 7) := HQ.out
      rw [e]
      exact ⟨s3, rfl, (MO.out.o.grown (putB_grown _ _ _ _) (by omega)).mono (by omega), putB_below D.out (by omega) _ _⟩)
    unfold putB at HE
    have y0 := MO.out.c.c0
    have y1 := MO.out.c.c1
    have y2 := MO.out.c.c2
    have y3 := MO.out.c.c3
    have y4 := MO.out.c.c4
    have y5 := MO.out.c.c5
    have y6 := MO.out.c.c6
    have y7 := MO.out.c.c7
    have r0 := R.out.has 0 _ rfl
    have r1 := R.out.has 1 _ rfl
    have r2 := R.out.has 2 _ rfl
    have r3 := R.out.has 3 _ rfl
    have r4 := R.out.has 4 _ rfl
    have r5 := R.out.has 5 _ rfl
    have r6 := R.out.has 6 _ rfl
    have r7 := R.out.has 7 _ rfl
    have rf := R.out.free
    go_wp2
    exact bodyPost_ret (v := .tuple #[.agg #[.int .i64 b.season, .int .i64 b.supply, .int .i64 b.burnt, .int .i64 b.pot, .slice s3.fa b.folk.length s3.fc, .slice s3.ma b.mills.length s3.mc, .slice s3.pa b.parts.length s3.pc, .slice s3.wa b.waits.length s3.wc], .int .i64 7]) (by simp [results, Tryz.results123, go_sem, r0, r1, r2, r3, r4, r5, r6, r7]) rfl HE.out
  replace HN := Lib.hid (HN.out.trans (if_neg (by rw [hq]; decide)))
  have x6 := XC.out.c6
  go_wp2_with fail
  refine (sSharesOf_any _ who fr (HH.out.parts.below D.out) (by omega) HZ.out.ps).mono ?_
  rintro e w4 ⟨rfl, hb⟩
  clear x6
  have sz4 := hb.size
  replace XC := Lib.hid (XC.out.below hb)
  replace R := Lib.hid (R.out.below hb)
  replace D := Lib.hid (below_trans D.out hb)
  replace MO := Lib.hid (MO.out.below hb)
  clear hb
  by_cases hsh : sharesOfV b.parts who fr < n
  case pos =>
    have HQ := Lib.hid (HN.out.trans (if_pos hsh))
    have HE := Lib.hid (show ResK (shiftL b who fr to n).1 (shiftL b who fr to n).2 w.heap.size w (.returned (.tuple #[.agg #[.int .i64 b.season, .int .i64 b.supply, .int .i64 b.burnt, .int .i64 b.pot, .slice s3.fa b.folk.length s3.fc, .slice s3.ma b.mills.length s3.mc, .slice s3.pa b.parts.length s3.pc, .slice s3.wa b.waits.length s3.wc], .int .i64 4])) (putB w4 (w.heap.size + 1) b s3) from by
      have e : shiftL b who fr to n = (b, 4) := HQ.out
      rw [e]
      exact ⟨s3, rfl, (MO.out.o.grown (putB_grown _ _ _ _) (by omega)).mono (by omega), putB_below D.out (by omega) _ _⟩)
    unfold putB at HE
    have y0 := MO.out.c.c0
    have y1 := MO.out.c.c1
    have y2 := MO.out.c.c2
    have y3 := MO.out.c.c3
    have y4 := MO.out.c.c4
    have y5 := MO.out.c.c5
    have y6 := MO.out.c.c6
    have y7 := MO.out.c.c7
    have r0 := R.out.has 0 _ rfl
    have r1 := R.out.has 1 _ rfl
    have r2 := R.out.has 2 _ rfl
    have r3 := R.out.has 3 _ rfl
    have r4 := R.out.has 4 _ rfl
    have r5 := R.out.has 5 _ rfl
    have r6 := R.out.has 6 _ rfl
    have r7 := R.out.has 7 _ rfl
    have rf := R.out.free
    go_wp2
    exact bodyPost_ret (v := .tuple #[.agg #[.int .i64 b.season, .int .i64 b.supply, .int .i64 b.burnt, .int .i64 b.pot, .slice s3.fa b.folk.length s3.fc, .slice s3.ma b.mills.length s3.mc, .slice s3.pa b.parts.length s3.pc, .slice s3.wa b.waits.length s3.wc], .int .i64 4]) (by simp [results, Tryz.results123, go_sem, r0, r1, r2, r3, r4, r5, r6, r7]) rfl HE.out
  replace HN := Lib.hid (HN.out.trans (if_neg hsh))
  have HSH := Lib.hid (show n ≤ sharesOfV b.parts who fr by omega)
  obtain ⟨p, off, ep, hlb, m0, m1, m2, m3, m4⟩ := Mil.at (HH.out.mills.below D.out) j hklj
  have x5 := XC.out.c5
  rw [ep] at x5
  have EP := Lib.hid ep
  clear ep hlb m0 m1 m2 m3
  obtain ⟨bt, Hbt⟩ : ∃ v, Hid (b.mills[j].shut = v) := ⟨_, Lib.hid rfl⟩
  rw [Hbt.out] at m4
  cases bt
  case true =>
    have HQ := Lib.hid (HN.out.trans (if_pos (by rw [HGDj.out, Hbt.out])))
    have HE := Lib.hid (show ResK (shiftL b who fr to n).1 (shiftL b who fr to n).2 w.heap.size w (.returned (.tuple #[.agg #[.int .i64 b.season, .int .i64 b.supply, .int .i64 b.burnt, .int .i64 b.pot, .slice s3.fa b.folk.length s3.fc, .slice s3.ma b.mills.length s3.mc, .slice s3.pa b.parts.length s3.pc, .slice s3.wa b.waits.length s3.wc], .int .i64 3])) (putB w4 (w.heap.size + 1) b s3) from by
      have e : shiftL b who fr to n = (b, 3) := HQ.out
      rw [e]
      exact ⟨s3, rfl, (MO.out.o.grown (putB_grown _ _ _ _) (by omega)).mono (by omega), putB_below D.out (by omega) _ _⟩)
    unfold putB at HE
    have y0 := MO.out.c.c0
    have y1 := MO.out.c.c1
    have y2 := MO.out.c.c2
    have y3 := MO.out.c.c3
    have y4 := MO.out.c.c4
    have y5 := MO.out.c.c5
    have y6 := MO.out.c.c6
    have y7 := MO.out.c.c7
    have r0 := R.out.has 0 _ rfl
    have r1 := R.out.has 1 _ rfl
    have r2 := R.out.has 2 _ rfl
    have r3 := R.out.has 3 _ rfl
    have r4 := R.out.has 4 _ rfl
    have r5 := R.out.has 5 _ rfl
    have r6 := R.out.has 6 _ rfl
    have r7 := R.out.has 7 _ rfl
    have rf := R.out.free
    go_wp2
    exact bodyPost_ret (v := .tuple #[.agg #[.int .i64 b.season, .int .i64 b.supply, .int .i64 b.burnt, .int .i64 b.pot, .slice s3.fa b.folk.length s3.fc, .slice s3.ma b.mills.length s3.mc, .slice s3.pa b.parts.length s3.pc, .slice s3.wa b.waits.length s3.wc], .int .i64 3]) (by simp [results, Tryz.results123, go_sem, r0, r1, r2, r3, r4, r5, r6, r7]) rfl HE.out
  replace HN := Lib.hid (HN.out.trans (if_neg (by rw [HGDj.out, Hbt.out]; decide)))
  have x0 := XC.out.c0
  have x1 := XC.out.c1
  have x2 := XC.out.c2
  have x3 := XC.out.c3
  have x4 := XC.out.c4
  have x6 := XC.out.c6
  have x7 := XC.out.c7

  have hltR5 := R.out.lt
  go_wp2_with fail
  rw [← EP.out]
  refine (l7Copy_sol (s := s) (HH.out.below D.out) HR.out HL.out).mono ?_
  rintro e w5 ⟨s5, rfl, ho, hb, hso⟩
  clear x0 x1 x2 x3 x4 x5 x6 x7
  have sz5 := hb.size
  have MX := Lib.hid (MineB.copy ho hso hb.size 29)
  have OLDs5 := Lib.hid (ho.at.bold)
  clear ho hso
  replace XC := Lib.hid (XC.out.below hb)
  replace R := Lib.hid (R.out.below hb)
  replace D := Lib.hid (below_trans D.out hb)
  replace MO := Lib.hid (MO.out.below hb)
  clear hb

  have bV := below_new w5 (.cells #[.int .i64 b.season, .int .i64 b.supply, .int .i64 b.burnt, .int .i64 b.pot, .slice s5.fa b.folk.length s5.fc, .slice s5.ma b.mills.length s5.mc, .slice s5.pa b.parts.length s5.pc, .slice s5.wa b.waits.length s5.wc] 29)
  obtain ⟨V5, hVV5⟩ : ∃ V, w5.alloc (.cells #[.int .i64 b.season, .int .i64 b.supply, .int .i64 b.burnt, .int .i64 b.pot, .slice s5.fa b.folk.length s5.fc, .slice s5.ma b.mills.length s5.mc, .slice s5.pa b.parts.length s5.pc, .slice s5.wa b.waits.length s5.wc] 29) = V := ⟨_, rfl⟩
  have szV5 : w5.heap.size < V5.heap.size := by rw [← hVV5]; simp
  rw [hVV5] at bV MX
  replace XC := Lib.hid (XC.out.below bV)
  replace R := Lib.hid (R.out.below bV)
  replace D := Lib.hid (below_trans D.out bV)
  replace MO := Lib.hid (MO.out.below bV)
  clear bV
  clear m4
  rw [HGDk.out, HKTk.out, HKTj.out] at HN
  have hnb := sharesOf_bd HSH.out
  have HRT := Lib.hid (book_right HK.out)
  have hpot := (HRT.out).2
  have hmk := Lib.hid (HRT.out.1 k hklk)
  go_wp2_with fail
  refine (l10Less_any who k n MX.out hklk HL.out HZ.out HW.out hmk.out (by omega) hnb hpot.1 hpot.2).mono ?_
  rintro e w7 ⟨rfl, hb, t7, hM7⟩
  have sz7 := hb.size
  replace MX := Lib.hid hM7
  clear hM7
  replace XC := Lib.hid (XC.out.under hb (by omega))
  replace R := Lib.hid (R.out.under hb (by omega))
  replace D := Lib.hid (D.out.trans (hb.mono (by omega)))
  replace MO := Lib.hid (MO.out.kept hb (by omega) (OLDs3.out.mono (by omega)))
  clear hb

  rw [getD_mil hklk]
  have HLX := Lib.hid (lessX_len HL.out who k n)
  have HZX := Lib.hid (lessX_sized HZ.out who hklk n)
  have hjx : j < (lessX b who k n).mills.length := by show j < (b.mills.set k _).length; rw [List.length_set]; exact hklj
  obtain ⟨x, HXN⟩ : ∃ q, Hid (lessX b who k n = q) := ⟨_, Lib.hid rfl⟩
  rw [HXN.out] at MX HLX HZX HN hjx
  obtain ⟨v, HV⟩ : ∃ v, Hid (worthV b.mills[k] n = v) := ⟨_, Lib.hid rfl⟩
  rw [HV.out] at HN
  rw [HV.out]
  by_cases hv : v < 1
  case pos =>
    have HQ := Lib.hid (HN.out.trans (if_pos hv))
    have HE := Lib.hid (show ResK (shiftL b who fr to n).1 (shiftL b who fr to n).2 w.heap.size w (.returned (.tuple #[.agg #[.int .i64 b.season, .int .i64 b.supply, .int .i64 b.burnt, .int .i64 b.pot, .slice s3.fa b.folk.length s3.fc, .slice s3.ma b.mills.length s3.mc, .slice s3.pa b.parts.length s3.pc, .slice s3.wa b.waits.length s3.wc], .int .i64 5])) (putB w7 (w.heap.size + 1) b s3) from by
      have e : shiftL b who fr to n = (b, 5) := HQ.out
      rw [e]
      exact ⟨s3, rfl, (MO.out.o.grown (putB_grown _ _ _ _) (by omega)).mono (by omega), putB_below D.out (by omega) _ _⟩)
    unfold putB at HE
    have y0 := MO.out.c.c0
    have y1 := MO.out.c.c1
    have y2 := MO.out.c.c2
    have y3 := MO.out.c.c3
    have y4 := MO.out.c.c4
    have y5 := MO.out.c.c5
    have y6 := MO.out.c.c6
    have y7 := MO.out.c.c7
    have r0 := R.out.has 0 _ rfl
    have r1 := R.out.has 1 _ rfl
    have r2 := R.out.has 2 _ rfl
    have r3 := R.out.has 3 _ rfl
    have r4 := R.out.has 4 _ rfl
    have r5 := R.out.has 5 _ rfl
    have r6 := R.out.has 6 _ rfl
    have r7 := R.out.has 7 _ rfl
    have rf := R.out.free
    go_wp2
    exact bodyPost_ret (v := .tuple #[.agg #[.int .i64 b.season, .int .i64 b.supply, .int .i64 b.burnt, .int .i64 b.pot, .slice s3.fa b.folk.length s3.fc, .slice s3.ma b.mills.length s3.mc, .slice s3.pa b.parts.length s3.pc, .slice s3.wa b.waits.length s3.wc], .int .i64 5]) (by simp [results, Tryz.results123, go_sem, r0, r1, r2, r3, r4, r5, r6, r7]) rfl HE.out
  replace HN := Lib.hid (HN.out.trans (if_neg hv))
  go_wp2_with fail
  refine (l9Lend_any who j v MX.out hjx HLX.out HZX.out HW.out).mono ?_
  rintro e w8 ⟨rfl, hb, hok⟩
  have HOK := Lib.hid hok
  have sz8 := hb.size
  clear hok
  replace XC := Lib.hid (XC.out.under hb (by omega))
  replace R := Lib.hid (R.out.under hb (by omega))
  replace D := Lib.hid (D.out.trans (hb.mono (by omega)))
  replace MO := Lib.hid (MO.out.kept hb (by omega) (OLDs3.out.mono (by omega)))
  clear hb

  obtain ⟨c, HCC⟩ : ∃ c, Hid (lendC x who j v = c) := ⟨_, Lib.hid rfl⟩
  rw [HCC.out] at HOK HN
  rw [HCC.out]
  by_cases hc : c = 0
  case neg =>
    have HQ := Lib.hid (HN.out.trans (if_neg hc))
    have HE := Lib.hid (show ResK (shiftL b who fr to n).1 (shiftL b who fr to n).2 w.heap.size w (.returned (.tuple #[.agg #[.int .i64 b.season, .int .i64 b.supply, .int .i64 b.burnt, .int .i64 b.pot, .slice s3.fa b.folk.length s3.fc, .slice s3.ma b.mills.length s3.mc, .slice s3.pa b.parts.length s3.pc, .slice s3.wa b.waits.length s3.wc], .int .i64 c])) (putB w8 (w.heap.size + 1) b s3) from by
      have e : shiftL b who fr to n = (b, c) := HQ.out
      rw [e]
      exact ⟨s3, rfl, (MO.out.o.grown (putB_grown _ _ _ _) (by omega)).mono (by omega), putB_below D.out (by omega) _ _⟩)
    unfold putB at HE
    have y0 := MO.out.c.c0
    have y1 := MO.out.c.c1
    have y2 := MO.out.c.c2
    have y3 := MO.out.c.c3
    have y4 := MO.out.c.c4
    have y5 := MO.out.c.c5
    have y6 := MO.out.c.c6
    have y7 := MO.out.c.c7
    have r0 := R.out.has 0 _ rfl
    have r1 := R.out.has 1 _ rfl
    have r2 := R.out.has 2 _ rfl
    have r3 := R.out.has 3 _ rfl
    have r4 := R.out.has 4 _ rfl
    have r5 := R.out.has 5 _ rfl
    have r6 := R.out.has 6 _ rfl
    have r7 := R.out.has 7 _ rfl
    have rf := R.out.free
    go_wp2
    exact bodyPost_ret (v := .tuple #[.agg #[.int .i64 b.season, .int .i64 b.supply, .int .i64 b.burnt, .int .i64 b.pot, .slice s3.fa b.folk.length s3.fc, .slice s3.ma b.mills.length s3.mc, .slice s3.pa b.parts.length s3.pc, .slice s3.wa b.waits.length s3.wc], .int .i64 c]) (by simp [results, Tryz.results123, go_sem, r0, r1, r2, r3, r4, r5, r6, r7]) rfl HE.out
  replace HN := Lib.hid (HN.out.trans (if_pos hc))
  obtain ⟨t8, hM8⟩ := HOK.out hc
  replace MX := Lib.hid hM8
  subst hc
  clear hM8 HOK
  have HLO := Lib.hid (lendX_len HLX.out who j v)
  have HZO := Lib.hid (lendX_sized HZX.out HW.out hjx v)
  have HRZ := Lib.hid (HN.out)
  obtain ⟨o, HO⟩ : ∃ o, Hid (lendX x who j v = o) := ⟨_, Lib.hid rfl⟩
  obtain ⟨t, HT⟩ : ∃ t, Hid (t8 = t) := ⟨_, Lib.hid rfl⟩
  rw [HO.out] at MX HLO HZO HRZ
  rw [HT.out] at MX
  have hMb := MX.out.base
  have x0 := XC.out.c0
  have x1 := XC.out.c1
  have x2 := XC.out.c2
  have x3 := XC.out.c3
  have x4 := XC.out.c4
  have x5 := XC.out.c5
  have x6 := XC.out.c6
  have x7 := XC.out.c7
  have y0 := MX.out.c.c0
  have y1 := MX.out.c.c1
  have y2 := MX.out.c.c2
  have y3 := MX.out.c.c3
  have y4 := MX.out.c.c4
  have y5 := MX.out.c.c5
  have y6 := MX.out.c.c6
  have y7 := MX.out.c.c7

  go_wp2_with fail
  refine (l8Done_any (b := b) (o := o) (s := s) (t := t) (HH.out.below D.out) HR.out HL.out MX.out.o HLO.out HZO.out hMb).mono ?_
  obtain ⟨r, Hr⟩ : ∃ r, Hid (doneB b o = r) := ⟨_, Lib.hid rfl⟩
  obtain ⟨c, Hc⟩ : ∃ c, Hid (doneC o = c) := ⟨_, Lib.hid rfl⟩
  rw [Hr.out, Hc.out]
  rw [Hr.out, Hc.out] at HRZ
  rintro e w9 ⟨s9, rfl, ho, hb⟩
  replace R := Lib.hid (R.out.below hb)
  replace D := Lib.hid (below_trans D.out hb)
  have HE := Lib.hid (show ResK (shiftL b who fr to n).1 (shiftL b who fr to n).2 w.heap.size w (.returned (.tuple #[.agg #[.int .i64 r.season, .int .i64 r.supply, .int .i64 r.burnt, .int .i64 r.pot, .slice s9.fa r.folk.length s9.fc, .slice s9.ma r.mills.length s9.mc, .slice s9.pa r.parts.length s9.pc, .slice s9.wa r.waits.length s9.wc], .int .i64 c])) (putB w9 (w.heap.size + 1) r s9) from by
    rw [HRZ.out]
    exact ⟨s9, rfl, (ho.grown (putB_grown _ _ _ _) (by omega)).mono (by omega), putB_below D.out (by omega) _ _⟩)
  unfold putB at HE
  clear ho hb
  have r0 := R.out.has 0 _ rfl
  have r1 := R.out.has 1 _ rfl
  have r2 := R.out.has 2 _ rfl
  have r3 := R.out.has 3 _ rfl
  have r4 := R.out.has 4 _ rfl
  have r5 := R.out.has 5 _ rfl
  have r6 := R.out.has 6 _ rfl
  have r7 := R.out.has 7 _ rfl
  have rf := R.out.free
  go_wp2
  exact bodyPost_ret (v := .tuple #[.agg #[.int .i64 r.season, .int .i64 r.supply, .int .i64 r.burnt, .int .i64 r.pot, .slice s9.fa r.folk.length s9.fc, .slice s9.ma r.mills.length s9.mc, .slice s9.pa r.parts.length s9.pc, .slice s9.wa r.waits.length s9.wc], .int .i64 c]) (by simp [results, Tryz.results123, go_sem, r0, r1, r2, r3, r4, r5, r6, r7]) rfl HE.out
end Go.Proofs.YtlnnchgaloejlaaGreat
namespace Go.Proofs.YtlnnchgaloejlaaGreat
open Go.ChangeShapes Go.WideShapes Go.ChangeAt Go.RowKit

theorem resRB_some {T : TypeId} {out : List Wai} {ok : Bool} {w : World} {e : Ending} {w' : World} (h : ResRB Wai.cs 4 T out ok w e w') : ∃ g cap, e = .returned (.tuple #[.slice (some ⟨g, 0, none⟩) out.length cap, .bool ok]) ∧ OwnR Wai.cs 4 w' w.heap.size (some ⟨g, 0, none⟩) out ∧ Below w.heap.size w w' ∧ out.length ≤ cap ∧ w.heap.size ≤ g := by
  obtain ⟨g, cap, he, ho, hb⟩ := h
  obtain ⟨a, c', e1, hr, -⟩ := ownR_of Wai.len ho
  injection e1 with e1 e2 e3
  subst e1; subst e3
  exact ⟨_, _, he, hr, hb, (own_some ho).2.1, (row_lt ho).1⟩
theorem waitingL_ws {ps : List Wai} {q : Wai} (h : WSized ps) (hq : q.who.size ≤ maxLen ∧ q.mill.size ≤ maxLen) : WSized (waitingL ps q) := by
  unfold waitingL
  split
  · split
    · exact wsized_put h hq _
    · exact h
  · intro k hk; simp at hk
/-- What comes of it. -/
noncomputable def looseL (b : Bok) (who mill : ByteArray) (n : Int) : Bok × Int :=
  if bookB b = true then
    if 0 ≤ placeV (mnames b.mills) mill then
      if 0 ≤ placeV (pnames b.folk) who then
        if n < 1 then (b, 7) else
        if sharesOfV b.parts who mill < n then (b, 4) else
        if 0 < (worthV (b.mills.getD (placeV (mnames b.mills) mill).toNat mil0) n) then
          if waitingB b.waits ⟨who, mill, (worthV (b.mills.getD (placeV (mnames b.mills) mill).toNat mil0) n), b.season + 3⟩ = true then
            (doneB b ((lessX b who (placeV (mnames b.mills) mill).toNat n).wWaits (waitingL b.waits ⟨who, mill, (worthV (b.mills.getD (placeV (mnames b.mills) mill).toNat mil0) n), b.season + 3⟩)), doneC ((lessX b who (placeV (mnames b.mills) mill).toNat n).wWaits (waitingL b.waits ⟨who, mill, (worthV (b.mills.getD (placeV (mnames b.mills) mill).toNat mil0) n), b.season + 3⟩)))
          else (b, 6)
        else (doneB b (lessX b who (placeV (mnames b.mills) mill).toNat n), doneC (lessX b who (placeV (mnames b.mills) mill).toNat n))
      else (b, 1)
    else (b, 1)
  else (bok0, 7)

set_option maxRecDepth 100000 in
set_option maxHeartbeats 16000000 in
set_option maxRecDepth 100000 in
theorem sLoosened_any {w : World} {b : Bok} {s : Spots} (who mill : ByteArray) (n : Int) (h : BookAt w b s) (hr : Roots b s) (hl : BLen b) (hz : BSized b) (hw : who.size ≤ maxLen) (hm : mill.size ≤ maxLen) :
    Calls Tryz.prog 122 #[.agg #[.int .i64 b.season, .int .i64 b.supply, .int .i64 b.burnt, .int .i64 b.pot, .slice s.fa b.folk.length s.fc, .slice s.ma b.mills.length s.mc, .slice s.pa b.parts.length s.pc, .slice s.wa b.waits.length s.wc], .string who, .string mill, .int .i64 n] w (ResK (looseL b who mill n).1 (looseL b who mill n).2 w.heap.size w) := by
  have HW := Lib.hid hw
  have HM := Lib.hid hm
  clear hw hm
  have HH := Lib.hid h
  have HR := Lib.hid hr
  have HL := Lib.hid hl
  have HZ := Lib.hid hz
  have l1 := hl.fl
  have l2 := hl.ml
  have l3 := hl.pl
  have l4 := hl.wl
  have XC := Lib.hid (CellB.new w b s 29)
  have D := Lib.hid (below_new w (.cells #[.int .i64 b.season, .int .i64 b.supply, .int .i64 b.burnt, .int .i64 b.pot, .slice s.fa b.folk.length s.fc, .slice s.ma b.mills.length s.mc, .slice s.pa b.parts.length s.pc, .slice s.wa b.waits.length s.wc] 29))
  obtain ⟨W0, hW0⟩ : ∃ W, w.alloc (.cells #[.int .i64 b.season, .int .i64 b.supply, .int .i64 b.burnt, .int .i64 b.pot, .slice s.fa b.folk.length s.fc, .slice s.ma b.mills.length s.mc, .slice s.pa b.parts.length s.pc, .slice s.wa b.waits.length s.wc] 29) = W := ⟨_, rfl⟩
  have hs0 : W0.heap.size = w.heap.size + 1 := by rw [← hW0]; simp
  rw [hW0] at XC D
  have bz := below_new W0 (.cells #[.int .i64 0, .int .i64 0, .int .i64 0, .int .i64 0, .slice none 0 0, .slice none 0 0, .slice none 0 0, .slice none 0 0] 29)
  have R := Lib.hid (OutV.new W0 [.int .i64 0, .int .i64 0, .int .i64 0, .int .i64 0, .slice none 0 0, .slice none 0 0, .slice none 0 0, .slice none 0 0] 29)
  obtain ⟨W1, hW1⟩ : ∃ W, W0.alloc (.cells #[.int .i64 0, .int .i64 0, .int .i64 0, .int .i64 0, .slice none 0 0, .slice none 0 0, .slice none 0 0, .slice none 0 0] 29) = W := ⟨_, rfl⟩
  rw [show W0.alloc (.cells ([.int .i64 0, .int .i64 0, .int .i64 0, .int .i64 0, .slice none 0 0, .slice none 0 0, .slice none 0 0, .slice none 0 0] : List Value).toArray 29) = W1 from hW1, hs0] at R
  rw [hW1] at bz
  replace XC := Lib.hid (XC.out.below bz)
  replace D := Lib.hid (below_trans D.out bz)
  clear bz h hr hl hz
  have x0 := XC.out.c0
  have x1 := XC.out.c1
  have x2 := XC.out.c2
  have x3 := XC.out.c3
  have x4 := XC.out.c4
  have x5 := XC.out.c5
  have x6 := XC.out.c6
  have x7 := XC.out.c7

  go_enter Tryz.func122, Tryz.ntmps122
  go_wp2_with fail
  refine (sBookOk_any (s := s) (HH.out.below D.out) HL.out HZ.out).mono ?_
  rintro e w2 ⟨rfl, hb⟩
  clear x0 x1 x2 x3 x4 x5 x6 x7
  replace XC := Lib.hid (XC.out.below hb)
  replace R := Lib.hid (R.out.below hb)
  replace D := Lib.hid (below_trans D.out hb)
  clear hb

  cases hk : bookB b
  · have HE := Lib.hid (show ResK (looseL b who mill n).1 (looseL b who mill n).2 w.heap.size w (.returned (.tuple #[.agg #[.int .i64 0, .int .i64 0, .int .i64 0, .int .i64 0, .slice none 0 0, .slice none 0 0, .slice none 0 0, .slice none 0 0], .int .i64 7])) (putB w2 (w.heap.size + 1) bok0 ⟨none, 0, none, 0, none, 0, none, 0⟩) from by
      have e : looseL b who mill n = (bok0, 7) := by rw [looseL, hk]; rfl
      rw [e]
      exact ⟨⟨none, 0, none, 0, none, 0, none, 0⟩, rfl, ownB_nil _ _ _ ⟨.inl ⟨rfl, rfl⟩, .inl ⟨rfl, rfl⟩, .inl ⟨rfl, rfl⟩, .inl ⟨rfl, rfl⟩, Nat.le_refl _, Nat.le_refl _, Nat.le_refl _, Nat.le_refl _⟩, putB_below D.out (by omega) _ _⟩)
    unfold putB at HE
    have r0 := R.out.has 0 _ rfl
    have r1 := R.out.has 1 _ rfl
    have r2 := R.out.has 2 _ rfl
    have r3 := R.out.has 3 _ rfl
    have r4 := R.out.has 4 _ rfl
    have r5 := R.out.has 5 _ rfl
    have r6 := R.out.has 6 _ rfl
    have r7 := R.out.has 7 _ rfl
    have rf := R.out.free
    go_wp2
    exact bodyPost_ret (v := .tuple #[.agg #[.int .i64 0, .int .i64 0, .int .i64 0, .int .i64 0, .slice none 0 0, .slice none 0 0, .slice none 0 0, .slice none 0 0], .int .i64 7]) (by simp [results, Tryz.results122, go_sem, r0, r1, r2, r3, r4, r5, r6, r7]) rfl HE.out
  have HN := Lib.hid (show looseL b who mill n = _ from (show looseL b who mill n = if bookB b = true then _ else _ from rfl).trans (if_pos hk))
  have HK := Lib.hid hk
  clear hk
  have x0 := XC.out.c0
  have x1 := XC.out.c1
  have x2 := XC.out.c2
  have x3 := XC.out.c3
  have x4 := XC.out.c4
  have x5 := XC.out.c5
  have x6 := XC.out.c6
  have x7 := XC.out.c7

  have hltR3 := R.out.lt
  go_wp2_with fail
  refine (l7Copy_sol (s := s) (HH.out.below D.out) HR.out HL.out).mono ?_
  rintro e w3 ⟨s3, rfl, ho, hb, hso⟩
  clear x0 x1 x2 x3 x4 x5 x6 x7
  have sz3 := hb.size
  have MO := Lib.hid (MineB.copy ho hso hb.size 29)
  have OLDs3 := Lib.hid (ho.at.bold)
  clear ho hso
  replace XC := Lib.hid (XC.out.below hb)
  replace R := Lib.hid (R.out.below hb)
  replace D := Lib.hid (below_trans D.out hb)
  clear hb

  have bV := below_new w3 (.cells #[.int .i64 b.season, .int .i64 b.supply, .int .i64 b.burnt, .int .i64 b.pot, .slice s3.fa b.folk.length s3.fc, .slice s3.ma b.mills.length s3.mc, .slice s3.pa b.parts.length s3.pc, .slice s3.wa b.waits.length s3.wc] 29)
  obtain ⟨V, hVV⟩ : ∃ V, w3.alloc (.cells #[.int .i64 b.season, .int .i64 b.supply, .int .i64 b.burnt, .int .i64 b.pot, .slice s3.fa b.folk.length s3.fc, .slice s3.ma b.mills.length s3.mc, .slice s3.pa b.parts.length s3.pc, .slice s3.wa b.waits.length s3.wc] 29) = V := ⟨_, rfl⟩
  have szV : w3.heap.size < V.heap.size := by rw [← hVV]; simp
  rw [hVV] at bV MO
  replace XC := Lib.hid (XC.out.below bV)
  replace R := Lib.hid (R.out.below bV)
  replace D := Lib.hid (below_trans D.out bV)
  clear bV
  have x5 := XC.out.c5
  go_wp2_with fail
  refine (l4Find_any _ _ (HH.out.mills.below D.out) (by omega)).mono ?_
  rintro e w' ⟨rfl, rfl⟩
  clear x5
  by_cases hp : 0 ≤ placeV (mnames b.mills) mill
  case neg =>
    have HQ := Lib.hid (HN.out.trans (if_neg hp))
    have hlo := place_lo (mnames b.mills) mill
    have hpe : placeV (mnames b.mills) mill = -1 := by omega
    rw [hpe]
    clear hp hpe hlo
    have HE := Lib.hid (show ResK (looseL b who mill n).1 (looseL b who mill n).2 w.heap.size w (.returned (.tuple #[.agg #[.int .i64 b.season, .int .i64 b.supply, .int .i64 b.burnt, .int .i64 b.pot, .slice s3.fa b.folk.length s3.fc, .slice s3.ma b.mills.length s3.mc, .slice s3.pa b.parts.length s3.pc, .slice s3.wa b.waits.length s3.wc], .int .i64 1])) (putB V (w.heap.size + 1) b s3) from by
      have e : looseL b who mill n = (b, 1) := HQ.out
      rw [e]
      exact ⟨s3, rfl, (MO.out.o.grown (putB_grown _ _ _ _) (by omega)).mono (by omega), putB_below D.out (by omega) _ _⟩)
    unfold putB at HE
    have y0 := MO.out.c.c0
    have y1 := MO.out.c.c1
    have y2 := MO.out.c.c2
    have y3 := MO.out.c.c3
    have y4 := MO.out.c.c4
    have y5 := MO.out.c.c5
    have y6 := MO.out.c.c6
    have y7 := MO.out.c.c7
    have r0 := R.out.has 0 _ rfl
    have r1 := R.out.has 1 _ rfl
    have r2 := R.out.has 2 _ rfl
    have r3 := R.out.has 3 _ rfl
    have r4 := R.out.has 4 _ rfl
    have r5 := R.out.has 5 _ rfl
    have r6 := R.out.has 6 _ rfl
    have r7 := R.out.has 7 _ rfl
    have rf := R.out.free
    go_wp2
    exact bodyPost_ret (v := .tuple #[.agg #[.int .i64 b.season, .int .i64 b.supply, .int .i64 b.burnt, .int .i64 b.pot, .slice s3.fa b.folk.length s3.fc, .slice s3.ma b.mills.length s3.mc, .slice s3.pa b.parts.length s3.pc, .slice s3.wa b.waits.length s3.wc], .int .i64 1]) (by simp [results, Tryz.results122, go_sem, r0, r1, r2, r3, r4, r5, r6, r7]) rfl HE.out
  replace HN := Lib.hid (HN.out.trans (if_pos hp))
  obtain ⟨k, ek, hklk, -⟩ := place_hit hp
  rw [len_mn] at hklk
  rw [ek]
  have HEk := Lib.hid ek
  clear hp ek
  have HKTk := Lib.hid (show (placeV (mnames b.mills) mill).toNat = k by rw [HEk.out]; omega)
  have HGDk := Lib.hid (show b.mills.getD (placeV (mnames b.mills) mill).toNat mil0 = b.mills[k] by rw [HKTk.out, getD_mil hklk])
  have x4 := XC.out.c4
  go_wp2_with fail
  refine (l3Find_any _ _ (HH.out.folk.below D.out) (by omega)).mono ?_
  rintro e w' ⟨rfl, rfl⟩
  clear x4
  by_cases hp : 0 ≤ placeV (pnames b.folk) who
  case neg =>
    have HQ := Lib.hid (HN.out.trans (if_neg hp))
    have hlo := place_lo (pnames b.folk) who
    have hpe : placeV (pnames b.folk) who = -1 := by omega
    rw [hpe]
    clear hp hpe hlo
    have HE := Lib.hid (show ResK (looseL b who mill n).1 (looseL b who mill n).2 w.heap.size w (.returned (.tuple #[.agg #[.int .i64 b.season, .int .i64 b.supply, .int .i64 b.burnt, .int .i64 b.pot, .slice s3.fa b.folk.length s3.fc, .slice s3.ma b.mills.length s3.mc, .slice s3.pa b.parts.length s3.pc, .slice s3.wa b.waits.length s3.wc], .int .i64 1])) (putB V (w.heap.size + 1) b s3) from by
      have e : looseL b who mill n = (b, 1) := HQ.out
      rw [e]
      exact ⟨s3, rfl, (MO.out.o.grown (putB_grown _ _ _ _) (by omega)).mono (by omega), putB_below D.out (by omega) _ _⟩)
    unfold putB at HE
    have y0 := MO.out.c.c0
    have y1 := MO.out.c.c1
    have y2 := MO.out.c.c2
    have y3 := MO.out.c.c3
    have y4 := MO.out.c.c4
    have y5 := MO.out.c.c5
    have y6 := MO.out.c.c6
    have y7 := MO.out.c.c7
    have r0 := R.out.has 0 _ rfl
    have r1 := R.out.has 1 _ rfl
    have r2 := R.out.has 2 _ rfl
    have r3 := R.out.has 3 _ rfl
    have r4 := R.out.has 4 _ rfl
    have r5 := R.out.has 5 _ rfl
    have r6 := R.out.has 6 _ rfl
    have r7 := R.out.has 7 _ rfl
    have rf := R.out.free
    go_wp2
    exact bodyPost_ret (v := .tuple #[.agg #[.int .i64 b.season, .int .i64 b.supply, .int .i64 b.burnt, .int .i64 b.pot, .slice s3.fa b.folk.length s3.fc, .slice s3.ma b.mills.length s3.mc, .slice s3.pa b.parts.length s3.pc, .slice s3.wa b.waits.length s3.wc], .int .i64 1]) (by simp [results, Tryz.results122, go_sem, r0, r1, r2, r3, r4, r5, r6, r7]) rfl HE.out
  replace HN := Lib.hid (HN.out.trans (if_pos hp))
  obtain ⟨m, ek, hklm, -⟩ := place_hit hp
  rw [len_pn] at hklm
  rw [ek]
  have HEm := Lib.hid ek
  clear hp ek
  by_cases hn1 : n < 1
  · have HQ := Lib.hid (HN.out.trans (if_pos hn1))
    have HE := Lib.hid (show ResK (looseL b who mill n).1 (looseL b who mill n).2 w.heap.size w (.returned (.tuple #[.agg #[.int .i64 b.season, .int .i64 b.supply, .int .i64 b.burnt, .int .i64 b.pot, .slice s3.fa b.folk.length s3.fc, .slice s3.ma b.mills.length s3.mc, .slice s3.pa b.parts.length s3.pc, .slice s3.wa b.waits.length s3.wc], .int .i64 7])) (putB V (w.heap.size + 1) b s3) from by
      have e : looseL b who mill n = (b, 7) := HQ.out
      rw [e]
      exact ⟨s3, rfl, (MO.out.o.grown (putB_grown _ _ _ _) (by omega)).mono (by omega), putB_below D.out (by omega) _ _⟩)
    unfold putB at HE
    have y0 := MO.out.c.c0
    have y1 := MO.out.c.c1
    have y2 := MO.out.c.c2
    have y3 := MO.out.c.c3
    have y4 := MO.out.c.c4
    have y5 := MO.out.c.c5
    have y6 := MO.out.c.c6
    have y7 := MO.out.c.c7
    have r0 := R.out.has 0 _ rfl
    have r1 := R.out.has 1 _ rfl
    have r2 := R.out.has 2 _ rfl
    have r3 := R.out.has 3 _ rfl
    have r4 := R.out.has 4 _ rfl
    have r5 := R.out.has 5 _ rfl
    have r6 := R.out.has 6 _ rfl
    have r7 := R.out.has 7 _ rfl
    have rf := R.out.free
    go_wp2
    exact bodyPost_ret (v := .tuple #[.agg #[.int .i64 b.season, .int .i64 b.supply, .int .i64 b.burnt, .int .i64 b.pot, .slice s3.fa b.folk.length s3.fc, .slice s3.ma b.mills.length s3.mc, .slice s3.pa b.parts.length s3.pc, .slice s3.wa b.waits.length s3.wc], .int .i64 7]) (by simp [results, Tryz.results122, go_sem, r0, r1, r2, r3, r4, r5, r6, r7]) rfl HE.out
  replace HN := Lib.hid (HN.out.trans (if_neg hn1))
  have x6 := XC.out.c6
  go_wp2_with fail
  refine (sSharesOf_any _ who mill (HH.out.parts.below D.out) (by omega) HZ.out.ps).mono ?_
  rintro e w4 ⟨rfl, hb⟩
  clear x6
  have sz4 := hb.size
  replace XC := Lib.hid (XC.out.below hb)
  replace R := Lib.hid (R.out.below hb)
  replace D := Lib.hid (below_trans D.out hb)
  replace MO := Lib.hid (MO.out.below hb)
  clear hb
  by_cases hsh : sharesOfV b.parts who mill < n
  case pos =>
    have HQ := Lib.hid (HN.out.trans (if_pos hsh))
    have HE := Lib.hid (show ResK (looseL b who mill n).1 (looseL b who mill n).2 w.heap.size w (.returned (.tuple #[.agg #[.int .i64 b.season, .int .i64 b.supply, .int .i64 b.burnt, .int .i64 b.pot, .slice s3.fa b.folk.length s3.fc, .slice s3.ma b.mills.length s3.mc, .slice s3.pa b.parts.length s3.pc, .slice s3.wa b.waits.length s3.wc], .int .i64 4])) (putB w4 (w.heap.size + 1) b s3) from by
      have e : looseL b who mill n = (b, 4) := HQ.out
      rw [e]
      exact ⟨s3, rfl, (MO.out.o.grown (putB_grown _ _ _ _) (by omega)).mono (by omega), putB_below D.out (by omega) _ _⟩)
    unfold putB at HE
    have y0 := MO.out.c.c0
    have y1 := MO.out.c.c1
    have y2 := MO.out.c.c2
    have y3 := MO.out.c.c3
    have y4 := MO.out.c.c4
    have y5 := MO.out.c.c5
    have y6 := MO.out.c.c6
    have y7 := MO.out.c.c7
    have r0 := R.out.has 0 _ rfl
    have r1 := R.out.has 1 _ rfl
    have r2 := R.out.has 2 _ rfl
    have r3 := R.out.has 3 _ rfl
    have r4 := R.out.has 4 _ rfl
    have r5 := R.out.has 5 _ rfl
    have r6 := R.out.has 6 _ rfl
    have r7 := R.out.has 7 _ rfl
    have rf := R.out.free
    go_wp2
    exact bodyPost_ret (v := .tuple #[.agg #[.int .i64 b.season, .int .i64 b.supply, .int .i64 b.burnt, .int .i64 b.pot, .slice s3.fa b.folk.length s3.fc, .slice s3.ma b.mills.length s3.mc, .slice s3.pa b.parts.length s3.pc, .slice s3.wa b.waits.length s3.wc], .int .i64 4]) (by simp [results, Tryz.results122, go_sem, r0, r1, r2, r3, r4, r5, r6, r7]) rfl HE.out
  replace HN := Lib.hid (HN.out.trans (if_neg hsh))
  have HSH := Lib.hid (show n ≤ sharesOfV b.parts who mill by omega)
  have x0 := XC.out.c0
  have x1 := XC.out.c1
  have x2 := XC.out.c2
  have x3 := XC.out.c3
  have x4 := XC.out.c4
  have x5 := XC.out.c5
  have x6 := XC.out.c6
  have x7 := XC.out.c7

  have hltR5 := R.out.lt
  go_wp2_with fail
  refine (l7Copy_sol (s := s) (HH.out.below D.out) HR.out HL.out).mono ?_
  rintro e w5 ⟨s5, rfl, ho, hb, hso⟩
  clear x0 x1 x2 x3 x4 x5 x6 x7
  have sz5 := hb.size
  have MX := Lib.hid (MineB.copy ho hso hb.size 29)
  have OLDs5 := Lib.hid (ho.at.bold)
  clear ho hso
  replace XC := Lib.hid (XC.out.below hb)
  replace R := Lib.hid (R.out.below hb)
  replace D := Lib.hid (below_trans D.out hb)
  replace MO := Lib.hid (MO.out.below hb)
  clear hb

  have bV := below_new w5 (.cells #[.int .i64 b.season, .int .i64 b.supply, .int .i64 b.burnt, .int .i64 b.pot, .slice s5.fa b.folk.length s5.fc, .slice s5.ma b.mills.length s5.mc, .slice s5.pa b.parts.length s5.pc, .slice s5.wa b.waits.length s5.wc] 29)
  obtain ⟨V5, hVV5⟩ : ∃ V, w5.alloc (.cells #[.int .i64 b.season, .int .i64 b.supply, .int .i64 b.burnt, .int .i64 b.pot, .slice s5.fa b.folk.length s5.fc, .slice s5.ma b.mills.length s5.mc, .slice s5.pa b.parts.length s5.pc, .slice s5.wa b.waits.length s5.wc] 29) = V := ⟨_, rfl⟩
  have szV5 : w5.heap.size < V5.heap.size := by rw [← hVV5]; simp
  rw [hVV5] at bV MX
  replace XC := Lib.hid (XC.out.below bV)
  replace R := Lib.hid (R.out.below bV)
  replace D := Lib.hid (below_trans D.out bV)
  replace MO := Lib.hid (MO.out.below bV)
  clear bV
  rw [HGDk.out, HKTk.out] at HN
  have hnb := sharesOf_bd HSH.out
  have HRT := Lib.hid (book_right HK.out)
  have hpot := (HRT.out).2
  have hmk := Lib.hid (HRT.out.1 k hklk)
  have hse := book_season HK.out
  go_wp2_with fail
  refine (l10Less_any who k n MX.out hklk HL.out HZ.out HW.out hmk.out (by omega) hnb hpot.1 hpot.2).mono ?_
  rintro e w7 ⟨rfl, hb, t7, hM7⟩
  have sz7 := hb.size
  replace MX := Lib.hid hM7
  clear hM7
  replace XC := Lib.hid (XC.out.under hb (by omega))
  replace R := Lib.hid (R.out.under hb (by omega))
  replace D := Lib.hid (D.out.trans (hb.mono (by omega)))
  replace MO := Lib.hid (MO.out.kept hb (by omega) (OLDs3.out.mono (by omega)))
  clear hb

  rw [getD_mil hklk]
  have HLX := Lib.hid (lessX_len HL.out who k n)
  have HZX := Lib.hid (lessX_sized HZ.out who hklk n)
  have hxs := Lib.hid (show (lessX b who k n).waits = b.waits from rfl)
  obtain ⟨x, HXN⟩ : ∃ q, Hid (lessX b who k n = q) := ⟨_, Lib.hid rfl⟩
  rw [HXN.out] at MX HLX HZX HN hxs
  obtain ⟨v, HV⟩ : ∃ v, Hid (worthV b.mills[k] n = v) := ⟨_, Lib.hid rfl⟩
  have hvb := worth_bd n hmk.out
  rw [HV.out] at HN hvb
  rw [HV.out]
  by_cases hv : 0 < v
  case neg =>
    replace HN := Lib.hid (HN.out.trans (if_neg hv))
    have HLO := HLX
    have HZO := HZX
    have HRZ := Lib.hid (HN.out)
    obtain ⟨o, HO⟩ : ∃ o, Hid (x = o) := ⟨_, Lib.hid rfl⟩
    obtain ⟨t, HT⟩ : ∃ t, Hid (t7 = t) := ⟨_, Lib.hid rfl⟩
    rw [HO.out] at MX HLO HZO HRZ
    rw [HT.out] at MX
    have hMb := MX.out.base
    have x0 := XC.out.c0
    have x1 := XC.out.c1
    have x2 := XC.out.c2
    have x3 := XC.out.c3
    have x4 := XC.out.c4
    have x5 := XC.out.c5
    have x6 := XC.out.c6
    have x7 := XC.out.c7
    have y0 := MX.out.c.c0
    have y1 := MX.out.c.c1
    have y2 := MX.out.c.c2
    have y3 := MX.out.c.c3
    have y4 := MX.out.c.c4
    have y5 := MX.out.c.c5
    have y6 := MX.out.c.c6
    have y7 := MX.out.c.c7

    go_wp2_with fail
    refine (l8Done_any (b := b) (o := o) (s := s) (t := t) (HH.out.below D.out) HR.out HL.out MX.out.o HLO.out HZO.out hMb).mono ?_
    obtain ⟨r, Hr⟩ : ∃ r, Hid (doneB b o = r) := ⟨_, Lib.hid rfl⟩
    obtain ⟨c, Hc⟩ : ∃ c, Hid (doneC o = c) := ⟨_, Lib.hid rfl⟩
    rw [Hr.out, Hc.out]
    rw [Hr.out, Hc.out] at HRZ
    rintro e w9 ⟨s9, rfl, ho, hb⟩
    replace R := Lib.hid (R.out.below hb)
    replace D := Lib.hid (below_trans D.out hb)
    have HE := Lib.hid (show ResK (looseL b who mill n).1 (looseL b who mill n).2 w.heap.size w (.returned (.tuple #[.agg #[.int .i64 r.season, .int .i64 r.supply, .int .i64 r.burnt, .int .i64 r.pot, .slice s9.fa r.folk.length s9.fc, .slice s9.ma r.mills.length s9.mc, .slice s9.pa r.parts.length s9.pc, .slice s9.wa r.waits.length s9.wc], .int .i64 c])) (putB w9 (w.heap.size + 1) r s9) from by
      rw [HRZ.out]
      exact ⟨s9, rfl, (ho.grown (putB_grown _ _ _ _) (by omega)).mono (by omega), putB_below D.out (by omega) _ _⟩)
    unfold putB at HE
    clear ho hb
    have r0 := R.out.has 0 _ rfl
    have r1 := R.out.has 1 _ rfl
    have r2 := R.out.has 2 _ rfl
    have r3 := R.out.has 3 _ rfl
    have r4 := R.out.has 4 _ rfl
    have r5 := R.out.has 5 _ rfl
    have r6 := R.out.has 6 _ rfl
    have r7 := R.out.has 7 _ rfl
    have rf := R.out.free
    go_wp2
    exact bodyPost_ret (v := .tuple #[.agg #[.int .i64 r.season, .int .i64 r.supply, .int .i64 r.burnt, .int .i64 r.pot, .slice s9.fa r.folk.length s9.fc, .slice s9.ma r.mills.length s9.mc, .slice s9.pa r.parts.length s9.pc, .slice s9.wa r.waits.length s9.wc], .int .i64 c]) (by simp [results, Tryz.results122, go_sem, r0, r1, r2, r3, r4, r5, r6, r7]) rfl HE.out
  replace HN := Lib.hid (HN.out.trans (if_pos hv))
  obtain ⟨y, ey⟩ := MX.out.q
  have x0 := XC.out.c0
  have y7 := MX.out.c.c7
  rw [ey, hxs.out] at y7
  have HWW := Lib.hid (show Recs Wai.cs w7 (some ⟨y, 0, none⟩) b.waits by have := MX.out.o.waits.1; rw [ey, hxs.out] at this; exact this)
  have hwc := Lib.hid (show b.waits.length ≤ t7.wc by have := MX.out.o.rt.cw; rw [hxs.out] at this; exact this)
  clear ey
  obtain ⟨qq, HQQ⟩ : ∃ q, Hid ((⟨who, mill, v, b.season + 3⟩ : Wai) = q) := ⟨_, Lib.hid rfl⟩
  go_wp2_with fail
  refine (sWaiting_any _ ⟨who, mill, v, b.season + 3⟩ HWW.out hwc.out l4 HZ.out.ws ⟨HW.out, HM.out⟩).mono ?_
  rw [HQQ.out]
  rw [HQQ.out] at HN
  rintro e w8 hres
  obtain ⟨g, cg, rfl, hog, hb, hcg, hg0⟩ := resRB_some hres
  have OG := Lib.hid hog
  have HCG := Lib.hid hcg
  have HG0 := Lib.hid hg0
  have HB8 := Lib.hid hb
  have MX7 := MX
  have sz8 := hb.size
  clear hres hog hcg hg0 x0 y7
  replace XC := Lib.hid (XC.out.below hb)
  replace R := Lib.hid (R.out.below hb)
  replace D := Lib.hid (below_trans D.out hb)
  replace MO := Lib.hid (MO.out.below hb)
  replace MX := Lib.hid (MX.out.below hb)
  clear hb

  cases hwb : waitingB b.waits qq
  · have HQ := Lib.hid (HN.out.trans (if_neg (by rw [hwb]; decide)))
    have HE := Lib.hid (show ResK (looseL b who mill n).1 (looseL b who mill n).2 w.heap.size w (.returned (.tuple #[.agg #[.int .i64 b.season, .int .i64 b.supply, .int .i64 b.burnt, .int .i64 b.pot, .slice s3.fa b.folk.length s3.fc, .slice s3.ma b.mills.length s3.mc, .slice s3.pa b.parts.length s3.pc, .slice s3.wa b.waits.length s3.wc], .int .i64 6])) (putB w8 (w.heap.size + 1) b s3) from by
      have e : looseL b who mill n = (b, 6) := HQ.out
      rw [e]
      exact ⟨s3, rfl, (MO.out.o.grown (putB_grown _ _ _ _) (by omega)).mono (by omega), putB_below D.out (by omega) _ _⟩)
    unfold putB at HE
    have y0 := MO.out.c.c0
    have y1 := MO.out.c.c1
    have y2 := MO.out.c.c2
    have y3 := MO.out.c.c3
    have y4 := MO.out.c.c4
    have y5 := MO.out.c.c5
    have y6 := MO.out.c.c6
    have y7 := MO.out.c.c7
    have r0 := R.out.has 0 _ rfl
    have r1 := R.out.has 1 _ rfl
    have r2 := R.out.has 2 _ rfl
    have r3 := R.out.has 3 _ rfl
    have r4 := R.out.has 4 _ rfl
    have r5 := R.out.has 5 _ rfl
    have r6 := R.out.has 6 _ rfl
    have r7 := R.out.has 7 _ rfl
    have rf := R.out.free
    go_wp2
    exact bodyPost_ret (v := .tuple #[.agg #[.int .i64 b.season, .int .i64 b.supply, .int .i64 b.burnt, .int .i64 b.pot, .slice s3.fa b.folk.length s3.fc, .slice s3.ma b.mills.length s3.mc, .slice s3.pa b.parts.length s3.pc, .slice s3.wa b.waits.length s3.wc], .int .i64 6]) (by simp [results, Tryz.results122, go_sem, r0, r1, r2, r3, r4, r5, r6, r7]) rfl HE.out
  replace HN := Lib.hid (HN.out.trans (if_pos hwb))
  clear hwb
  have hq1 : qq.who.size ≤ maxLen := by rw [← HQQ.out]; exact HW.out
  have hq2 : qq.mill.size ≤ maxLen := by rw [← HQQ.out]; exact HM.out
  have HWS := Lib.hid (waitingL_ws HZ.out.ws ⟨hq1, hq2⟩)
  have HWL := Lib.hid (waitingL_le b.waits qq)
  clear hq1 hq2
  obtain ⟨out, HOUT⟩ : ∃ l, Hid (waitingL b.waits qq = l) := ⟨_, Lib.hid rfl⟩
  rw [HOUT.out] at OG HCG HN HWS HWL
  rw [HOUT.out]
  have y7w := MX.out.c.c7
  have yfw := MX.out.f.1
  obtain ⟨V9, hVV9⟩ : ∃ W, w8.setCell ⟨w5.heap.size, 7, none⟩ (.slice (some ⟨g, 0, none⟩) out.length cg) = W := ⟨_, rfl⟩
  have hbs : Below w4.heap.size w8 V9 := by rw [← hVV9]; exact (Below.refl _ _).setCell (by show w4.heap.size ≤ w5.heap.size; omega) _
  have szV9 := hbs.size
  replace MX := Lib.hid (show MineB V9 w5.heap.size w4.heap.size (x.wWaits out) (t7.wW (some ⟨g, 0, none⟩) cg) from by rw [← hVV9]; exact MX7.out.putWaits HB8.out OG.out HCG.out HG0.out)
  replace XC := Lib.hid (XC.out.under hbs (by omega))
  replace R := Lib.hid (R.out.under hbs (by omega))
  replace D := Lib.hid (D.out.trans (hbs.mono (by omega)))
  replace MO := Lib.hid (MO.out.kept hbs (by omega) (OLDs3.out.mono (by omega)))
  clear hbs
  have HLO := Lib.hid (show BLen (x.wWaits out) from ⟨HLX.out.fl, HLX.out.ml, HLX.out.pl, Nat.le_trans HWL.out (by omega)⟩)
  have HZO := Lib.hid (show BSized (x.wWaits out) from ⟨HZX.out.fs, HZX.out.ms, HZX.out.ps, HWS.out⟩)
  have HRZ := Lib.hid (HN.out)
  obtain ⟨o, HO⟩ : ∃ o, Hid (x.wWaits out = o) := ⟨_, Lib.hid rfl⟩
  obtain ⟨t, HT⟩ : ∃ t, Hid (t7.wW (some ⟨g, 0, none⟩) cg = t) := ⟨_, Lib.hid rfl⟩
  rw [HO.out] at MX HLO HZO HRZ
  rw [HT.out] at MX
  have hMb := MX.out.base
  have x0 := XC.out.c0
  have x1 := XC.out.c1
  have x2 := XC.out.c2
  have x3 := XC.out.c3
  have x4 := XC.out.c4
  have x5 := XC.out.c5
  have x6 := XC.out.c6
  have x7 := XC.out.c7
  have y0 := MX.out.c.c0
  have y1 := MX.out.c.c1
  have y2 := MX.out.c.c2
  have y3 := MX.out.c.c3
  have y4 := MX.out.c.c4
  have y5 := MX.out.c.c5
  have y6 := MX.out.c.c6
  have y7 := MX.out.c.c7

  go_wp2_with fail
  refine (l8Done_any (b := b) (o := o) (s := s) (t := t) (HH.out.below D.out) HR.out HL.out MX.out.o HLO.out HZO.out hMb).mono ?_
  obtain ⟨r, Hr⟩ : ∃ r, Hid (doneB b o = r) := ⟨_, Lib.hid rfl⟩
  obtain ⟨c, Hc⟩ : ∃ c, Hid (doneC o = c) := ⟨_, Lib.hid rfl⟩
  rw [Hr.out, Hc.out]
  rw [Hr.out, Hc.out] at HRZ
  rintro e w9 ⟨s9, rfl, ho, hb⟩
  replace R := Lib.hid (R.out.below hb)
  replace D := Lib.hid (below_trans D.out hb)
  have HE := Lib.hid (show ResK (looseL b who mill n).1 (looseL b who mill n).2 w.heap.size w (.returned (.tuple #[.agg #[.int .i64 r.season, .int .i64 r.supply, .int .i64 r.burnt, .int .i64 r.pot, .slice s9.fa r.folk.length s9.fc, .slice s9.ma r.mills.length s9.mc, .slice s9.pa r.parts.length s9.pc, .slice s9.wa r.waits.length s9.wc], .int .i64 c])) (putB w9 (w.heap.size + 1) r s9) from by
    rw [HRZ.out]
    exact ⟨s9, rfl, (ho.grown (putB_grown _ _ _ _) (by omega)).mono (by omega), putB_below D.out (by omega) _ _⟩)
  unfold putB at HE
  clear ho hb
  have r0 := R.out.has 0 _ rfl
  have r1 := R.out.has 1 _ rfl
  have r2 := R.out.has 2 _ rfl
  have r3 := R.out.has 3 _ rfl
  have r4 := R.out.has 4 _ rfl
  have r5 := R.out.has 5 _ rfl
  have r6 := R.out.has 6 _ rfl
  have r7 := R.out.has 7 _ rfl
  have rf := R.out.free
  go_wp2
  exact bodyPost_ret (v := .tuple #[.agg #[.int .i64 r.season, .int .i64 r.supply, .int .i64 r.burnt, .int .i64 r.pot, .slice s9.fa r.folk.length s9.fc, .slice s9.ma r.mills.length s9.mc, .slice s9.pa r.parts.length s9.pc, .slice s9.wa r.waits.length s9.wc], .int .i64 c]) (by simp [results, Tryz.results122, go_sem, r0, r1, r2, r3, r4, r5, r6, r7]) rfl HE.out
end Go.Proofs.YtlnnchgaloejlaaGreat
