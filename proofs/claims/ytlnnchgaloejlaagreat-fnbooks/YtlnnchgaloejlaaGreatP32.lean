/-
  Texts joined: LentB.
-/
import Derived.Test.YtlnnchgaloejlaaGreatP23
namespace Go.Proofs.YtlnnchgaloejlaaGreat
open Go.ChangeShapes Go.WideShapes Go.ChangeAt Go.RowKit

theorem lendX_len {x : Bok} (h : BLen x) (who : ByteArray) (k : Nat) (n : Int) : BLen (lendX x who k n) :=
  ⟨h.fl, by show (x.mills.set k _).length ≤ _; rw [List.length_set]; exact h.ml, Nat.le_trans (gaveL_le _ _ _ _) (by omega), h.wl⟩
theorem lendX_sized {x : Bok} (h : BSized x) {who : ByteArray} (hw : who.size ≤ maxLen) {k : Nat} (hk : k < x.mills.length) (n : Int) : BSized (lendX x who k n) := by
  have hm : x.mills[k].name.size ≤ maxLen := by rw [← mnames_at hk]; exact h.ms k
  refine ⟨h.fs, ?_, ?_, h.ws⟩
  · show Sized (mnames (x.mills.set k _))
    rw [setMill_names hk (by rw [getD_mil hk]; rfl)]; exact h.ms
  · show PSized (gaveL _ _ _ _)
    exact gaveL_sized h.ps hw (by rw [getD_mil hk]; exact hm) _
/-- What comes of it. -/
noncomputable def lentL (b : Bok) (who mill : ByteArray) (n : Int) : Bok × Int :=
  if bookB b = true then
    if 0 ≤ placeV (mnames b.mills) mill then
      if 0 ≤ placeV (pnames b.folk) who then
        if n < 1 then (b, 7) else
        if (b.mills.getD (placeV (mnames b.mills) mill).toNat mil0).shut = true then (b, 3) else
        if payB b.folk who n (-n) = true then
          if lendC (b.wFolk (payL b.folk who n (-n))) who (placeV (mnames b.mills) mill).toNat n = 0 then
            (doneB b (lendX (b.wFolk (payL b.folk who n (-n))) who (placeV (mnames b.mills) mill).toNat n), doneC (lendX (b.wFolk (payL b.folk who n (-n))) who (placeV (mnames b.mills) mill).toNat n))
          else (b, lendC (b.wFolk (payL b.folk who n (-n))) who (placeV (mnames b.mills) mill).toNat n)
        else (b, 4)
      else (b, 1)
    else (b, 1)
  else (bok0, 7)

set_option maxRecDepth 100000 in
set_option maxHeartbeats 16000000 in
set_option maxRecDepth 100000 in
theorem sLent_any {w : World} {b : Bok} {s : Spots} (who mill : ByteArray) (n : Int) (h : BookAt w b s) (hr : Roots b s) (hl : BLen b) (hz : BSized b) (hw : who.size ≤ maxLen) :
    Calls Tryz.prog 121 #[.agg #[.int .i64 b.season, .int .i64 b.supply, .int .i64 b.burnt, .int .i64 b.pot, .slice s.fa b.folk.length s.fc, .slice s.ma b.mills.length s.mc, .slice s.pa b.parts.length s.pc, .slice s.wa b.waits.length s.wc], .string who, .string mill, .int .i64 n] w (ResK (lentL b who mill n).1 (lentL b who mill n).2 w.heap.size w) := by
  have HW := Lib.hid hw
  clear hw
  have HH := Lib.hid h
  have HR := Lib.hid hr
  have HL := Lib.hid hl
  have HZ := Lib.hid hz
  have l1 := hl.fl
  have l2 := hl.ml
  have l3 := hl.pl
  have l4 := hl.wl
  have XC := Lib.hid (CellB.new w b s 29)
  have D := Lib.hid (below_new w (.cells #[.int .i64 b.season, .int .i64 b.supply, .int .i64 b.burnt, .int .i64 b.pot, .slice s.fa b.folk.length s.fc, .slice s.ma b.mills.length s.mc, .slice s.pa b.parts.length s.pc, .slice s.wa b.waits.length s.wc] 29))
  obtain ⟨W0, hW0⟩ : ∃ W, w.alloc (.cells #[.int .i64 b.season, .int .i64 b.supply, .int .i64 b.burnt, .int .i64 b.pot, .slice s.fa b.folk.length s.fc, .slice s.ma b.mills.length s.mc, .slice s.pa b.parts.length s.pc, .slice s.wa b.waits.length s.wc] 29) = W := ⟨_, rfl⟩
  have hs0 : W0.heap.size = w.heap.size + 1 := by rw [← hW0]; simp
  rw [hW0] at XC D
  have bz := below_new W0 (.cells #[.int .i64 0, .int .i64 0, .int .i64 0, .int .i64 0, .slice none 0 0, .slice none 0 0, .slice none 0 0, .slice none 0 0] 29)
  have R := Lib.hid (OutV.new W0 [.int .i64 0, .int .i64 0, .int .i64 0, .int .i64 0, .slice none 0 0, .slice none 0 0, .slice none 0 0, .slice none 0 0] 29)
  obtain ⟨W1, hW1⟩ : ∃ W, W0.alloc (.cells #[.int .i64 0, .int .i64 0, .int .i64 0, .int .i64 0, .slice none 0 0, .slice none 0 0, .slice none 0 0, .slice none 0 0] 29) = W := ⟨_, rfl⟩
  rw [show W0.alloc (.cells ([.int .i64 0, .int .i64 0, .int .i64 0, .int .i64 0, .slice none 0 0, .slice none 0 0, .slice none 0 0, .slice none 0 0] : List Value).toArray 29) = W1 from hW1, hs0] at R
  rw [hW1] at bz
  replace XC := Lib.hid (XC.out.below bz)
  replace D := Lib.hid (below_trans D.out bz)
  clear bz h hr hl hz
  have x0 := XC.out.c0
  have x1 := XC.out.c1
  have x2 := XC.out.c2
  have x3 := XC.out.c3
  have x4 := XC.out.c4
  have x5 := XC.out.c5
  have x6 := XC.out.c6
  have x7 := XC.out.c7

  go_enter Tryz.func121, Tryz.ntmps121
  go_wp2_with fail
  refine (sBookOk_any (s := s) (HH.out.below D.out) HL.out HZ.out).mono ?_
  rintro e w2 ⟨rfl, hb⟩
  clear x0 x1 x2 x3 x4 x5 x6 x7
  replace XC := Lib.hid (XC.out.below hb)
  replace R := Lib.hid (R.out.below hb)
  replace D := Lib.hid (below_trans D.out hb)
  clear hb

  cases hk : bookB b
  · have HE := Lib.hid (show ResK (lentL b who mill n).1 (lentL b who mill n).2 w.heap.size w (.returned (.tuple #[.agg #[.int .i64 0, .int .i64 0, .int .i64 0, .int .i64 0, .slice none 0 0, .slice none 0 0, .slice none 0 0, .slice none 0 0], .int .i64 7])) (putB w2 (w.heap.size + 1) bok0 ⟨none, 0, none, 0, none, 0, none, 0⟩) from by
      have e : lentL b who mill n = (bok0, 7) := by rw [lentL, hk]; rfl
      rw [e]
      exact ⟨⟨none, 0, none, 0, none, 0, none, 0⟩, rfl, ownB_nil _ _ _ ⟨.inl ⟨rfl, rfl⟩, .inl ⟨rfl, rfl⟩, .inl ⟨rfl, rfl⟩, .inl ⟨rfl, rfl⟩, Nat.le_refl _, Nat.le_refl _, Nat.le_refl _, Nat.le_refl _⟩, putB_below D.out (by omega) _ _⟩)
    unfold putB at HE
    have r0 := R.out.has 0 _ rfl
    have r1 := R.out.has 1 _ rfl
    have r2 := R.out.has 2 _ rfl
    have r3 := R.out.has 3 _ rfl
    have r4 := R.out.has 4 _ rfl
    have r5 := R.out.has 5 _ rfl
    have r6 := R.out.has 6 _ rfl
    have r7 := R.out.has 7 _ rfl
    have rf := R.out.free
    go_wp2
    exact bodyPost_ret (v := .tuple #[.agg #[.int .i64 0, .int .i64 0, .int .i64 0, .int .i64 0, .slice none 0 0, .slice none 0 0, .slice none 0 0, .slice none 0 0], .int .i64 7]) (by simp [results, Tryz.results121, go_sem, r0, r1, r2, r3, r4, r5, r6, r7]) rfl HE.out
  have HN := Lib.hid (show lentL b who mill n = _ from (show lentL b who mill n = if bookB b = true then _ else _ from rfl).trans (if_pos hk))
  have HK := Lib.hid hk
  clear hk
  have x0 := XC.out.c0
  have x1 := XC.out.c1
  have x2 := XC.out.c2
  have x3 := XC.out.c3
  have x4 := XC.out.c4
  have x5 := XC.out.c5
  have x6 := XC.out.c6
  have x7 := XC.out.c7

  have hltR3 := R.out.lt
  go_wp2_with fail
  refine (l7Copy_sol (s := s) (HH.out.below D.out) HR.out HL.out).mono ?_
  rintro e w3 ⟨s3, rfl, ho, hb, hso⟩
  clear x0 x1 x2 x3 x4 x5 x6 x7
  have sz3 := hb.size
  have MO := Lib.hid (MineB.copy ho hso hb.size 29)
  have OLDs3 := Lib.hid (ho.at.bold)
  clear ho hso
  replace XC := Lib.hid (XC.out.below hb)
  replace R := Lib.hid (R.out.below hb)
  replace D := Lib.hid (below_trans D.out hb)
  clear hb

  have bV := below_new w3 (.cells #[.int .i64 b.season, .int .i64 b.supply, .int .i64 b.burnt, .int .i64 b.pot, .slice s3.fa b.folk.length s3.fc, .slice s3.ma b.mills.length s3.mc, .slice s3.pa b.parts.length s3.pc, .slice s3.wa b.waits.length s3.wc] 29)
  obtain ⟨V, hVV⟩ : ∃ V, w3.alloc (.cells #[.int .i64 b.season, .int .i64 b.supply, .int .i64 b.burnt, .int .i64 b.pot, .slice s3.fa b.folk.length s3.fc, .slice s3.ma b.mills.length s3.mc, .slice s3.pa b.parts.length s3.pc, .slice s3.wa b.waits.length s3.wc] 29) = V := ⟨_, rfl⟩
  have szV : w3.heap.size < V.heap.size := by rw [← hVV]; simp
  rw [hVV] at bV MO
  replace XC := Lib.hid (XC.out.below bV)
  replace R := Lib.hid (R.out.below bV)
  replace D := Lib.hid (below_trans D.out bV)
  clear bV
  have x5 := XC.out.c5
  go_wp2_with fail
  refine (l4Find_any _ _ (HH.out.mills.below D.out) (by omega)).mono ?_
  rintro e w' ⟨rfl, rfl⟩
  clear x5
  by_cases hp : 0 ≤ placeV (mnames b.mills) mill
  case neg =>
    have HQ := Lib.hid (HN.out.trans (if_neg hp))
    have hlo := place_lo (mnames b.mills) mill
    have hpe : placeV (mnames b.mills) mill = -1 := by omega
    rw [hpe]
    clear hp hpe hlo
    have HE := Lib.hid (show ResK (lentL b who mill n).1 (lentL b who mill n).2 w.heap.size w (.returned (.tuple #[.agg #[.int .i64 b.season, .int .i64 b.supply, .int .i64 b.burnt, .int .i64 b.pot, .slice s3.fa b.folk.length s3.fc, .slice s3.ma b.mills.length s3.mc, .slice s3.pa b.parts.length s3.pc, .slice s3.wa b.waits.length s3.wc], .int .i64 1])) (putB V (w.heap.size + 1) b s3) from by
      have e : lentL b who mill n = (b, 1) := HQ.out
      rw [e]
      exact ⟨s3, rfl, (MO.out.o.grown (putB_grown _ _ _ _) (by omega)).mono (by omega), putB_below D.out (by omega) _ _⟩)
    unfold putB at HE
    have y0 := MO.out.c.c0
    have y1 := MO.out.c.c1
    have y2 := MO.out.c.c2
    have y3 := MO.out.c.c3
    have y4 := MO.out.c.c4
    have y5 := MO.out.c.c5
    have y6 := MO.out.c.c6
    have y7 := MO.out.c.c7
    have r0 := R.out.has 0 _ rfl
    have r1 := R.out.has 1 _ rfl
    have r2 := R.out.has 2 _ rfl
    have r3 := R.out.has 3 _ rfl
    have r4 := R.out.has 4 _ rfl
    have r5 := R.out.has 5 _ rfl
    have r6 := R.out.has 6 _ rfl
    have r7 := R.out.has 7 _ rfl
    have rf := R.out.free
    go_wp2
    exact bodyPost_ret (v := .tuple #[.agg #[.int .i64 b.season, .int .i64 b.supply, .int .i64 b.burnt, .int .i64 b.pot, .slice s3.fa b.folk.length s3.fc, .slice s3.ma b.mills.length s3.mc, .slice s3.pa b.parts.length s3.pc, .slice s3.wa b.waits.length s3.wc], .int .i64 1]) (by simp [results, Tryz.results121, go_sem, r0, r1, r2, r3, r4, r5, r6, r7]) rfl HE.out
  replace HN := Lib.hid (HN.out.trans (if_pos hp))
  obtain ⟨k, ek, hklk, -⟩ := place_hit hp
  rw [len_mn] at hklk
  rw [ek]
  have HEk := Lib.hid ek
  clear hp ek
  have HKTk := Lib.hid (show (placeV (mnames b.mills) mill).toNat = k by rw [HEk.out]; omega)
  have HGDk := Lib.hid (show b.mills.getD (placeV (mnames b.mills) mill).toNat mil0 = b.mills[k] by rw [HKTk.out, getD_mil hklk])
  have x4 := XC.out.c4
  go_wp2_with fail
  refine (l3Find_any _ _ (HH.out.folk.below D.out) (by omega)).mono ?_
  rintro e w' ⟨rfl, rfl⟩
  clear x4
  by_cases hp : 0 ≤ placeV (pnames b.folk) who
  case neg =>
    have HQ := Lib.hid (HN.out.trans (if_neg hp))
    have hlo := place_lo (pnames b.folk) who
    have hpe : placeV (pnames b.folk) who = -1 := by omega
    rw [hpe]
    clear hp hpe hlo
    have HE := Lib.hid (show ResK (lentL b who mill n).1 (lentL b who mill n).2 w.heap.size w (.returned (.tuple #[.agg #[.int .i64 b.season, .int .i64 b.supply, .int .i64 b.burnt, .int .i64 b.pot, .slice s3.fa b.folk.length s3.fc, .slice s3.ma b.mills.length s3.mc, .slice s3.pa b.parts.length s3.pc, .slice s3.wa b.waits.length s3.wc], .int .i64 1])) (putB V (w.heap.size + 1) b s3) from by
      have e : lentL b who mill n = (b, 1) := HQ.out
      rw [e]
      exact ⟨s3, rfl, (MO.out.o.grown (putB_grown _ _ _ _) (by omega)).mono (by omega), putB_below D.out (by omega) _ _⟩)
    unfold putB at HE
    have y0 := MO.out.c.c0
    have y1 := MO.out.c.c1
    have y2 := MO.out.c.c2
    have y3 := MO.out.c.c3
    have y4 := MO.out.c.c4
    have y5 := MO.out.c.c5
    have y6 := MO.out.c.c6
    have y7 := MO.out.c.c7
    have r0 := R.out.has 0 _ rfl
    have r1 := R.out.has 1 _ rfl
    have r2 := R.out.has 2 _ rfl
    have r3 := R.out.has 3 _ rfl
    have r4 := R.out.has 4 _ rfl
    have r5 := R.out.has 5 _ rfl
    have r6 := R.out.has 6 _ rfl
    have r7 := R.out.has 7 _ rfl
    have rf := R.out.free
    go_wp2
    exact bodyPost_ret (v := .tuple #[.agg #[.int .i64 b.season, .int .i64 b.supply, .int .i64 b.burnt, .int .i64 b.pot, .slice s3.fa b.folk.length s3.fc, .slice s3.ma b.mills.length s3.mc, .slice s3.pa b.parts.length s3.pc, .slice s3.wa b.waits.length s3.wc], .int .i64 1]) (by simp [results, Tryz.results121, go_sem, r0, r1, r2, r3, r4, r5, r6, r7]) rfl HE.out
  replace HN := Lib.hid (HN.out.trans (if_pos hp))
  obtain ⟨m, ek, hklm, -⟩ := place_hit hp
  rw [len_pn] at hklm
  rw [ek]
  have HEm := Lib.hid ek
  clear hp ek
  by_cases hn1 : n < 1
  · have HQ := Lib.hid (HN.out.trans (if_pos hn1))
    have HE := Lib.hid (show ResK (lentL b who mill n).1 (lentL b who mill n).2 w.heap.size w (.returned (.tuple #[.agg #[.int .i64 b.season, .int .i64 b.supply, .int .i64 b.burnt, .int .i64 b.pot, .slice s3.fa b.folk.length s3.fc, .slice s3.ma b.mills.length s3.mc, .slice s3.pa b.parts.length s3.pc, .slice s3.wa b.waits.length s3.wc], .int .i64 7])) (putB V (w.heap.size + 1) b s3) from by
      have e : lentL b who mill n = (b, 7) := HQ.out
      rw [e]
      exact ⟨s3, rfl, (MO.out.o.grown (putB_grown _ _ _ _) (by omega)).mono (by omega), putB_below D.out (by omega) _ _⟩)
    unfold putB at HE
    have y0 := MO.out.c.c0
    have y1 := MO.out.c.c1
    have y2 := MO.out.c.c2
    have y3 := MO.out.c.c3
    have y4 := MO.out.c.c4
    have y5 := MO.out.c.c5
    have y6 := MO.out.c.c6
    have y7 := MO.out.c.c7
    have r0 := R.out.has 0 _ rfl
    have r1 := R.out.has 1 _ rfl
    have r2 := R.out.has 2 _ rfl
    have r3 := R.out.has 3 _ rfl
    have r4 := R.out.has 4 _ rfl
    have r5 := R.out.has 5 _ rfl
    have r6 := R.out.has 6 _ rfl
    have r7 := R.out.has 7 _ rfl
    have rf := R.out.free
    go_wp2
    exact bodyPost_ret (v := .tuple #[.agg #[.int .i64 b.season, .int .i64 b.supply, .int .i64 b.burnt, .int .i64 b.pot, .slice s3.fa b.folk.length s3.fc, .slice s3.ma b.mills.length s3.mc, .slice s3.pa b.parts.length s3.pc, .slice s3.wa b.waits.length s3.wc], .int .i64 7]) (by simp [results, Tryz.results121, go_sem, r0, r1, r2, r3, r4, r5, r6, r7]) rfl HE.out
  replace HN := Lib.hid (HN.out.trans (if_neg hn1))
  obtain ⟨p, off, ep, hlb, m0, m1, m2, m3, m4⟩ := Mil.at (HH.out.mills.below D.out) k hklk
  have x5 := XC.out.c5
  rw [ep] at x5
  clear ep hlb m0 m1 m2 m3
  obtain ⟨bt, Hbt⟩ : ∃ v, Hid (b.mills[k].shut = v) := ⟨_, Lib.hid rfl⟩
  rw [Hbt.out] at m4
  cases bt
  case true =>
    have HQ := Lib.hid (HN.out.trans (if_pos (by rw [HGDk.out, Hbt.out])))
    have HE := Lib.hid (show ResK (lentL b who mill n).1 (lentL b who mill n).2 w.heap.size w (.returned (.tuple #[.agg #[.int .i64 b.season, .int .i64 b.supply, .int .i64 b.burnt, .int .i64 b.pot, .slice s3.fa b.folk.length s3.fc, .slice s3.ma b.mills.length s3.mc, .slice s3.pa b.parts.length s3.pc, .slice s3.wa b.waits.length s3.wc], .int .i64 3])) (putB V (w.heap.size + 1) b s3) from by
      have e : lentL b who mill n = (b, 3) := HQ.out
      rw [e]
      exact ⟨s3, rfl, (MO.out.o.grown (putB_grown _ _ _ _) (by omega)).mono (by omega), putB_below D.out (by omega) _ _⟩)
    unfold putB at HE
    have y0 := MO.out.c.c0
    have y1 := MO.out.c.c1
    have y2 := MO.out.c.c2
    have y3 := MO.out.c.c3
    have y4 := MO.out.c.c4
    have y5 := MO.out.c.c5
    have y6 := MO.out.c.c6
    have y7 := MO.out.c.c7
    have r0 := R.out.has 0 _ rfl
    have r1 := R.out.has 1 _ rfl
    have r2 := R.out.has 2 _ rfl
    have r3 := R.out.has 3 _ rfl
    have r4 := R.out.has 4 _ rfl
    have r5 := R.out.has 5 _ rfl
    have r6 := R.out.has 6 _ rfl
    have r7 := R.out.has 7 _ rfl
    have rf := R.out.free
    go_wp2
    exact bodyPost_ret (v := .tuple #[.agg #[.int .i64 b.season, .int .i64 b.supply, .int .i64 b.burnt, .int .i64 b.pot, .slice s3.fa b.folk.length s3.fc, .slice s3.ma b.mills.length s3.mc, .slice s3.pa b.parts.length s3.pc, .slice s3.wa b.waits.length s3.wc], .int .i64 3]) (by simp [results, Tryz.results121, go_sem, r0, r1, r2, r3, r4, r5, r6, r7]) rfl HE.out
  replace HN := Lib.hid (HN.out.trans (if_neg (by rw [HGDk.out, Hbt.out]; decide)))
  obtain ⟨xf, hxxf⟩ : ∃ x, s.fa = some ⟨x, 0, none⟩ := by
    rcases HR.out.f with ⟨e, -⟩ | ⟨x, e⟩
    · have := purs_none (by have := HH.out.folk; rw [e] at this; exact this)
      rw [this] at hklm; simp at hklm
    · exact ⟨x, e⟩
  have HF := Lib.hid (show Purs w (some ⟨xf, 0, none⟩) b.folk by have := HH.out.folk; rw [hxxf] at this; exact this)
  have x4 := XC.out.c4
  rw [hxxf] at x4
  clear hxxf
  go_wp2_with fail
  refine (sSpent_cap _ who n (HF.out.below D.out) (by omega) HZ.out.fs).mono ?_
  rintro e w4 ⟨af, cf, rfl, hpf, hof, hb, hcc⟩
  have sz4 := hb.size
  have Pf := Lib.hid (show OwnP w4 V.heap.size af (payL b.folk who n (-n)) from ⟨hpf, hof⟩)
  have CCf := Lib.hid hcc
  clear hpf hof hcc
  replace XC := Lib.hid (XC.out.below hb)
  replace R := Lib.hid (R.out.below hb)
  replace D := Lib.hid (below_trans D.out hb)
  replace MO := Lib.hid (MO.out.below hb)
  clear hb
  cases hpay : payB b.folk who n (-n)
  · have HQ := Lib.hid (HN.out.trans (if_neg (by rw [hpay]; decide)))
    have HE := Lib.hid (show ResK (lentL b who mill n).1 (lentL b who mill n).2 w.heap.size w (.returned (.tuple #[.agg #[.int .i64 b.season, .int .i64 b.supply, .int .i64 b.burnt, .int .i64 b.pot, .slice s3.fa b.folk.length s3.fc, .slice s3.ma b.mills.length s3.mc, .slice s3.pa b.parts.length s3.pc, .slice s3.wa b.waits.length s3.wc], .int .i64 4])) (putB w4 (w.heap.size + 1) b s3) from by
      have e : lentL b who mill n = (b, 4) := HQ.out
      rw [e]
      exact ⟨s3, rfl, (MO.out.o.grown (putB_grown _ _ _ _) (by omega)).mono (by omega), putB_below D.out (by omega) _ _⟩)
    unfold putB at HE
    have y0 := MO.out.c.c0
    have y1 := MO.out.c.c1
    have y2 := MO.out.c.c2
    have y3 := MO.out.c.c3
    have y4 := MO.out.c.c4
    have y5 := MO.out.c.c5
    have y6 := MO.out.c.c6
    have y7 := MO.out.c.c7
    have r0 := R.out.has 0 _ rfl
    have r1 := R.out.has 1 _ rfl
    have r2 := R.out.has 2 _ rfl
    have r3 := R.out.has 3 _ rfl
    have r4 := R.out.has 4 _ rfl
    have r5 := R.out.has 5 _ rfl
    have r6 := R.out.has 6 _ rfl
    have r7 := R.out.has 7 _ rfl
    have rf := R.out.free
    go_wp2
    exact bodyPost_ret (v := .tuple #[.agg #[.int .i64 b.season, .int .i64 b.supply, .int .i64 b.burnt, .int .i64 b.pot, .slice s3.fa b.folk.length s3.fc, .slice s3.ma b.mills.length s3.mc, .slice s3.pa b.parts.length s3.pc, .slice s3.wa b.waits.length s3.wc], .int .i64 4]) (by simp [results, Tryz.results121, go_sem, r0, r1, r2, r3, r4, r5, r6, r7]) rfl HE.out
  replace HN := Lib.hid (HN.out.trans (if_pos hpay))
  obtain ⟨hlf, hl0, hnmf⟩ := pay_len hpay
  have HPBf := Lib.hid hpay
  have HNMf := Lib.hid hnmf
  clear hpay hnmf
  obtain ⟨f, HVf⟩ : ∃ l, Hid (payL b.folk who n (-n) = l) := ⟨_, Lib.hid rfl⟩
  rw [HVf.out] at Pf CCf hlf HN HNMf
  rw [HVf.out]
  obtain ⟨xf, rfl⟩ := rooted_ownP Pf.out (by omega)
  have hbf : f.length ≤ 1048576 := by omega
  have hpf : 0 < f.length := by omega
  have HLNf := Lib.hid hlf
  clear hlf hl0
  have hxf0 := Pf.out.lo xf rfl (by omega)
  have hxf1 := Pf.out.hi xf rfl (by omega)
  clear x4 x5 m4
  rw [HKTk.out] at HN
  have x0 := XC.out.c0
  have x1 := XC.out.c1
  have x2 := XC.out.c2
  have x3 := XC.out.c3
  have x4 := XC.out.c4
  have x5 := XC.out.c5
  have x6 := XC.out.c6
  have x7 := XC.out.c7

  have hltR5 := R.out.lt
  go_wp2_with fail
  refine (l7Copy_sol (s := s) (HH.out.below D.out) HR.out HL.out).mono ?_
  rintro e w5 ⟨s5, rfl, ho, hb, hso⟩
  clear x0 x1 x2 x3 x4 x5 x6 x7
  have sz5 := hb.size
  have MX := Lib.hid (MineB.copy ho hso hb.size 29)
  have OLDs5 := Lib.hid (ho.at.bold)
  clear ho hso
  replace XC := Lib.hid (XC.out.below hb)
  replace R := Lib.hid (R.out.below hb)
  replace D := Lib.hid (below_trans D.out hb)
  replace MO := Lib.hid (MO.out.below hb)
  replace Pf := Lib.hid (Pf.out.below hb)
  clear hb

  have bV := below_new w5 (.cells #[.int .i64 b.season, .int .i64 b.supply, .int .i64 b.burnt, .int .i64 b.pot, .slice s5.fa b.folk.length s5.fc, .slice s5.ma b.mills.length s5.mc, .slice s5.pa b.parts.length s5.pc, .slice s5.wa b.waits.length s5.wc] 29)
  obtain ⟨V5, hVV5⟩ : ∃ V, w5.alloc (.cells #[.int .i64 b.season, .int .i64 b.supply, .int .i64 b.burnt, .int .i64 b.pot, .slice s5.fa b.folk.length s5.fc, .slice s5.ma b.mills.length s5.mc, .slice s5.pa b.parts.length s5.pc, .slice s5.wa b.waits.length s5.wc] 29) = V := ⟨_, rfl⟩
  have szV5 : w5.heap.size < V5.heap.size := by rw [← hVV5]; simp
  rw [hVV5] at bV MX
  replace XC := Lib.hid (XC.out.below bV)
  replace R := Lib.hid (R.out.below bV)
  replace D := Lib.hid (below_trans D.out bV)
  replace MO := Lib.hid (MO.out.below bV)
  replace Pf := Lib.hid (Pf.out.below bV)
  clear bV
  have y4w := MX.out.c.c4
  have yfw := MX.out.f.1
  obtain ⟨V6, hVV6⟩ : ∃ W, V5.setCell ⟨w5.heap.size, 4, none⟩ (.slice (some ⟨xf, 0, none⟩) f.length cf) = W := ⟨_, rfl⟩
  have hbs : Below V.heap.size V5 V6 := by rw [← hVV6]; exact (Below.refl _ _).setCell (by show V.heap.size ≤ w5.heap.size; omega) _
  have szV6 := hbs.size
  replace MX := Lib.hid (show MineB V6 w5.heap.size V.heap.size (b.wFolk f) (s5.wF (some ⟨xf, 0, none⟩) cf) from by rw [← hVV6]; exact MX.out.putFolk' Pf.out CCf.out (by omega) (by omega))
  replace XC := Lib.hid (XC.out.under hbs (by omega))
  replace R := Lib.hid (R.out.under hbs (by omega))
  replace D := Lib.hid (D.out.trans (hbs.mono (by omega)))
  replace MO := Lib.hid (MO.out.kept hbs (by omega) (OLDs3.out.mono (by omega)))
  clear hbs
  obtain ⟨x, HXN⟩ : ∃ q, Hid (b.wFolk f = q) := ⟨_, Lib.hid rfl⟩
  have HLX := Lib.hid (show BLen x by rw [← HXN.out]; exact ⟨hbf, HL.out.ml, HL.out.pl, HL.out.wl⟩)
  have HZX := Lib.hid (show BSized x by rw [← HXN.out]; exact ⟨by show Sized (pnames f); rw [HNMf.out]; exact HZ.out.fs, HZ.out.ms, HZ.out.ps, HZ.out.ws⟩)
  have hkx : k < x.mills.length := by rw [← HXN.out]; exact hklk
  rw [HXN.out] at MX HN
  go_wp2_with fail
  refine (l9Lend_any who k n MX.out hkx HLX.out HZX.out HW.out).mono ?_
  rintro e w7 ⟨rfl, hb, hok⟩
  have HOK := Lib.hid hok
  have sz7 := hb.size
  clear hok
  replace XC := Lib.hid (XC.out.under hb (by omega))
  replace R := Lib.hid (R.out.under hb (by omega))
  replace D := Lib.hid (D.out.trans (hb.mono (by omega)))
  replace MO := Lib.hid (MO.out.kept hb (by omega) (OLDs3.out.mono (by omega)))
  clear hb

  obtain ⟨c, HCC⟩ : ∃ c, Hid (lendC x who k n = c) := ⟨_, Lib.hid rfl⟩
  rw [HCC.out] at HOK HN
  rw [HCC.out]
  by_cases hc : c = 0
  case neg =>
    have HQ := Lib.hid (HN.out.trans (if_neg hc))
    have HE := Lib.hid (show ResK (lentL b who mill n).1 (lentL b who mill n).2 w.heap.size w (.returned (.tuple #[.agg #[.int .i64 b.season, .int .i64 b.supply, .int .i64 b.burnt, .int .i64 b.pot, .slice s3.fa b.folk.length s3.fc, .slice s3.ma b.mills.length s3.mc, .slice s3.pa b.parts.length s3.pc, .slice s3.wa b.waits.length s3.wc], .int .i64 c])) (putB w7 (w.heap.size + 1) b s3) from by
      have e : lentL b who mill n = (b, c) := HQ.out
      rw [e]
      exact ⟨s3, rfl, (MO.out.o.grown (putB_grown _ _ _ _) (by omega)).mono (by omega), putB_below D.out (by omega) _ _⟩)
    unfold putB at HE
    have y0 := MO.out.c.c0
    have y1 := MO.out.c.c1
    have y2 := MO.out.c.c2
    have y3 := MO.out.c.c3
    have y4 := MO.out.c.c4
    have y5 := MO.out.c.c5
    have y6 := MO.out.c.c6
    have y7 := MO.out.c.c7
    have r0 := R.out.has 0 _ rfl
    have r1 := R.out.has 1 _ rfl
    have r2 := R.out.has 2 _ rfl
    have r3 := R.out.has 3 _ rfl
    have r4 := R.out.has 4 _ rfl
    have r5 := R.out.has 5 _ rfl
    have r6 := R.out.has 6 _ rfl
    have r7 := R.out.has 7 _ rfl
    have rf := R.out.free
    go_wp2
    exact bodyPost_ret (v := .tuple #[.agg #[.int .i64 b.season, .int .i64 b.supply, .int .i64 b.burnt, .int .i64 b.pot, .slice s3.fa b.folk.length s3.fc, .slice s3.ma b.mills.length s3.mc, .slice s3.pa b.parts.length s3.pc, .slice s3.wa b.waits.length s3.wc], .int .i64 c]) (by simp [results, Tryz.results121, go_sem, r0, r1, r2, r3, r4, r5, r6, r7]) rfl HE.out
  replace HN := Lib.hid (HN.out.trans (if_pos hc))
  obtain ⟨t7, hM7⟩ := HOK.out hc
  replace MX := Lib.hid hM7
  subst hc
  clear hM7 HOK
  have HLO := Lib.hid (lendX_len HLX.out who k n)
  have HZO := Lib.hid (lendX_sized HZX.out HW.out hkx n)
  have HRZ := Lib.hid (HN.out)
  obtain ⟨o, HO⟩ : ∃ o, Hid (lendX x who k n = o) := ⟨_, Lib.hid rfl⟩
  obtain ⟨t, HT⟩ : ∃ t, Hid (t7 = t) := ⟨_, Lib.hid rfl⟩
  rw [HO.out] at MX HLO HZO HRZ
  rw [HT.out] at MX
  have hMb := MX.out.base
  have x0 := XC.out.c0
  have x1 := XC.out.c1
  have x2 := XC.out.c2
  have x3 := XC.out.c3
  have x4 := XC.out.c4
  have x5 := XC.out.c5
  have x6 := XC.out.c6
  have x7 := XC.out.c7
  have y0 := MX.out.c.c0
  have y1 := MX.out.c.c1
  have y2 := MX.out.c.c2
  have y3 := MX.out.c.c3
  have y4 := MX.out.c.c4
  have y5 := MX.out.c.c5
  have y6 := MX.out.c.c6
  have y7 := MX.out.c.c7

  go_wp2_with fail
  refine (l8Done_any (b := b) (o := o) (s := s) (t := t) (HH.out.below D.out) HR.out HL.out MX.out.o HLO.out HZO.out hMb).mono ?_
  obtain ⟨r, Hr⟩ : ∃ r, Hid (doneB b o = r) := ⟨_, Lib.hid rfl⟩
  obtain ⟨c, Hc⟩ : ∃ c, Hid (doneC o = c) := ⟨_, Lib.hid rfl⟩
  rw [Hr.out, Hc.out]
  rw [Hr.out, Hc.out] at HRZ
  rintro e w9 ⟨s9, rfl, ho, hb⟩
  replace R := Lib.hid (R.out.below hb)
  replace D := Lib.hid (below_trans D.out hb)
  have HE := Lib.hid (show ResK (lentL b who mill n).1 (lentL b who mill n).2 w.heap.size w (.returned (.tuple #[.agg #[.int .i64 r.season, .int .i64 r.supply, .int .i64 r.burnt, .int .i64 r.pot, .slice s9.fa r.folk.length s9.fc, .slice s9.ma r.mills.length s9.mc, .slice s9.pa r.parts.length s9.pc, .slice s9.wa r.waits.length s9.wc], .int .i64 c])) (putB w9 (w.heap.size + 1) r s9) from by
    rw [HRZ.out]
    exact ⟨s9, rfl, (ho.grown (putB_grown _ _ _ _) (by omega)).mono (by omega), putB_below D.out (by omega) _ _⟩)
  unfold putB at HE
  clear ho hb
  have r0 := R.out.has 0 _ rfl
  have r1 := R.out.has 1 _ rfl
  have r2 := R.out.has 2 _ rfl
  have r3 := R.out.has 3 _ rfl
  have r4 := R.out.has 4 _ rfl
  have r5 := R.out.has 5 _ rfl
  have r6 := R.out.has 6 _ rfl
  have r7 := R.out.has 7 _ rfl
  have rf := R.out.free
  go_wp2
  exact bodyPost_ret (v := .tuple #[.agg #[.int .i64 r.season, .int .i64 r.supply, .int .i64 r.burnt, .int .i64 r.pot, .slice s9.fa r.folk.length s9.fc, .slice s9.ma r.mills.length s9.mc, .slice s9.pa r.parts.length s9.pc, .slice s9.wa r.waits.length s9.wc], .int .i64 c]) (by simp [results, Tryz.results121, go_sem, r0, r1, r2, r3, r4, r5, r6, r7]) rfl HE.out
end Go.Proofs.YtlnnchgaloejlaaGreat
