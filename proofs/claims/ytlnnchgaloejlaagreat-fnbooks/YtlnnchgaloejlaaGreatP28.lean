/-
  Texts joined: JoinN, JoinD, Add.
-/
import Derived.Test.YtlnnchgaloejlaaGreatP17
import Derived.Test.YtlnnchgaloejlaaGreatP26
import Derived.Test.YtlnnchgaloejlaaGreatP27
import Derived.Deep.RegionHeld3
namespace Go.Proofs.YtlnnchgaloejlaaGreat
open Go.ChangeShapes Go.WideShapes Go.ChangeAt Go.RowKit

set_option maxRecDepth 100000 in
set_option maxHeartbeats 16000000 in
set_option maxRecDepth 100000 in
theorem sJoined_nil {w : World} {b : Bok} {s : Spots} (name : ByteArray) (h : BookAt w b s) (hr : Roots b s) (hl : BLen b) (hz : BSized b) (hn : name.size ≤ maxLen) (hlm : b.folk.length ≤ 1000000) (hcs : s.fa = none ∧ s.fc = 0 ∧ b.folk = []) :
    Calls Tryz.prog 119 #[.agg #[.int .i64 b.season, .int .i64 b.supply, .int .i64 b.burnt, .int .i64 b.pot, .slice s.fa b.folk.length s.fc, .slice s.ma b.mills.length s.mc, .slice s.pa b.parts.length s.pc, .slice s.wa b.waits.length s.wc], .string name] w (ResK (joinL b name).1 (joinL b name).2 w.heap.size w) := by
  have HNS := Lib.hid hn
  have HLM := Lib.hid hlm
  have HCS := Lib.hid hcs
  clear hn hlm hcs
  have HH := Lib.hid h
  have HR := Lib.hid hr
  have HL := Lib.hid hl
  have HZ := Lib.hid hz
  have l1 := hl.fl
  have l2 := hl.ml
  have l3 := hl.pl
  have l4 := hl.wl
  have XC := Lib.hid (CellB.new w b s 29)
  have D := Lib.hid (below_new w (.cells #[.int .i64 b.season, .int .i64 b.supply, .int .i64 b.burnt, .int .i64 b.pot, .slice s.fa b.folk.length s.fc, .slice s.ma b.mills.length s.mc, .slice s.pa b.parts.length s.pc, .slice s.wa b.waits.length s.wc] 29))
  obtain ⟨W0, hW0⟩ : ∃ W, w.alloc (.cells #[.int .i64 b.season, .int .i64 b.supply, .int .i64 b.burnt, .int .i64 b.pot, .slice s.fa b.folk.length s.fc, .slice s.ma b.mills.length s.mc, .slice s.pa b.parts.length s.pc, .slice s.wa b.waits.length s.wc] 29) = W := ⟨_, rfl⟩
  have hs0 : W0.heap.size = w.heap.size + 1 := by rw [← hW0]; simp
  rw [hW0] at XC D
  have bz := below_new W0 (.cells #[.int .i64 0, .int .i64 0, .int .i64 0, .int .i64 0, .slice none 0 0, .slice none 0 0, .slice none 0 0, .slice none 0 0] 29)
  have R := Lib.hid (OutV.new W0 [.int .i64 0, .int .i64 0, .int .i64 0, .int .i64 0, .slice none 0 0, .slice none 0 0, .slice none 0 0, .slice none 0 0] 29)
  obtain ⟨W1, hW1⟩ : ∃ W, W0.alloc (.cells #[.int .i64 0, .int .i64 0, .int .i64 0, .int .i64 0, .slice none 0 0, .slice none 0 0, .slice none 0 0, .slice none 0 0] 29) = W := ⟨_, rfl⟩
  rw [show W0.alloc (.cells ([.int .i64 0, .int .i64 0, .int .i64 0, .int .i64 0, .slice none 0 0, .slice none 0 0, .slice none 0 0, .slice none 0 0] : List Value).toArray 29) = W1 from hW1, hs0] at R
  rw [hW1] at bz
  replace XC := Lib.hid (XC.out.below bz)
  replace D := Lib.hid (below_trans D.out bz)
  clear bz h hr hl hz
  have x0 := XC.out.c0
  have x1 := XC.out.c1
  have x2 := XC.out.c2
  have x3 := XC.out.c3
  have x4 := XC.out.c4
  have x5 := XC.out.c5
  have x6 := XC.out.c6
  have x7 := XC.out.c7

  go_enter Tryz.func119, Tryz.ntmps119
  go_wp2_with fail
  refine (sBookOk_any (s := s) (HH.out.below D.out) HL.out HZ.out).mono ?_
  rintro e w2 ⟨rfl, hb⟩
  clear x0 x1 x2 x3 x4 x5 x6 x7
  replace XC := Lib.hid (XC.out.below hb)
  replace R := Lib.hid (R.out.below hb)
  replace D := Lib.hid (below_trans D.out hb)
  clear hb

  cases hk : bookB b
  · have HE := Lib.hid (show ResK (joinL b name).1 (joinL b name).2 w.heap.size w (.returned (.tuple #[.agg #[.int .i64 0, .int .i64 0, .int .i64 0, .int .i64 0, .slice none 0 0, .slice none 0 0, .slice none 0 0, .slice none 0 0], .int .i64 7])) (putB w2 (w.heap.size + 1) bok0 ⟨none, 0, none, 0, none, 0, none, 0⟩) from by
      have e : joinL b name = (bok0, 7) := by rw [joinL, hk]; rfl
      rw [e]
      exact ⟨⟨none, 0, none, 0, none, 0, none, 0⟩, rfl, ownB_nil _ _ _ ⟨.inl ⟨rfl, rfl⟩, .inl ⟨rfl, rfl⟩, .inl ⟨rfl, rfl⟩, .inl ⟨rfl, rfl⟩, Nat.le_refl _, Nat.le_refl _, Nat.le_refl _, Nat.le_refl _⟩, putB_below D.out (by omega) _ _⟩)
    unfold putB at HE
    have r0 := R.out.has 0 _ rfl
    have r1 := R.out.has 1 _ rfl
    have r2 := R.out.has 2 _ rfl
    have r3 := R.out.has 3 _ rfl
    have r4 := R.out.has 4 _ rfl
    have r5 := R.out.has 5 _ rfl
    have r6 := R.out.has 6 _ rfl
    have r7 := R.out.has 7 _ rfl
    have rf := R.out.free
    go_wp2
    exact bodyPost_ret (v := .tuple #[.agg #[.int .i64 0, .int .i64 0, .int .i64 0, .int .i64 0, .slice none 0 0, .slice none 0 0, .slice none 0 0, .slice none 0 0], .int .i64 7]) (by simp [results, Tryz.results119, go_sem, r0, r1, r2, r3, r4, r5, r6, r7]) rfl HE.out
  have HN := Lib.hid (show joinL b name = _ from (show joinL b name = if bookB b = true then _ else _ from rfl).trans (if_pos hk))
  have HK := Lib.hid hk
  clear hk
  have x0 := XC.out.c0
  have x1 := XC.out.c1
  have x2 := XC.out.c2
  have x3 := XC.out.c3
  have x4 := XC.out.c4
  have x5 := XC.out.c5
  have x6 := XC.out.c6
  have x7 := XC.out.c7

  have hltR3 := R.out.lt
  go_wp2_with fail
  refine (l7Copy_sol (s := s) (HH.out.below D.out) HR.out HL.out).mono ?_
  rintro e w3 ⟨s3, rfl, ho, hb, hso⟩
  clear x0 x1 x2 x3 x4 x5 x6 x7
  have sz3 := hb.size
  have MO := Lib.hid (MineB.copy ho hso hb.size 29)
  have OLDs3 := Lib.hid (ho.at.bold)
  clear ho hso
  replace XC := Lib.hid (XC.out.below hb)
  replace R := Lib.hid (R.out.below hb)
  replace D := Lib.hid (below_trans D.out hb)
  clear hb

  have bV := below_new w3 (.cells #[.int .i64 b.season, .int .i64 b.supply, .int .i64 b.burnt, .int .i64 b.pot, .slice s3.fa b.folk.length s3.fc, .slice s3.ma b.mills.length s3.mc, .slice s3.pa b.parts.length s3.pc, .slice s3.wa b.waits.length s3.wc] 29)
  obtain ⟨V, hVV⟩ : ∃ V, w3.alloc (.cells #[.int .i64 b.season, .int .i64 b.supply, .int .i64 b.burnt, .int .i64 b.pot, .slice s3.fa b.folk.length s3.fc, .slice s3.ma b.mills.length s3.mc, .slice s3.pa b.parts.length s3.pc, .slice s3.wa b.waits.length s3.wc] 29) = V := ⟨_, rfl⟩
  have szV : w3.heap.size < V.heap.size := by rw [← hVV]; simp
  rw [hVV] at bV MO
  replace XC := Lib.hid (XC.out.below bV)
  replace R := Lib.hid (R.out.below bV)
  replace D := Lib.hid (below_trans D.out bV)
  clear bV
  go_wp2_with fail
  refine (sNameOk_any name _ HNS.out).mono ?_
  rintro e w' ⟨rfl, rfl⟩
  cases hnm : nameB name
  · have HQ := Lib.hid (HN.out.trans (if_neg (by rw [hnm]; simp)))
    have HE := Lib.hid (show ResK (joinL b name).1 (joinL b name).2 w.heap.size w (.returned (.tuple #[.agg #[.int .i64 b.season, .int .i64 b.supply, .int .i64 b.burnt, .int .i64 b.pot, .slice s3.fa b.folk.length s3.fc, .slice s3.ma b.mills.length s3.mc, .slice s3.pa b.parts.length s3.pc, .slice s3.wa b.waits.length s3.wc], .int .i64 7])) (putB V (w.heap.size + 1) b s3) from by
      have e : joinL b name = (b, 7) := HQ.out
      rw [e]
      exact ⟨s3, rfl, (MO.out.o.grown (putB_grown _ _ _ _) (by omega)).mono (by omega), putB_below D.out (by omega) _ _⟩)
    unfold putB at HE
    have y0 := MO.out.c.c0
    have y1 := MO.out.c.c1
    have y2 := MO.out.c.c2
    have y3 := MO.out.c.c3
    have y4 := MO.out.c.c4
    have y5 := MO.out.c.c5
    have y6 := MO.out.c.c6
    have y7 := MO.out.c.c7
    have r0 := R.out.has 0 _ rfl
    have r1 := R.out.has 1 _ rfl
    have r2 := R.out.has 2 _ rfl
    have r3 := R.out.has 3 _ rfl
    have r4 := R.out.has 4 _ rfl
    have r5 := R.out.has 5 _ rfl
    have r6 := R.out.has 6 _ rfl
    have r7 := R.out.has 7 _ rfl
    have rf := R.out.free
    go_wp2
    exact bodyPost_ret (v := .tuple #[.agg #[.int .i64 b.season, .int .i64 b.supply, .int .i64 b.burnt, .int .i64 b.pot, .slice s3.fa b.folk.length s3.fc, .slice s3.ma b.mills.length s3.mc, .slice s3.pa b.parts.length s3.pc, .slice s3.wa b.waits.length s3.wc], .int .i64 7]) (by simp [results, Tryz.results119, go_sem, r0, r1, r2, r3, r4, r5, r6, r7]) rfl HE.out
  replace HN := Lib.hid (HN.out.trans (if_pos hnm))
  clear hnm
  have x4 := XC.out.c4
  go_wp2_with fail
  refine (l3Find_any _ _ (HH.out.folk.below D.out) (by omega)).mono ?_
  rintro e w' ⟨rfl, rfl⟩
  clear x4
  by_cases hp : 0 ≤ placeV (pnames b.folk) name
  case pos =>
    have HQ := Lib.hid (HN.out.trans (if_pos hp))
    obtain ⟨j, ek, -, -⟩ := place_hit hp
    rw [ek]
    have HE := Lib.hid (show ResK (joinL b name).1 (joinL b name).2 w.heap.size w (.returned (.tuple #[.agg #[.int .i64 b.season, .int .i64 b.supply, .int .i64 b.burnt, .int .i64 b.pot, .slice s3.fa b.folk.length s3.fc, .slice s3.ma b.mills.length s3.mc, .slice s3.pa b.parts.length s3.pc, .slice s3.wa b.waits.length s3.wc], .int .i64 2])) (putB V (w.heap.size + 1) b s3) from by
      have e : joinL b name = (b, 2) := HQ.out
      rw [e]
      exact ⟨s3, rfl, (MO.out.o.grown (putB_grown _ _ _ _) (by omega)).mono (by omega), putB_below D.out (by omega) _ _⟩)
    unfold putB at HE
    have y0 := MO.out.c.c0
    have y1 := MO.out.c.c1
    have y2 := MO.out.c.c2
    have y3 := MO.out.c.c3
    have y4 := MO.out.c.c4
    have y5 := MO.out.c.c5
    have y6 := MO.out.c.c6
    have y7 := MO.out.c.c7
    have r0 := R.out.has 0 _ rfl
    have r1 := R.out.has 1 _ rfl
    have r2 := R.out.has 2 _ rfl
    have r3 := R.out.has 3 _ rfl
    have r4 := R.out.has 4 _ rfl
    have r5 := R.out.has 5 _ rfl
    have r6 := R.out.has 6 _ rfl
    have r7 := R.out.has 7 _ rfl
    have rf := R.out.free
    go_wp2
    exact bodyPost_ret (v := .tuple #[.agg #[.int .i64 b.season, .int .i64 b.supply, .int .i64 b.burnt, .int .i64 b.pot, .slice s3.fa b.folk.length s3.fc, .slice s3.ma b.mills.length s3.mc, .slice s3.pa b.parts.length s3.pc, .slice s3.wa b.waits.length s3.wc], .int .i64 2]) (by simp [results, Tryz.results119, go_sem, r0, r1, r2, r3, r4, r5, r6, r7]) rfl HE.out
  replace HN := Lib.hid (HN.out.trans (if_neg hp))
  have hlo := place_lo (pnames b.folk) name
  have hpe : placeV (pnames b.folk) name = -1 := by omega
  rw [hpe]
  clear hp hpe hlo
  have x4 := XC.out.c4
  go_wp2_with fail
  clear x4
  obtain ⟨i0, hi, hz0, hz1, hz2⟩ := info_parts info_purse2
  have HI := Lib.hid hi
  have HZ0 := Lib.hid hz0
  have HZ1 := Lib.hid hz1
  have HZ2 := Lib.hid hz2
  clear hi hz0 hz1 hz2
  obtain ⟨ea, ec, em⟩ := HCS.out
  have EA := Lib.hid ea
  have EC := Lib.hid ec
  have EM := Lib.hid em
  have EL := Lib.hid (show b.folk.length = 0 by rw [em]; rfl)
  rw [em] at HN
  clear ea ec em HCS
  go_loopw [7] (fun i w' => ∃ k : Nat, k ≤ b.folk.length ∧ i = .int .i64 k ∧ Below V.heap.size V w' ∧ ∀ j, j < k → Op.bytesLess (sat (pnames b.folk) j).toList name.toList = true) (fun i _ => b.folk.length - (intOf i).toNat)
  case atStart => exact ⟨0, Nat.zero_le _, rfl, Below.refl _ _, fun _ h => by omega⟩
  case round =>
    obtain ⟨k, hk, rfl, hbw, hu⟩ := hrel
    have HU := Lib.hid hu
    obtain rfl : k = 0 := by have := EL.out; omega
    have HBW := Lib.hid hbw
    clear hu
    replace XC := Lib.hid (XC.out.below hbw)
    replace R := Lib.hid (R.out.below hbw)
    replace D := Lib.hid (below_trans D.out hbw)
    replace MO := Lib.hid (MO.out.below hbw)
    clear hbw
    have x4 := XC.out.c4
    rw [EA.out, EC.out, EL.out] at x4
    have HCA := Lib.hid (join0A (w := wr) (name := name))
    have HCB := Lib.hid (join0B (w := wr) (name := name))
    have xL := (XC.out.below (below_new wr (.cells #[.string name, .int .i64 0] 41))).c4
    rw [EA.out, EC.out, EL.out] at xL
    go_wp2_with fail
    have x40 := XC.out.c4
    rw [EA.out, EC.out, EL.out] at x40
    have hXV : w.heap.size ≠ w3.heap.size := by omega
    go_region_held3 (fun w' => w'.cell? ⟨w.heap.size, 4, none⟩ = some (.slice none 0 0))
      (first | with_reducible exact x40 | with_reducible exact xL | with_reducible exact x44 | with_reducible exact x44l | with_reducible exact x56 | (with_reducible exact cell_else _ x56 hXV) | exact (show World.cell? wr _ = _ from x40) | exact (show World.cell? (wr.alloc _) _ = _ from xL))
      (first
      | (refine step_append_some rfl (.tmp 47) (.tmp 50) 24 rfl wr.heap.size 41 i0 (.agg #[.string ByteArray.empty, .int .i64 0]) 2 24 Tryz.underlying24 HI.out HZ0.out HZ1.out HZ2.out rfl (by decide) g4 c4 0 [] (by first | rfl | (simp [Act.eval]; done) | simp [Act.eval, Act.put]) HO4b.out ⟨w4.heap.size, 0, none⟩ 1 1 (Pur.cells ⟨name, 0⟩) (by first | rfl | (simp [Act.eval, Act.put]; done) | simp [Act.eval, Act.put, hA]) rfl HN4b.out (purs_one _) (by unfold maxLen; omega) (by omega) ?_; rintro g6 c6 w6 ⟨h5, h5g, h5b, h5l, h5x⟩; have HO6 := Lib.hid (row_zero h5); have HB6 := Lib.hid (bgrown HB4b.out HB4b.out.size h5g (by intro z hz; injection hz with hz; omega)); have x56 := (XC.out.below HB6.out).c4; rw [EA.out, EC.out, EL.out] at x56; have y57 := (MO.out.below HB6.out).c.c4; have y57f := (MO.out.below HB6.out).f.1; clear h5 h5g h5b h5l h5x)
      | (refine step_append_some rfl (.tmp 47) (.tmp 50) 24 rfl wr.heap.size 41 i0 (.agg #[.string ByteArray.empty, .int .i64 0]) 2 24 Tryz.underlying24 HI.out HZ0.out HZ1.out HZ2.out rfl (by decide) g4 c4 0 [] (by first | rfl | (simp [Act.eval]; done) | simp [Act.eval, Act.put]) HO4.out ⟨wr.heap.size, 0, none⟩ 1 1 (Pur.cells ⟨name, 0⟩) (by first | rfl | (simp [Act.eval, Act.put]; done) | simp [Act.eval, Act.put, hA]) rfl HN4.out (purs_one _) (by unfold maxLen; omega) (by omega) ?_; rintro g6 c6 w6 ⟨h5, h5g, h5b, h5l, h5x⟩; have HO6 := Lib.hid (row_zero h5); have HB6 := Lib.hid (bgrown HB4.out HB4.out.size h5g (by intro z hz; injection hz with hz; omega)); have x56 := (XC.out.below HB6.out).c4; rw [EA.out, EC.out, EL.out] at x56; have y57 := (MO.out.below HB6.out).c.c4; have y57f := (MO.out.below HB6.out).f.1; clear h5 h5g h5b h5l h5x)
      | (refine step_append_none rfl (.tmp 51) (.tmp 55) 24 rfl wr.heap.size 41 i0 2 Tryz.underlying24 HI.out (.slice (some ⟨g6, 0, none⟩) 1 c6) 1 (Pur.cells ⟨name, 0⟩) (by first | rfl | (simp [Act.eval]; done) | simp [Act.eval, Act.put]) HO6.out (by first | rfl | (simp [Act.eval]; done) | simp [Act.eval, Act.put]) ?_)
      | (go_simp; go_at_call 24; first
        | ((with_reducible refine (HCA.out).mono ?_); rintro e w4 ⟨g4, c4, rfl, ho4, hb4, hb4l, hw4⟩; have HO4b := Lib.hid ho4; have HB4b := Lib.hid hb4l; have HN4b := Lib.hid (recP_new name w4); have x44 := (XC.out.below hb4).c4; have x44l := (XC.out.below hb4l).c4; rw [EA.out, EC.out, EL.out] at x44 x44l; clear ho4 hb4 hb4l)
        | ((with_reducible refine (HCB.out).mono ?_); rintro e w4 ⟨g4, c4, rfl, ho4, hb4, hw4, hn4⟩; have HO4 := Lib.hid ho4; have HB4 := Lib.hid hb4; have HN4 := Lib.hid hn4; have x44 := (XC.out.below hb4).c4; rw [EA.out, EC.out, EL.out] at x44; clear ho4 hb4 hn4)))
    all_goals
      obtain ⟨HP, hpl, hpc, hpg⟩ := putP_own0 (m := ⟨name, 0⟩) HO6.out
      have hC0 := MO.out.base
      have HM := Lib.hid (MO.out.putFolk HB6.out HP hpc hpg)
      rw [hpl] at HM
      have HLO := Lib.hid (show BLen (b.wFolk (putP [] ⟨name, 0⟩)) from ⟨by show (putP [] ⟨name, 0⟩).length ≤ 1048576; rw [hpl]; have := HLM.out; omega, HL.out.ml, HL.out.pl, HL.out.wl⟩)
      have HZO := Lib.hid (show BSized (b.wFolk (putP [] ⟨name, 0⟩)) from ⟨putP_sized (ps := []) (Sized.of (n := 0) (fun s hs => by simp [pnames] at hs) (Nat.zero_le _)) HNS.out, HZ.out.ms, HZ.out.ps, HZ.out.ws⟩)
      have hbs := Below.setCell (HB6.out.mono hC0) (p := ⟨w3.heap.size, 4, none⟩) (by show w2.heap.size ≤ w3.heap.size; omega) (.slice (some ⟨g6, 0, none⟩) (1) c6)
      obtain ⟨W8, hW8⟩ : ∃ W, w6.setCell ⟨w3.heap.size, 4, none⟩ (.slice (some ⟨g6, 0, none⟩) (1) c6) = W := ⟨_, rfl⟩
      rw [hW8] at HM
      rw [hW8]
      rw [hW8] at hbs
      have szW8 := hbs.size
      replace XC := Lib.hid (XC.out.under hbs (by omega))
      replace R := Lib.hid (R.out.under hbs (by omega))
      replace D := Lib.hid (D.out.trans (hbs.mono (by omega)))
      have HRZ := Lib.hid (HN.out)
      obtain ⟨o, HO⟩ : ∃ o, Hid (b.wFolk (putP [] ⟨name, 0⟩) = o) := ⟨_, Lib.hid rfl⟩
      obtain ⟨t, HT⟩ : ∃ t, Hid (s3.wF (some ⟨g6, 0, none⟩) c6 = t) := ⟨_, Lib.hid rfl⟩
      rw [HO.out] at HM HLO HZO HRZ
      rw [HT.out] at HM
      have hMb := HM.out.base
      have x0 := XC.out.c0
      have x1 := XC.out.c1
      have x2 := XC.out.c2
      have x3 := XC.out.c3
      have x4 := XC.out.c4
      have x5 := XC.out.c5
      have x6 := XC.out.c6
      have x7 := XC.out.c7
      have y0 := HM.out.c.c0
      have y1 := HM.out.c.c1
      have y2 := HM.out.c.c2
      have y3 := HM.out.c.c3
      have y4 := HM.out.c.c4
      have y5 := HM.out.c.c5
      have y6 := HM.out.c.c6
      have y7 := HM.out.c.c7

      go_wp2_with fail
      refine (l8Done_any (b := b) (o := o) (s := s) (t := t) (HH.out.below D.out) HR.out HL.out HM.out.o HLO.out HZO.out hMb).mono ?_
      obtain ⟨r, Hr⟩ : ∃ r, Hid (doneB b o = r) := ⟨_, Lib.hid rfl⟩
      obtain ⟨c, Hc⟩ : ∃ c, Hid (doneC o = c) := ⟨_, Lib.hid rfl⟩
      rw [Hr.out, Hc.out]
      rw [Hr.out, Hc.out] at HRZ
      rintro e w9 ⟨s9, rfl, ho, hb⟩
      replace R := Lib.hid (R.out.below hb)
      replace D := Lib.hid (below_trans D.out hb)
      have HE := Lib.hid (show ResK (joinL b name).1 (joinL b name).2 w.heap.size w (.returned (.tuple #[.agg #[.int .i64 r.season, .int .i64 r.supply, .int .i64 r.burnt, .int .i64 r.pot, .slice s9.fa r.folk.length s9.fc, .slice s9.ma r.mills.length s9.mc, .slice s9.pa r.parts.length s9.pc, .slice s9.wa r.waits.length s9.wc], .int .i64 c])) (putB w9 (w.heap.size + 1) r s9) from by
        rw [HRZ.out]
        exact ⟨s9, rfl, (ho.grown (putB_grown _ _ _ _) (by omega)).mono (by omega), putB_below D.out (by omega) _ _⟩)
      unfold putB at HE
      clear ho hb
      have r0 := R.out.has 0 _ rfl
      have r1 := R.out.has 1 _ rfl
      have r2 := R.out.has 2 _ rfl
      have r3 := R.out.has 3 _ rfl
      have r4 := R.out.has 4 _ rfl
      have r5 := R.out.has 5 _ rfl
      have r6 := R.out.has 6 _ rfl
      have r7 := R.out.has 7 _ rfl
      have rf := R.out.free
      go_wp2
      exact bodyPost_ret (v := .tuple #[.agg #[.int .i64 r.season, .int .i64 r.supply, .int .i64 r.burnt, .int .i64 r.pot, .slice s9.fa r.folk.length s9.fc, .slice s9.ma r.mills.length s9.mc, .slice s9.pa r.parts.length s9.pc, .slice s9.wa r.waits.length s9.wc], .int .i64 c]) (by simp [results, Tryz.results119, go_sem, r0, r1, r2, r3, r4, r5, r6, r7]) rfl HE.out
end Go.Proofs.YtlnnchgaloejlaaGreat
namespace Go.Proofs.YtlnnchgaloejlaaGreat
open Go.ChangeShapes Go.WideShapes Go.ChangeAt Go.RowKit

theorem sJoined_any {w : World} {b : Bok} {s : Spots} (name : ByteArray) (h : BookAt w b s) (hr : Roots b s) (hl : BLen b) (hz : BSized b) (hn : name.size ≤ maxLen) (hlm : b.folk.length ≤ 1000000) :
    Calls Tryz.prog 119 #[.agg #[.int .i64 b.season, .int .i64 b.supply, .int .i64 b.burnt, .int .i64 b.pot, .slice s.fa b.folk.length s.fc, .slice s.ma b.mills.length s.mc, .slice s.pa b.parts.length s.pc, .slice s.wa b.waits.length s.wc], .string name] w (ResK (joinL b name).1 (joinL b name).2 w.heap.size w) := by
  rcases hr.f with ⟨ea, ec⟩ | ⟨xm, ea⟩
  · exact sJoined_nil name h hr hl hz hn hlm ⟨ea, ec, purs_none (by have := h.folk; rw [ea] at this; exact this)⟩
  · have hlo := lowN_le (pnames b.folk) name
    rw [len_pn] at hlo
    by_cases e : lowN (pnames b.folk) name = b.folk.length
    · exact sJoined_end name h hr hl hz hn hlm ⟨⟨xm, ea⟩, e⟩
    · exact sJoined_mid name h hr hl hz hn hlm ⟨⟨xm, ea⟩, by omega⟩
end Go.Proofs.YtlnnchgaloejlaaGreat
namespace Go.Proofs.YtlnnchgaloejlaaGreat
open Go.ChangeShapes Go.WideShapes Go.ChangeAt Go.RowKit

def okA (a b : Int) : Bool := inB 0 1000000 a && (inB 0 1000000 b && inB 0 1000000 (a + b))
def addN (a b : Int) : Int := if okA a b = true then a + b else 0

theorem okA_true {a b : Int} (h : okA a b = true) : inB 0 1000000 a = true ∧ inB 0 1000000 b = true ∧ inB 0 1000000 (a + b) = true := by
  simpa only [okA, Bool.and_eq_true] using h

set_option maxHeartbeats 1000000 in
set_option maxRecDepth 100000 in
theorem sAdded_any (a b : Int) (w : World) :
    Calls Tryz.prog 156 #[.int .i64 a, .int .i64 b] w fun e w' => e = .returned (.tuple #[.int .i64 (addN a b), .bool (okA a b)]) ∧ w = w' := by
  cases h1 : inB 0 1000000 a
  · have hd : okA a b = false := by simp [okA, h1]
    have hn : addN a b = 0 := by simp [addN, hd]
    rw [hd, hn]; clear hd hn
    go_enter Tryz.func156, Tryz.ntmps156
    go_wp2_with (go_at_call 67; refine (sAmountOk_any _ _).mono ?_; rintro e w' ⟨rfl, rfl⟩; rw [h1])
    go_ret2
    exact ⟨rfl, rfl⟩
  · cases h2 : inB 0 1000000 b
    · have hd : okA a b = false := by simp [okA, h2]
      have hn : addN a b = 0 := by simp [addN, hd]
      rw [hd, hn]; clear hd hn
      go_enter Tryz.func156, Tryz.ntmps156
      go_wp2_with (go_at_call 67; refine (sAmountOk_any _ _).mono ?_; rintro e w' ⟨rfl, rfl⟩; first | rw [h1] | rw [h2])
      go_ret2
      exact ⟨rfl, rfl⟩
    · obtain ⟨a1, a2⟩ := inB_true h1
      obtain ⟨b1, b2⟩ := inB_true h2
      cases h3 : inB 0 1000000 (a + b)
      · have hd : okA a b = false := by simp [okA, h3]
        have hn : addN a b = 0 := by simp [addN, hd]
        rw [hd, hn]; clear hd hn
        go_enter Tryz.func156, Tryz.ntmps156
        go_wp2_with (go_at_call 67; refine (sAmountOk_any _ _).mono ?_; rintro e w' ⟨rfl, rfl⟩; first | rw [h3] | rw [h1] | rw [h2])
        go_ret2
        exact ⟨rfl, rfl⟩
      · have hd : okA a b = true := by simp [okA, h1, h2, h3]
        have hn : addN a b = a + b := by simp [addN, hd]
        rw [hd, hn]; clear hd hn
        go_enter Tryz.func156, Tryz.ntmps156
        go_wp2_with (go_at_call 67; refine (sAmountOk_any _ _).mono ?_; rintro e w' ⟨rfl, rfl⟩; first | rw [h3] | rw [h1] | rw [h2])
        go_ret2
        exact ⟨rfl, rfl⟩

end Go.Proofs.YtlnnchgaloejlaaGreat
