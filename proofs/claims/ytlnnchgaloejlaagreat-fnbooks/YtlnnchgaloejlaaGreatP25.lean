/-
  Texts joined: OpenM.
-/
import Derived.Test.YtlnnchgaloejlaaGreatP24
import Derived.Deep.RegionHeld3
namespace Go.Proofs.YtlnnchgaloejlaaGreat
open Go.ChangeShapes Go.WideShapes Go.ChangeAt Go.RowKit

set_option maxRecDepth 100000 in
set_option maxHeartbeats 16000000 in
set_option maxRecDepth 100000 in
theorem sOpened_mid {w : World} {b : Bok} {s : Spots} (name : ByteArray) (cut : Int) (h : BookAt w b s) (hr : Roots b s) (hl : BLen b) (hz : BSized b) (hn : name.size ≤ maxLen) (hlm : b.mills.length ≤ 1000000) (hcs : (∃ xm, s.ma = some ⟨xm, 0, none⟩) ∧ lowN (mnames b.mills) name < b.mills.length) :
    Calls Tryz.prog 85 #[.agg #[.int .i64 b.season, .int .i64 b.supply, .int .i64 b.burnt, .int .i64 b.pot, .slice s.fa b.folk.length s.fc, .slice s.ma b.mills.length s.mc, .slice s.pa b.parts.length s.pc, .slice s.wa b.waits.length s.wc], .string name, .int .i64 cut] w (ResK (openL b name cut).1 (openL b name cut).2 w.heap.size w) := by
  have HNS := Lib.hid hn
  have HLM := Lib.hid hlm
  have HCS := Lib.hid hcs
  clear hn hlm hcs
  have HH := Lib.hid h
  have HR := Lib.hid hr
  have HL := Lib.hid hl
  have HZ := Lib.hid hz
  have l1 := hl.fl
  have l2 := hl.ml
  have l3 := hl.pl
  have l4 := hl.wl
  have XC := Lib.hid (CellB.new w b s 29)
  have D := Lib.hid (below_new w (.cells #[.int .i64 b.season, .int .i64 b.supply, .int .i64 b.burnt, .int .i64 b.pot, .slice s.fa b.folk.length s.fc, .slice s.ma b.mills.length s.mc, .slice s.pa b.parts.length s.pc, .slice s.wa b.waits.length s.wc] 29))
  obtain ⟨W0, hW0⟩ : ∃ W, w.alloc (.cells #[.int .i64 b.season, .int .i64 b.supply, .int .i64 b.burnt, .int .i64 b.pot, .slice s.fa b.folk.length s.fc, .slice s.ma b.mills.length s.mc, .slice s.pa b.parts.length s.pc, .slice s.wa b.waits.length s.wc] 29) = W := ⟨_, rfl⟩
  have hs0 : W0.heap.size = w.heap.size + 1 := by rw [← hW0]; simp
  rw [hW0] at XC D
  have bz := below_new W0 (.cells #[.int .i64 0, .int .i64 0, .int .i64 0, .int .i64 0, .slice none 0 0, .slice none 0 0, .slice none 0 0, .slice none 0 0] 29)
  have R := Lib.hid (OutV.new W0 [.int .i64 0, .int .i64 0, .int .i64 0, .int .i64 0, .slice none 0 0, .slice none 0 0, .slice none 0 0, .slice none 0 0] 29)
  obtain ⟨W1, hW1⟩ : ∃ W, W0.alloc (.cells #[.int .i64 0, .int .i64 0, .int .i64 0, .int .i64 0, .slice none 0 0, .slice none 0 0, .slice none 0 0, .slice none 0 0] 29) = W := ⟨_, rfl⟩
  rw [show W0.alloc (.cells ([.int .i64 0, .int .i64 0, .int .i64 0, .int .i64 0, .slice none 0 0, .slice none 0 0, .slice none 0 0, .slice none 0 0] : List Value).toArray 29) = W1 from hW1, hs0] at R
  rw [hW1] at bz
  replace XC := Lib.hid (XC.out.below bz)
  replace D := Lib.hid (below_trans D.out bz)
  clear bz h hr hl hz
  have x0 := XC.out.c0
  have x1 := XC.out.c1
  have x2 := XC.out.c2
  have x3 := XC.out.c3
  have x4 := XC.out.c4
  have x5 := XC.out.c5
  have x6 := XC.out.c6
  have x7 := XC.out.c7

  go_enter Tryz.func85, Tryz.ntmps85
  go_wp2_with fail
  refine (sBookOk_any (s := s) (HH.out.below D.out) HL.out HZ.out).mono ?_
  rintro e w2 ⟨rfl, hb⟩
  clear x0 x1 x2 x3 x4 x5 x6 x7
  replace XC := Lib.hid (XC.out.below hb)
  replace R := Lib.hid (R.out.below hb)
  replace D := Lib.hid (below_trans D.out hb)
  clear hb

  cases hk : bookB b
  · have HE := Lib.hid (show ResK (openL b name cut).1 (openL b name cut).2 w.heap.size w (.returned (.tuple #[.agg #[.int .i64 0, .int .i64 0, .int .i64 0, .int .i64 0, .slice none 0 0, .slice none 0 0, .slice none 0 0, .slice none 0 0], .int .i64 7])) (putB w2 (w.heap.size + 1) bok0 ⟨none, 0, none, 0, none, 0, none, 0⟩) from by
      have e : openL b name cut = (bok0, 7) := by rw [openL, hk]; rfl
      rw [e]
      exact ⟨⟨none, 0, none, 0, none, 0, none, 0⟩, rfl, ownB_nil _ _ _ ⟨.inl ⟨rfl, rfl⟩, .inl ⟨rfl, rfl⟩, .inl ⟨rfl, rfl⟩, .inl ⟨rfl, rfl⟩, Nat.le_refl _, Nat.le_refl _, Nat.le_refl _, Nat.le_refl _⟩, putB_below D.out (by omega) _ _⟩)
    unfold putB at HE
    have r0 := R.out.has 0 _ rfl
    have r1 := R.out.has 1 _ rfl
    have r2 := R.out.has 2 _ rfl
    have r3 := R.out.has 3 _ rfl
    have r4 := R.out.has 4 _ rfl
    have r5 := R.out.has 5 _ rfl
    have r6 := R.out.has 6 _ rfl
    have r7 := R.out.has 7 _ rfl
    have rf := R.out.free
    go_wp2
    exact bodyPost_ret (v := .tuple #[.agg #[.int .i64 0, .int .i64 0, .int .i64 0, .int .i64 0, .slice none 0 0, .slice none 0 0, .slice none 0 0, .slice none 0 0], .int .i64 7]) (by simp [results, Tryz.results85, go_sem, r0, r1, r2, r3, r4, r5, r6, r7]) rfl HE.out
  have HN := Lib.hid (show openL b name cut = _ from (show openL b name cut = if bookB b = true then _ else _ from rfl).trans (if_pos hk))
  have HK := Lib.hid hk
  clear hk
  have x0 := XC.out.c0
  have x1 := XC.out.c1
  have x2 := XC.out.c2
  have x3 := XC.out.c3
  have x4 := XC.out.c4
  have x5 := XC.out.c5
  have x6 := XC.out.c6
  have x7 := XC.out.c7

  have hltR3 := R.out.lt
  go_wp2_with fail
  refine (l7Copy_sol (s := s) (HH.out.below D.out) HR.out HL.out).mono ?_
  rintro e w3 ⟨s3, rfl, ho, hb, hso⟩
  clear x0 x1 x2 x3 x4 x5 x6 x7
  have sz3 := hb.size
  have MO := Lib.hid (MineB.copy ho hso hb.size 29)
  have OLDs3 := Lib.hid (ho.at.bold)
  clear ho hso
  replace XC := Lib.hid (XC.out.below hb)
  replace R := Lib.hid (R.out.below hb)
  replace D := Lib.hid (below_trans D.out hb)
  clear hb

  have bV := below_new w3 (.cells #[.int .i64 b.season, .int .i64 b.supply, .int .i64 b.burnt, .int .i64 b.pot, .slice s3.fa b.folk.length s3.fc, .slice s3.ma b.mills.length s3.mc, .slice s3.pa b.parts.length s3.pc, .slice s3.wa b.waits.length s3.wc] 29)
  obtain ⟨V, hVV⟩ : ∃ V, w3.alloc (.cells #[.int .i64 b.season, .int .i64 b.supply, .int .i64 b.burnt, .int .i64 b.pot, .slice s3.fa b.folk.length s3.fc, .slice s3.ma b.mills.length s3.mc, .slice s3.pa b.parts.length s3.pc, .slice s3.wa b.waits.length s3.wc] 29) = V := ⟨_, rfl⟩
  have szV : w3.heap.size < V.heap.size := by rw [← hVV]; simp
  rw [hVV] at bV MO
  replace XC := Lib.hid (XC.out.below bV)
  replace R := Lib.hid (R.out.below bV)
  replace D := Lib.hid (below_trans D.out bV)
  clear bV
  go_wp2_with fail
  refine (sNameOk_any name _ HNS.out).mono ?_
  rintro e w' ⟨rfl, rfl⟩
  cases hnm : nameB name
  · have HQ := Lib.hid (HN.out.trans (if_neg (by rw [hnm]; simp)))
    have HE := Lib.hid (show ResK (openL b name cut).1 (openL b name cut).2 w.heap.size w (.returned (.tuple #[.agg #[.int .i64 b.season, .int .i64 b.supply, .int .i64 b.burnt, .int .i64 b.pot, .slice s3.fa b.folk.length s3.fc, .slice s3.ma b.mills.length s3.mc, .slice s3.pa b.parts.length s3.pc, .slice s3.wa b.waits.length s3.wc], .int .i64 7])) (putB V (w.heap.size + 1) b s3) from by
      have e : openL b name cut = (b, 7) := HQ.out
      rw [e]
      exact ⟨s3, rfl, (MO.out.o.grown (putB_grown _ _ _ _) (by omega)).mono (by omega), putB_below D.out (by omega) _ _⟩)
    unfold putB at HE
    have y0 := MO.out.c.c0
    have y1 := MO.out.c.c1
    have y2 := MO.out.c.c2
    have y3 := MO.out.c.c3
    have y4 := MO.out.c.c4
    have y5 := MO.out.c.c5
    have y6 := MO.out.c.c6
    have y7 := MO.out.c.c7
    have r0 := R.out.has 0 _ rfl
    have r1 := R.out.has 1 _ rfl
    have r2 := R.out.has 2 _ rfl
    have r3 := R.out.has 3 _ rfl
    have r4 := R.out.has 4 _ rfl
    have r5 := R.out.has 5 _ rfl
    have r6 := R.out.has 6 _ rfl
    have r7 := R.out.has 7 _ rfl
    have rf := R.out.free
    go_wp2
    exact bodyPost_ret (v := .tuple #[.agg #[.int .i64 b.season, .int .i64 b.supply, .int .i64 b.burnt, .int .i64 b.pot, .slice s3.fa b.folk.length s3.fc, .slice s3.ma b.mills.length s3.mc, .slice s3.pa b.parts.length s3.pc, .slice s3.wa b.waits.length s3.wc], .int .i64 7]) (by simp [results, Tryz.results85, go_sem, r0, r1, r2, r3, r4, r5, r6, r7]) rfl HE.out
  go_wp2_with fail
  refine (l1In_any _ _ _ _).mono ?_
  rintro e w' ⟨rfl, rfl⟩
  cases hi : inB 0 100 cut
  · have HQ := Lib.hid (HN.out.trans (if_neg (by rw [hnm, hi]; simp)))
    have HE := Lib.hid (show ResK (openL b name cut).1 (openL b name cut).2 w.heap.size w (.returned (.tuple #[.agg #[.int .i64 b.season, .int .i64 b.supply, .int .i64 b.burnt, .int .i64 b.pot, .slice s3.fa b.folk.length s3.fc, .slice s3.ma b.mills.length s3.mc, .slice s3.pa b.parts.length s3.pc, .slice s3.wa b.waits.length s3.wc], .int .i64 7])) (putB V (w.heap.size + 1) b s3) from by
      have e : openL b name cut = (b, 7) := HQ.out
      rw [e]
      exact ⟨s3, rfl, (MO.out.o.grown (putB_grown _ _ _ _) (by omega)).mono (by omega), putB_below D.out (by omega) _ _⟩)
    unfold putB at HE
    have y0 := MO.out.c.c0
    have y1 := MO.out.c.c1
    have y2 := MO.out.c.c2
    have y3 := MO.out.c.c3
    have y4 := MO.out.c.c4
    have y5 := MO.out.c.c5
    have y6 := MO.out.c.c6
    have y7 := MO.out.c.c7
    have r0 := R.out.has 0 _ rfl
    have r1 := R.out.has 1 _ rfl
    have r2 := R.out.has 2 _ rfl
    have r3 := R.out.has 3 _ rfl
    have r4 := R.out.has 4 _ rfl
    have r5 := R.out.has 5 _ rfl
    have r6 := R.out.has 6 _ rfl
    have r7 := R.out.has 7 _ rfl
    have rf := R.out.free
    go_wp2
    exact bodyPost_ret (v := .tuple #[.agg #[.int .i64 b.season, .int .i64 b.supply, .int .i64 b.burnt, .int .i64 b.pot, .slice s3.fa b.folk.length s3.fc, .slice s3.ma b.mills.length s3.mc, .slice s3.pa b.parts.length s3.pc, .slice s3.wa b.waits.length s3.wc], .int .i64 7]) (by simp [results, Tryz.results85, go_sem, r0, r1, r2, r3, r4, r5, r6, r7]) rfl HE.out
  replace HN := Lib.hid (HN.out.trans (if_pos (by rw [hnm, hi]; rfl)))
  clear hnm hi
  have x4 := XC.out.c4
  go_wp2_with fail
  refine (l3Find_any _ _ (HH.out.folk.below D.out) (by omega)).mono ?_
  rintro e w' ⟨rfl, rfl⟩
  clear x4
  by_cases hp : 0 ≤ placeV (pnames b.folk) name
  case neg =>
    have HQ := Lib.hid (HN.out.trans (if_neg hp))
    have hlo := place_lo (pnames b.folk) name
    have hpe : placeV (pnames b.folk) name = -1 := by omega
    rw [hpe]
    clear hp hpe hlo
    have HE := Lib.hid (show ResK (openL b name cut).1 (openL b name cut).2 w.heap.size w (.returned (.tuple #[.agg #[.int .i64 b.season, .int .i64 b.supply, .int .i64 b.burnt, .int .i64 b.pot, .slice s3.fa b.folk.length s3.fc, .slice s3.ma b.mills.length s3.mc, .slice s3.pa b.parts.length s3.pc, .slice s3.wa b.waits.length s3.wc], .int .i64 1])) (putB V (w.heap.size + 1) b s3) from by
      have e : openL b name cut = (b, 1) := HQ.out
      rw [e]
      exact ⟨s3, rfl, (MO.out.o.grown (putB_grown _ _ _ _) (by omega)).mono (by omega), putB_below D.out (by omega) _ _⟩)
    unfold putB at HE
    have y0 := MO.out.c.c0
    have y1 := MO.out.c.c1
    have y2 := MO.out.c.c2
    have y3 := MO.out.c.c3
    have y4 := MO.out.c.c4
    have y5 := MO.out.c.c5
    have y6 := MO.out.c.c6
    have y7 := MO.out.c.c7
    have r0 := R.out.has 0 _ rfl
    have r1 := R.out.has 1 _ rfl
    have r2 := R.out.has 2 _ rfl
    have r3 := R.out.has 3 _ rfl
    have r4 := R.out.has 4 _ rfl
    have r5 := R.out.has 5 _ rfl
    have r6 := R.out.has 6 _ rfl
    have r7 := R.out.has 7 _ rfl
    have rf := R.out.free
    go_wp2
    exact bodyPost_ret (v := .tuple #[.agg #[.int .i64 b.season, .int .i64 b.supply, .int .i64 b.burnt, .int .i64 b.pot, .slice s3.fa b.folk.length s3.fc, .slice s3.ma b.mills.length s3.mc, .slice s3.pa b.parts.length s3.pc, .slice s3.wa b.waits.length s3.wc], .int .i64 1]) (by simp [results, Tryz.results85, go_sem, r0, r1, r2, r3, r4, r5, r6, r7]) rfl HE.out
  replace HN := Lib.hid (HN.out.trans (if_pos hp))
  obtain ⟨m, ek, hklm, -⟩ := place_hit hp
  rw [len_pn] at hklm
  rw [ek]
  have HEm := Lib.hid ek
  clear hp ek
  have x5 := XC.out.c5
  go_wp2_with fail
  refine (l4Find_any _ _ (HH.out.mills.below D.out) (by omega)).mono ?_
  rintro e w' ⟨rfl, rfl⟩
  clear x5
  by_cases hp : 0 ≤ placeV (mnames b.mills) name
  case pos =>
    have HQ := Lib.hid (HN.out.trans (if_pos hp))
    obtain ⟨j, ek, -, -⟩ := place_hit hp
    rw [ek]
    have HE := Lib.hid (show ResK (openL b name cut).1 (openL b name cut).2 w.heap.size w (.returned (.tuple #[.agg #[.int .i64 b.season, .int .i64 b.supply, .int .i64 b.burnt, .int .i64 b.pot, .slice s3.fa b.folk.length s3.fc, .slice s3.ma b.mills.length s3.mc, .slice s3.pa b.parts.length s3.pc, .slice s3.wa b.waits.length s3.wc], .int .i64 2])) (putB V (w.heap.size + 1) b s3) from by
      have e : openL b name cut = (b, 2) := HQ.out
      rw [e]
      exact ⟨s3, rfl, (MO.out.o.grown (putB_grown _ _ _ _) (by omega)).mono (by omega), putB_below D.out (by omega) _ _⟩)
    unfold putB at HE
    have y0 := MO.out.c.c0
    have y1 := MO.out.c.c1
    have y2 := MO.out.c.c2
    have y3 := MO.out.c.c3
    have y4 := MO.out.c.c4
    have y5 := MO.out.c.c5
    have y6 := MO.out.c.c6
    have y7 := MO.out.c.c7
    have r0 := R.out.has 0 _ rfl
    have r1 := R.out.has 1 _ rfl
    have r2 := R.out.has 2 _ rfl
    have r3 := R.out.has 3 _ rfl
    have r4 := R.out.has 4 _ rfl
    have r5 := R.out.has 5 _ rfl
    have r6 := R.out.has 6 _ rfl
    have r7 := R.out.has 7 _ rfl
    have rf := R.out.free
    go_wp2
    exact bodyPost_ret (v := .tuple #[.agg #[.int .i64 b.season, .int .i64 b.supply, .int .i64 b.burnt, .int .i64 b.pot, .slice s3.fa b.folk.length s3.fc, .slice s3.ma b.mills.length s3.mc, .slice s3.pa b.parts.length s3.pc, .slice s3.wa b.waits.length s3.wc], .int .i64 2]) (by simp [results, Tryz.results85, go_sem, r0, r1, r2, r3, r4, r5, r6, r7]) rfl HE.out
  replace HN := Lib.hid (HN.out.trans (if_neg hp))
  have hlo := place_lo (mnames b.mills) name
  have hpe : placeV (mnames b.mills) name = -1 := by omega
  rw [hpe]
  clear hp hpe hlo
  have x5 := XC.out.c5
  go_wp2_with fail
  clear x5
  obtain ⟨i0, hi, hz0, hz1, hz2⟩ := info_parts info_Mill
  have HI := Lib.hid hi
  have HZ0 := Lib.hid hz0
  have HZ1 := Lib.hid hz1
  have HZ2 := Lib.hid hz2
  clear hi hz0 hz1 hz2
  obtain ⟨⟨xm, ea⟩, hcase⟩ := HCS.out
  have EA := Lib.hid ea
  have HCASE := Lib.hid hcase
  clear ea hcase HCS
  go_loopw [9] (fun i w' => ∃ k : Nat, k ≤ b.mills.length ∧ i = .int .i64 k ∧ Below V.heap.size V w' ∧ ∀ j, j < k → Op.bytesLess (sat (mnames b.mills) j).toList name.toList = true) (fun i _ => b.mills.length - (intOf i).toNat)
  case atStart => exact ⟨0, Nat.zero_le _, rfl, Below.refl _ _, fun _ h => by omega⟩
  case round =>
    obtain ⟨k, hk, rfl, hbw, hu⟩ := hrel
    have HU := Lib.hid hu
    have HBW := Lib.hid hbw
    clear hu
    replace XC := Lib.hid (XC.out.below hbw)
    replace R := Lib.hid (R.out.below hbw)
    replace D := Lib.hid (below_trans D.out hbw)
    replace MO := Lib.hid (MO.out.below hbw)
    clear hbw
    have HEND : Hid ((k < b.mills.length → Op.bytesLess (sat (mnames b.mills) k).toList name.toList = false) → lowN (mnames b.mills) name = k) := Lib.hid fun h => lowN_is _ _ k (by rw [len_mn]; exact hk) HU.out (by rw [len_mn]; exact h)
    by_cases hlt : k < b.mills.length
    · obtain ⟨p, off, ep, hlb, m0, m1, m2, m3, m4⟩ := Mil.at (HH.out.mills.below D.out) k hlt
      have x5 := XC.out.c5
      rw [ep] at x5
      have EP := Lib.hid ep
      clear ep hlb m1 m2 m3 m4
      have HA := Lib.hid (mnames_at hlt)
      cases hq : Op.bytesLess b.mills[k].name.toList name.toList
      case true =>
        have HUN : Hid (∀ j, j < k + 1 → Op.bytesLess (sat (mnames b.mills) j).toList name.toList = true) := Lib.hid fun j hj => by
          by_cases e : j = k
          · subst e; rw [HA.out]; exact hq
          · exact HU.out j (by omega)
        go_wp2
        go_roundw
        case rel => exact ⟨k + 1, by omega, by go_num, HBW.out, HUN.out⟩
        case measure => simp [intOf]; omega
      have HLO0 := Lib.hid (HEND.out (fun _ => by rw [HA.out]; exact hq))
      rw [EA.out] at EP
      have hpp := EP.out
      injection hpp with hpp
      injection hpp with hp1 hp2
      subst hp1
      subst hp2
      simp only [Nat.zero_add] at m0
      have HMM := Lib.hid (show Recs Mil.cs wr (some ⟨xm, 0, none⟩) b.mills by have := HH.out.mills.below D.out; rw [EA.out] at this; exact this)
      have hcm := HR.out.cm
      obtain ⟨AD, hA, hnw⟩ := from_at Mil.len s.mc HMM.out hk hcm
      have HNW := Lib.hid hnw
      simp only [Nat.zero_add] at hA
      have HTK := Lib.hid (take_at (k := k) Mil.len HMM.out)
      clear hnw
      have BA := Lib.hid (below_new wr (.cells #[] 54))
      have BAL := Lib.hid (below_trans BA.out (below_new _ (.cells #[.string name, .int .i64 0, .int .i64 0, .int .i64 cut, .bool false] 54)))
      have BL := Lib.hid (below_new wr (.cells #[.string name, .int .i64 0, .int .i64 0, .int .i64 cut, .bool false] 54))
      have BLA := Lib.hid (below_trans BL.out (below_new _ (.cells #[] 54)))
      have OA : Hid ((wr.alloc (.cells #[] 54)).ownsRow wr.heap.size 54 5 (.slice (some ⟨wr.heap.size, 0, none⟩) 0 0) 0 []) := ⟨rfl, .inr ⟨wr.heap.size, 0, #[], rfl, Nat.le_refl _, heap_alloc_new _ _, Nat.le_refl _, Nat.zero_le _, rfl, rfl⟩⟩
      have OAL := Lib.hid (OA.out.alloc (.cells #[.string name, .int .i64 0, .int .i64 0, .int .i64 cut, .bool false] 54))
      have OLA : Hid (((wr.alloc (.cells #[.string name, .int .i64 0, .int .i64 0, .int .i64 cut, .bool false] 54)).alloc (.cells #[] 54)).ownsRow wr.heap.size 54 5 (.slice (some ⟨wr.heap.size + 1, 0, none⟩) 0 0) 0 []) := ⟨rfl, .inr ⟨wr.heap.size + 1, 0, #[], rfl, by omega, (by have := heap_alloc_new (wr.alloc (.cells #[.string name, .int .i64 0, .int .i64 0, .int .i64 cut, .bool false] 54)) (.cells #[] 54); simpa using this), Nat.le_refl _, Nat.zero_le _, rfl, rfl⟩⟩
      have xA := (XC.out.below BA.out).c5
      have xAL := (XC.out.below BAL.out).c5
      have xL := (XC.out.below BL.out).c5
      have xLA := (XC.out.below BLA.out).c5
      rw [EA.out] at xA xAL xL xLA
      have HR2 : Hid (∀ j u, (newM name cut).cs[j]? = some u → ((wr.alloc (.cells #[] 54)).alloc (.cells #[.string name, .int .i64 0, .int .i64 0, .int .i64 cut, .bool false] 54)).drew.cell? ((⟨wr.heap.size + 1, 0, none⟩ : Addr).add j) = some u) := Lib.hid (by have h := recM_new (newM name cut) (wr.alloc (.cells #[] 54)); rw [World.size_alloc] at h; exact h)
      have HR3 : Hid (∀ j u, (newM name cut).cs[j]? = some u → ((wr.alloc (.cells #[.string name, .int .i64 0, .int .i64 0, .int .i64 cut, .bool false] 54)).alloc (.cells #[] 54)).drew.cell? ((⟨wr.heap.size, 0, none⟩ : Addr).add j) = some u) := Lib.hid (rec_below (w := wr.alloc (.cells #[.string name, .int .i64 0, .int .i64 0, .int .i64 cut, .bool false] 54)) (recM_new (newM name cut) wr) (below_draws (below_new _ (.cells #[] 54)) 1))
      have hkc : k ≤ s.mc := by omega
      go_wp2_with fail
      have x50 := XC.out.c5
      rw [EA.out] at x50
      have hXV : w.heap.size ≠ w3.heap.size := by omega
      go_region_held3 (fun w' => w'.cell? ⟨w.heap.size, 5, none⟩ = some (.slice (some ⟨xm, 0, none⟩) b.mills.length s.mc))
        (first | with_reducible exact x50 | with_reducible exact xA | with_reducible exact xAL | with_reducible exact xL | with_reducible exact xLA | with_reducible exact x55 | with_reducible exact x5l | with_reducible exact x56 | with_reducible exact x57 | (with_reducible exact cell_else _ x57 hXV) | exact (show World.cell? wr _ = _ from x50) | exact (show World.cell? (wr.alloc _) _ = _ from xA) | exact (show World.cell? (wr.alloc _) _ = _ from xL) | exact (show World.cell? ((wr.alloc _).alloc _) _ = _ from xAL) | exact (show World.cell? ((wr.alloc _).alloc _) _ = _ from xLA))
        (first
        | (refine step_append_some rfl (.tmp 57) (.tmp 61) 25 rfl wr.heap.size 54 i0 (.agg #[.string ByteArray.empty, .int .i64 0, .int .i64 0, .int .i64 0, .bool false]) 5 48 Tryz.underlying25 HI.out HZ0.out HZ1.out HZ2.out rfl (by decide) wr.heap.size 0 0 [] (by first | rfl | (simp [Act.eval]; done) | simp [Act.eval, Act.put]) OA.out ⟨xm, 0, none⟩ k s.mc ((b.mills.take k).flatMap Mil.cs) (by first | rfl | (simp [Act.eval, Act.put]; done) | simp [Act.eval, Act.put, hA]) (by rw [flat_length Mil.len, List.length_take, Nat.min_eq_left hk]) (HTK.out _ (below_draws BA.out 1)) (flat_one Mil.one _) (by unfold maxLen; omega) (by omega) ?_; rintro g5 c5 w5 ⟨h5, h5g, h5b, h5l, h5x⟩; have HO5 := Lib.hid (row_zero h5); have HB5 := Lib.hid (bgrown (below_draws BA.out 1) BA.out.size h5g (by intro z hz; injection hz with hz; omega)); have x55 := (XC.out.below HB5.out).c5; rw [EA.out] at x55; have HN1 := Lib.hid (recM_new (newM name cut) w5); have x5l := (XC.out.below (below_trans HB5.out (below_new w5 (.cells #[.string name, .int .i64 0, .int .i64 0, .int .i64 cut, .bool false] 54)))).c5; rw [EA.out] at x5l; clear h5 h5g h5b h5l h5x)
        | (refine step_append_some rfl (.tmp 57) (.tmp 61) 25 rfl wr.heap.size 54 i0 (.agg #[.string ByteArray.empty, .int .i64 0, .int .i64 0, .int .i64 0, .bool false]) 5 48 Tryz.underlying25 HI.out HZ0.out HZ1.out HZ2.out rfl (by decide) wr.heap.size 0 0 [] (by first | rfl | (simp [Act.eval]; done) | simp [Act.eval, Act.put]) OAL.out ⟨xm, 0, none⟩ k s.mc ((b.mills.take k).flatMap Mil.cs) (by first | rfl | (simp [Act.eval, Act.put]; done) | simp [Act.eval, Act.put, hA]) (by rw [flat_length Mil.len, List.length_take, Nat.min_eq_left hk]) (HTK.out _ (below_draws BAL.out 1)) (flat_one Mil.one _) (by unfold maxLen; omega) (by omega) ?_; rintro g5 c5 w5 ⟨h5, h5g, h5b, h5l, h5x⟩; have HO5 := Lib.hid (row_zero h5); have HB5 := Lib.hid (bgrown (below_draws BAL.out 1) BAL.out.size h5g (by intro z hz; injection hz with hz; omega)); have x55 := (XC.out.below HB5.out).c5; rw [EA.out] at x55; have HN2 := Lib.hid (rec_grown HR2.out h5g (by omega)); clear h5 h5g h5b h5l h5x)
        | (refine step_append_some rfl (.tmp 57) (.tmp 61) 25 rfl wr.heap.size 54 i0 (.agg #[.string ByteArray.empty, .int .i64 0, .int .i64 0, .int .i64 0, .bool false]) 5 48 Tryz.underlying25 HI.out HZ0.out HZ1.out HZ2.out rfl (by decide) (wr.heap.size + 1) 0 0 [] (by first | rfl | (simp [Act.eval]; done) | simp [Act.eval, Act.put]) OLA.out ⟨xm, 0, none⟩ k s.mc ((b.mills.take k).flatMap Mil.cs) (by first | rfl | (simp [Act.eval, Act.put]; done) | simp [Act.eval, Act.put, hA]) (by rw [flat_length Mil.len, List.length_take, Nat.min_eq_left hk]) (HTK.out _ (below_draws BLA.out 1)) (flat_one Mil.one _) (by unfold maxLen; omega) (by omega) ?_; rintro g5 c5 w5 ⟨h5, h5g, h5b, h5l, h5x⟩; have HO5 := Lib.hid (row_zero h5); have HB5 := Lib.hid (bgrown (below_draws BLA.out 1) BLA.out.size h5g (by intro z hz; injection hz with hz; omega)); have x55 := (XC.out.below HB5.out).c5; rw [EA.out] at x55; have HN3 := Lib.hid (rec_grown HR3.out h5g (by omega)); clear h5 h5g h5b h5l h5x)
        | (refine step_append_some rfl (.tmp 62) (.tmp 66) 25 rfl wr.heap.size 54 i0 (.agg #[.string ByteArray.empty, .int .i64 0, .int .i64 0, .int .i64 0, .bool false]) 5 48 Tryz.underlying25 HI.out HZ0.out HZ1.out HZ2.out rfl (by decide) g5 c5 k ((b.mills.take k).flatMap Mil.cs) (by first | rfl | (simp [Act.eval]; done) | simp [Act.eval, Act.put]) (HO5.out.alloc _) ⟨w5.heap.size, 0, none⟩ 1 1 (Mil.cs (newM name cut)) (by first | rfl | (simp [Act.eval, Act.put]; done) | simp [Act.eval, Act.put, hA]) rfl HN1.out (Mil.one _) (by unfold maxLen; omega) (by omega) ?_; rintro g6 c6 w6 ⟨h5, h5g, h5b, h5l, h5x⟩; have HO6 := Lib.hid h5; have HB6 := Lib.hid (bgrown (below_trans HB5.out (below_new w5 (.cells #[.string name, .int .i64 0, .int .i64 0, .int .i64 cut, .bool false] 54))) (below_trans HB5.out (below_new w5 (.cells #[.string name, .int .i64 0, .int .i64 0, .int .i64 cut, .bool false] 54))).size h5g (by intro z hz; injection hz with hz; omega)); have x56 := (XC.out.below HB6.out).c5; rw [EA.out] at x56; clear h5 h5g h5b h5l h5x)
        | (refine step_append_some rfl (.tmp 62) (.tmp 66) 25 rfl wr.heap.size 54 i0 (.agg #[.string ByteArray.empty, .int .i64 0, .int .i64 0, .int .i64 0, .bool false]) 5 48 Tryz.underlying25 HI.out HZ0.out HZ1.out HZ2.out rfl (by decide) g5 c5 k ((b.mills.take k).flatMap Mil.cs) (by first | rfl | (simp [Act.eval]; done) | simp [Act.eval, Act.put]) HO5.out ⟨wr.heap.size + 1, 0, none⟩ 1 1 (Mil.cs (newM name cut)) (by first | rfl | (simp [Act.eval, Act.put]; done) | simp [Act.eval, Act.put, hA]) rfl HN2.out (Mil.one _) (by unfold maxLen; omega) (by omega) ?_; rintro g6 c6 w6 ⟨h5, h5g, h5b, h5l, h5x⟩; have HO6 := Lib.hid h5; have HB6 := Lib.hid (bgrown HB5.out HB5.out.size h5g (by intro z hz; injection hz with hz; omega)); have x56 := (XC.out.below HB6.out).c5; rw [EA.out] at x56; clear h5 h5g h5b h5l h5x)
        | (refine step_append_some rfl (.tmp 62) (.tmp 66) 25 rfl wr.heap.size 54 i0 (.agg #[.string ByteArray.empty, .int .i64 0, .int .i64 0, .int .i64 0, .bool false]) 5 48 Tryz.underlying25 HI.out HZ0.out HZ1.out HZ2.out rfl (by decide) g5 c5 k ((b.mills.take k).flatMap Mil.cs) (by first | rfl | (simp [Act.eval]; done) | simp [Act.eval, Act.put]) HO5.out ⟨wr.heap.size, 0, none⟩ 1 1 (Mil.cs (newM name cut)) (by first | rfl | (simp [Act.eval, Act.put]; done) | simp [Act.eval, Act.put, hA]) rfl HN3.out (Mil.one _) (by unfold maxLen; omega) (by omega) ?_; rintro g6 c6 w6 ⟨h5, h5g, h5b, h5l, h5x⟩; have HO6 := Lib.hid h5; have HB6 := Lib.hid (bgrown HB5.out HB5.out.size h5g (by intro z hz; injection hz with hz; omega)); have x56 := (XC.out.below HB6.out).c5; rw [EA.out] at x56; clear h5 h5g h5b h5l h5x)
        | (refine step_append_some rfl (.tmp 67) (.tmp 71) 25 rfl wr.heap.size 54 i0 (.agg #[.string ByteArray.empty, .int .i64 0, .int .i64 0, .int .i64 0, .bool false]) 5 48 Tryz.underlying25 HI.out HZ0.out HZ1.out HZ2.out rfl (by decide) g6 c6 (k + 1) (((b.mills.take k).flatMap Mil.cs) ++ Mil.cs (newM name cut)) (by first | rfl | (simp [Act.eval]; done) | simp [Act.eval, Act.put]) HO6.out AD (b.mills.length - k) (s.mc - k) ((b.mills.drop k).flatMap Mil.cs) (by first | rfl | (simp [Act.eval, Act.put]; done) | simp [Act.eval, Act.put, hA]) (by rw [flat_length Mil.len]; simp) (HNW.out _ HB6.out) (flat_one Mil.one _) (by unfold maxLen; omega) (by omega) ?_; rintro g7 c7 w7 ⟨h5, h5g, h5b, h5l, h5x⟩; have HO7 := Lib.hid h5; have HB7 := Lib.hid (bgrown HB6.out HB6.out.size h5g (by intro z hz; injection hz with hz; omega)); have y57 := (MO.out.below HB7.out).c.c5; have y57f := (MO.out.below HB7.out).f.1; have x57 := (XC.out.below HB7.out).c5; rw [EA.out] at x57; clear h5 h5g h5b h5l h5x))
      all_goals
        obtain ⟨HP, hpl, hpc, hpg⟩ := put_own (m := newM name cut) hk HO7.out HLO0.out
        have hC0 := MO.out.base
        have HM := Lib.hid (MO.out.putMills HB7.out HP hpc hpg)
        rw [hpl] at HM
        have HLO := Lib.hid (show BLen (b.wMills (putM b.mills (newM name cut))) from ⟨HL.out.fl, by show (putM b.mills (newM name cut)).length ≤ 1048576; rw [hpl]; have := HLM.out; omega, HL.out.pl, HL.out.wl⟩)
        have HZO := Lib.hid (show BSized (b.wMills (putM b.mills (newM name cut))) from ⟨HZ.out.fs, putM_sized HZ.out.ms HNS.out, HZ.out.ps, HZ.out.ws⟩)
        have hbs := Below.setCell (HB7.out.mono hC0) (p := ⟨w3.heap.size, 5, none⟩) (by show w2.heap.size ≤ w3.heap.size; omega) (.slice (some ⟨g7, 0, none⟩) (k + 1 + (b.mills.length - k)) c7)
        obtain ⟨W8, hW8⟩ : ∃ W, w7.setCell ⟨w3.heap.size, 5, none⟩ (.slice (some ⟨g7, 0, none⟩) (k + 1 + (b.mills.length - k)) c7) = W := ⟨_, rfl⟩
        rw [hW8] at HM
        rw [hW8]
        rw [hW8] at hbs
        have szW8 := hbs.size
        replace XC := Lib.hid (XC.out.under hbs (by omega))
        replace R := Lib.hid (R.out.under hbs (by omega))
        replace D := Lib.hid (D.out.trans (hbs.mono (by omega)))
        have HRZ := Lib.hid (HN.out)
        obtain ⟨o, HO⟩ : ∃ o, Hid (b.wMills (putM b.mills (newM name cut)) = o) := ⟨_, Lib.hid rfl⟩
        obtain ⟨t, HT⟩ : ∃ t, Hid (s3.wM (some ⟨g7, 0, none⟩) c7 = t) := ⟨_, Lib.hid rfl⟩
        rw [HO.out] at HM HLO HZO HRZ
        rw [HT.out] at HM
        have hMb := HM.out.base
        have x0 := XC.out.c0
        have x1 := XC.out.c1
        have x2 := XC.out.c2
        have x3 := XC.out.c3
        have x4 := XC.out.c4
        have x5 := XC.out.c5
        have x6 := XC.out.c6
        have x7 := XC.out.c7
        have y0 := HM.out.c.c0
        have y1 := HM.out.c.c1
        have y2 := HM.out.c.c2
        have y3 := HM.out.c.c3
        have y4 := HM.out.c.c4
        have y5 := HM.out.c.c5
        have y6 := HM.out.c.c6
        have y7 := HM.out.c.c7

        go_wp2_with fail
        refine (l8Done_any (b := b) (o := o) (s := s) (t := t) (HH.out.below D.out) HR.out HL.out HM.out.o HLO.out HZO.out hMb).mono ?_
        obtain ⟨r, Hr⟩ : ∃ r, Hid (doneB b o = r) := ⟨_, Lib.hid rfl⟩
        obtain ⟨c, Hc⟩ : ∃ c, Hid (doneC o = c) := ⟨_, Lib.hid rfl⟩
        rw [Hr.out, Hc.out]
        rw [Hr.out, Hc.out] at HRZ
        rintro e w9 ⟨s9, rfl, ho, hb⟩
        replace R := Lib.hid (R.out.below hb)
        replace D := Lib.hid (below_trans D.out hb)
        have HE := Lib.hid (show ResK (openL b name cut).1 (openL b name cut).2 w.heap.size w (.returned (.tuple #[.agg #[.int .i64 r.season, .int .i64 r.supply, .int .i64 r.burnt, .int .i64 r.pot, .slice s9.fa r.folk.length s9.fc, .slice s9.ma r.mills.length s9.mc, .slice s9.pa r.parts.length s9.pc, .slice s9.wa r.waits.length s9.wc], .int .i64 c])) (putB w9 (w.heap.size + 1) r s9) from by
          rw [HRZ.out]
          exact ⟨s9, rfl, (ho.grown (putB_grown _ _ _ _) (by omega)).mono (by omega), putB_below D.out (by omega) _ _⟩)
        unfold putB at HE
        clear ho hb
        have r0 := R.out.has 0 _ rfl
        have r1 := R.out.has 1 _ rfl
        have r2 := R.out.has 2 _ rfl
        have r3 := R.out.has 3 _ rfl
        have r4 := R.out.has 4 _ rfl
        have r5 := R.out.has 5 _ rfl
        have r6 := R.out.has 6 _ rfl
        have r7 := R.out.has 7 _ rfl
        have rf := R.out.free
        go_wp2
        exact bodyPost_ret (v := .tuple #[.agg #[.int .i64 r.season, .int .i64 r.supply, .int .i64 r.burnt, .int .i64 r.pot, .slice s9.fa r.folk.length s9.fc, .slice s9.ma r.mills.length s9.mc, .slice s9.pa r.parts.length s9.pc, .slice s9.wa r.waits.length s9.wc], .int .i64 c]) (by simp [results, Tryz.results85, go_sem, r0, r1, r2, r3, r4, r5, r6, r7]) rfl HE.out
    · exfalso
      have h1 := HCASE.out
      have h2 := HEND.out (fun h => absurd h hlt)
      omega
end Go.Proofs.YtlnnchgaloejlaaGreat
