/-
  Texts joined: EarnB.
-/
import Derived.Test.YtlnnchgaloejlaaGreatP17
import Derived.Test.YtlnnchgaloejlaaGreatP24
import Derived.Test.YtlnnchgaloejlaaGreatP28
namespace Go.Proofs.YtlnnchgaloejlaaGreat
open Go.ChangeShapes Go.WideShapes Go.ChangeAt Go.RowKit

theorem pay_none (s : ByteArray) (n d : Int) : payB [] s n d = false := by
  have h : ¬ (0 ≤ placeV (pnames []) s) := by show ¬ (0 : Int) ≤ -1; decide
  simp [payB, h]
theorem payL_none (s : ByteArray) (n d : Int) : payL [] s n d = [] := by
  unfold payL; split
  · rw [if_neg (by rw [pay_none]; decide)]
  · rfl
set_option maxHeartbeats 4000000 in
set_option maxRecDepth 100000 in
theorem l3Pay_nil {w : World} (s : ByteArray) (n sign : Int) :
    Calls Tryz.prog 170 #[.slice none 0 0, .string s, .int .i64 n, .int .i64 sign] w fun e w' => ∃ g cap, e = .returned (.tuple #[.slice (some ⟨g, 0, none⟩) 0 cap, .bool false]) ∧ Below w.heap.size w w' := by
  have hf : folkB [] = true := by decide
  go_enter Tryz.func170, Tryz.ntmps170
  go_wp2_with fail
  refine (sFolkOk_any (ps := []) (a := none) 0 (Lies.nil _ _) (by decide) (by intro k; simp [pnames, sat])).mono ?_
  rw [hf]
  rintro e w1 ⟨rfl, n1, rfl⟩
  go_wp2_with fail
  refine (l3Copy_nil).mono ?_
  rintro e w3 ⟨g, c, rfl, -, -, -, -, hb3, -, -⟩
  have HB := Lib.hid (below_trans (below_draws (Below.refl w.heap.size w) n1) hb3)
  clear hb3
  go_wp2_with fail
  refine (l3Find_any (ps := []) (a := none) 0 s (Lies.nil _ _) (by decide)).mono ?_
  rw [show placeV (pnames []) s = -1 from rfl]
  rintro e w' ⟨rfl, rfl⟩
  go_wp2
  go_ret2
  exact ⟨g, c, rfl, HB.out⟩
theorem sPaid_nil {w : World} (s : ByteArray) (n : Int) : Calls Tryz.prog 157 #[.slice none 0 0, .string s, .int .i64 n] w (PayCap (payL [] s n n) (payB [] s n n) w) := by
  rw [pay_none, payL_none]
  go_enter Tryz.func157, Tryz.ntmps157
  go_wp2_with fail
  refine (l3Pay_nil _ _ _).mono ?_
  rintro e w' ⟨g, c, rfl, hb⟩
  have HB := Lib.hid hb
  clear hb
  go_wp2
  go_ret2
  exact ⟨_, c, rfl, Lies.nil _ _, .inl rfl, HB.out, Nat.zero_le _⟩
theorem sPaid_at {w : World} {a : Option Addr} {cap : Nat} {ps : List Pur} (s : ByteArray) (n : Int) (hr : Rooted a cap) (h : Purs w a ps) (hl : ps.length ≤ 1048576) (hs : Sized (pnames ps)) :
    Calls Tryz.prog 157 #[.slice a ps.length cap, .string s, .int .i64 n] w (PayCap (payL ps s n n) (payB ps s n n) w) := by
  rcases hr with ⟨rfl, rfl⟩ | ⟨x, rfl⟩
  · have := purs_none h
    subst this
    exact sPaid_nil s n
  · exact sPaid_cap _ s n h hl hs
/-- What was earned, in the book. -/
def earnM (m : Mil) (v : Int) : Mil := ⟨m.name, v, m.shares, m.cut, m.shut⟩
noncomputable def earnO (b : Bok) (k : Nat) (m : Mil) (sp n ct : Int) (f : List Pur) : Bok :=
  if 0 < m.shares then ((b.wSupply sp).wFolk f).wMills (b.mills.set k (earnM m (m.stake + n - ct))) else ((b.wSupply sp).wFolk f).wPot (b.pot + n - ct)
/-- What comes of it. -/
noncomputable def earnL (b : Bok) (mill : ByteArray) (n : Int) : Bok × Int :=
  if bookB b = true then
    if 0 ≤ placeV (mnames b.mills) mill then
      if n < 1 then (b, 7) else
      if (b.mills.getD (placeV (mnames b.mills) mill).toNat mil0).shut = true then (b, 3) else
      if okA b.supply n = true then
        if payB b.folk mill (partV n (b.mills.getD (placeV (mnames b.mills) mill).toNat mil0).cut) (partV n (b.mills.getD (placeV (mnames b.mills) mill).toNat mil0).cut) = true then
          (doneB b (earnO b (placeV (mnames b.mills) mill).toNat (b.mills.getD (placeV (mnames b.mills) mill).toNat mil0) (addN b.supply n) n (partV n (b.mills.getD (placeV (mnames b.mills) mill).toNat mil0).cut) (payL b.folk mill (partV n (b.mills.getD (placeV (mnames b.mills) mill).toNat mil0).cut) (partV n (b.mills.getD (placeV (mnames b.mills) mill).toNat mil0).cut))), doneC (earnO b (placeV (mnames b.mills) mill).toNat (b.mills.getD (placeV (mnames b.mills) mill).toNat mil0) (addN b.supply n) n (partV n (b.mills.getD (placeV (mnames b.mills) mill).toNat mil0).cut) (payL b.folk mill (partV n (b.mills.getD (placeV (mnames b.mills) mill).toNat mil0).cut) (partV n (b.mills.getD (placeV (mnames b.mills) mill).toNat mil0).cut))))
        else (b, 6)
      else (b, 6)
    else (b, 1)
  else (bok0, 7)

set_option maxRecDepth 100000 in
set_option maxHeartbeats 16000000 in
set_option maxRecDepth 100000 in
theorem sEarned_any {w : World} {b : Bok} {s : Spots} (mill : ByteArray) (n : Int) (h : BookAt w b s) (hr : Roots b s) (hl : BLen b) (hz : BSized b) :
    Calls Tryz.prog 126 #[.agg #[.int .i64 b.season, .int .i64 b.supply, .int .i64 b.burnt, .int .i64 b.pot, .slice s.fa b.folk.length s.fc, .slice s.ma b.mills.length s.mc, .slice s.pa b.parts.length s.pc, .slice s.wa b.waits.length s.wc], .string mill, .int .i64 n] w (ResK (earnL b mill n).1 (earnL b mill n).2 w.heap.size w) := by
  have HH := Lib.hid h
  have HR := Lib.hid hr
  have HL := Lib.hid hl
  have HZ := Lib.hid hz
  have l1 := hl.fl
  have l2 := hl.ml
  have l3 := hl.pl
  have l4 := hl.wl
  have XC := Lib.hid (CellB.new w b s 29)
  have D := Lib.hid (below_new w (.cells #[.int .i64 b.season, .int .i64 b.supply, .int .i64 b.burnt, .int .i64 b.pot, .slice s.fa b.folk.length s.fc, .slice s.ma b.mills.length s.mc, .slice s.pa b.parts.length s.pc, .slice s.wa b.waits.length s.wc] 29))
  obtain ⟨W0, hW0⟩ : ∃ W, w.alloc (.cells #[.int .i64 b.season, .int .i64 b.supply, .int .i64 b.burnt, .int .i64 b.pot, .slice s.fa b.folk.length s.fc, .slice s.ma b.mills.length s.mc, .slice s.pa b.parts.length s.pc, .slice s.wa b.waits.length s.wc] 29) = W := ⟨_, rfl⟩
  have hs0 : W0.heap.size = w.heap.size + 1 := by rw [← hW0]; simp
  rw [hW0] at XC D
  have bz := below_new W0 (.cells #[.int .i64 0, .int .i64 0, .int .i64 0, .int .i64 0, .slice none 0 0, .slice none 0 0, .slice none 0 0, .slice none 0 0] 29)
  have R := Lib.hid (OutV.new W0 [.int .i64 0, .int .i64 0, .int .i64 0, .int .i64 0, .slice none 0 0, .slice none 0 0, .slice none 0 0, .slice none 0 0] 29)
  obtain ⟨W1, hW1⟩ : ∃ W, W0.alloc (.cells #[.int .i64 0, .int .i64 0, .int .i64 0, .int .i64 0, .slice none 0 0, .slice none 0 0, .slice none 0 0, .slice none 0 0] 29) = W := ⟨_, rfl⟩
  rw [show W0.alloc (.cells ([.int .i64 0, .int .i64 0, .int .i64 0, .int .i64 0, .slice none 0 0, .slice none 0 0, .slice none 0 0, .slice none 0 0] : List Value).toArray 29) = W1 from hW1, hs0] at R
  rw [hW1] at bz
  replace XC := Lib.hid (XC.out.below bz)
  replace D := Lib.hid (below_trans D.out bz)
  clear bz h hr hl hz
  have x0 := XC.out.c0
  have x1 := XC.out.c1
  have x2 := XC.out.c2
  have x3 := XC.out.c3
  have x4 := XC.out.c4
  have x5 := XC.out.c5
  have x6 := XC.out.c6
  have x7 := XC.out.c7

  go_enter Tryz.func126, Tryz.ntmps126
  go_wp2_with fail
  refine (sBookOk_any (s := s) (HH.out.below D.out) HL.out HZ.out).mono ?_
  rintro e w2 ⟨rfl, hb⟩
  clear x0 x1 x2 x3 x4 x5 x6 x7
  replace XC := Lib.hid (XC.out.below hb)
  replace R := Lib.hid (R.out.below hb)
  replace D := Lib.hid (below_trans D.out hb)
  clear hb

  cases hk : bookB b
  · have HE := Lib.hid (show ResK (earnL b mill n).1 (earnL b mill n).2 w.heap.size w (.returned (.tuple #[.agg #[.int .i64 0, .int .i64 0, .int .i64 0, .int .i64 0, .slice none 0 0, .slice none 0 0, .slice none 0 0, .slice none 0 0], .int .i64 7])) (putB w2 (w.heap.size + 1) bok0 ⟨none, 0, none, 0, none, 0, none, 0⟩) from by
      have e : earnL b mill n = (bok0, 7) := by rw [earnL, hk]; rfl
      rw [e]
      exact ⟨⟨none, 0, none, 0, none, 0, none, 0⟩, rfl, ownB_nil _ _ _ ⟨.inl ⟨rfl, rfl⟩, .inl ⟨rfl, rfl⟩, .inl ⟨rfl, rfl⟩, .inl ⟨rfl, rfl⟩, Nat.le_refl _, Nat.le_refl _, Nat.le_refl _, Nat.le_refl _⟩, putB_below D.out (by omega) _ _⟩)
    unfold putB at HE
    have r0 := R.out.has 0 _ rfl
    have r1 := R.out.has 1 _ rfl
    have r2 := R.out.has 2 _ rfl
    have r3 := R.out.has 3 _ rfl
    have r4 := R.out.has 4 _ rfl
    have r5 := R.out.has 5 _ rfl
    have r6 := R.out.has 6 _ rfl
    have r7 := R.out.has 7 _ rfl
    have rf := R.out.free
    go_wp2
    exact bodyPost_ret (v := .tuple #[.agg #[.int .i64 0, .int .i64 0, .int .i64 0, .int .i64 0, .slice none 0 0, .slice none 0 0, .slice none 0 0, .slice none 0 0], .int .i64 7]) (by simp [results, Tryz.results126, go_sem, r0, r1, r2, r3, r4, r5, r6, r7]) rfl HE.out
  have HN := Lib.hid (show earnL b mill n = _ from (show earnL b mill n = if bookB b = true then _ else _ from rfl).trans (if_pos hk))
  have HK := Lib.hid hk
  clear hk
  have x0 := XC.out.c0
  have x1 := XC.out.c1
  have x2 := XC.out.c2
  have x3 := XC.out.c3
  have x4 := XC.out.c4
  have x5 := XC.out.c5
  have x6 := XC.out.c6
  have x7 := XC.out.c7

  have hltR3 := R.out.lt
  go_wp2_with fail
  refine (l7Copy_sol (s := s) (HH.out.below D.out) HR.out HL.out).mono ?_
  rintro e w3 ⟨s3, rfl, ho, hb, hso⟩
  clear x0 x1 x2 x3 x4 x5 x6 x7
  have sz3 := hb.size
  have MO := Lib.hid (MineB.copy ho hso hb.size 29)
  have OLDs3 := Lib.hid (ho.at.bold)
  clear ho hso
  replace XC := Lib.hid (XC.out.below hb)
  replace R := Lib.hid (R.out.below hb)
  replace D := Lib.hid (below_trans D.out hb)
  clear hb

  have bV := below_new w3 (.cells #[.int .i64 b.season, .int .i64 b.supply, .int .i64 b.burnt, .int .i64 b.pot, .slice s3.fa b.folk.length s3.fc, .slice s3.ma b.mills.length s3.mc, .slice s3.pa b.parts.length s3.pc, .slice s3.wa b.waits.length s3.wc] 29)
  obtain ⟨V, hVV⟩ : ∃ V, w3.alloc (.cells #[.int .i64 b.season, .int .i64 b.supply, .int .i64 b.burnt, .int .i64 b.pot, .slice s3.fa b.folk.length s3.fc, .slice s3.ma b.mills.length s3.mc, .slice s3.pa b.parts.length s3.pc, .slice s3.wa b.waits.length s3.wc] 29) = V := ⟨_, rfl⟩
  have szV : w3.heap.size < V.heap.size := by rw [← hVV]; simp
  rw [hVV] at bV MO
  replace XC := Lib.hid (XC.out.below bV)
  replace R := Lib.hid (R.out.below bV)
  replace D := Lib.hid (below_trans D.out bV)
  clear bV
  have x5 := XC.out.c5
  go_wp2_with fail
  refine (l4Find_any _ _ (HH.out.mills.below D.out) (by omega)).mono ?_
  rintro e w' ⟨rfl, rfl⟩
  clear x5
  by_cases hp : 0 ≤ placeV (mnames b.mills) mill
  case neg =>
    have HQ := Lib.hid (HN.out.trans (if_neg hp))
    have hlo := place_lo (mnames b.mills) mill
    have hpe : placeV (mnames b.mills) mill = -1 := by omega
    rw [hpe]
    clear hp hpe hlo
    have HE := Lib.hid (show ResK (earnL b mill n).1 (earnL b mill n).2 w.heap.size w (.returned (.tuple #[.agg #[.int .i64 b.season, .int .i64 b.supply, .int .i64 b.burnt, .int .i64 b.pot, .slice s3.fa b.folk.length s3.fc, .slice s3.ma b.mills.length s3.mc, .slice s3.pa b.parts.length s3.pc, .slice s3.wa b.waits.length s3.wc], .int .i64 1])) (putB V (w.heap.size + 1) b s3) from by
      have e : earnL b mill n = (b, 1) := HQ.out
      rw [e]
      exact ⟨s3, rfl, (MO.out.o.grown (putB_grown _ _ _ _) (by omega)).mono (by omega), putB_below D.out (by omega) _ _⟩)
    unfold putB at HE
    have y0 := MO.out.c.c0
    have y1 := MO.out.c.c1
    have y2 := MO.out.c.c2
    have y3 := MO.out.c.c3
    have y4 := MO.out.c.c4
    have y5 := MO.out.c.c5
    have y6 := MO.out.c.c6
    have y7 := MO.out.c.c7
    have r0 := R.out.has 0 _ rfl
    have r1 := R.out.has 1 _ rfl
    have r2 := R.out.has 2 _ rfl
    have r3 := R.out.has 3 _ rfl
    have r4 := R.out.has 4 _ rfl
    have r5 := R.out.has 5 _ rfl
    have r6 := R.out.has 6 _ rfl
    have r7 := R.out.has 7 _ rfl
    have rf := R.out.free
    go_wp2
    exact bodyPost_ret (v := .tuple #[.agg #[.int .i64 b.season, .int .i64 b.supply, .int .i64 b.burnt, .int .i64 b.pot, .slice s3.fa b.folk.length s3.fc, .slice s3.ma b.mills.length s3.mc, .slice s3.pa b.parts.length s3.pc, .slice s3.wa b.waits.length s3.wc], .int .i64 1]) (by simp [results, Tryz.results126, go_sem, r0, r1, r2, r3, r4, r5, r6, r7]) rfl HE.out
  replace HN := Lib.hid (HN.out.trans (if_pos hp))
  obtain ⟨k, ek, hklk, -⟩ := place_hit hp
  rw [len_mn] at hklk
  rw [ek]
  have HEk := Lib.hid ek
  clear hp ek
  have HKTk := Lib.hid (show (placeV (mnames b.mills) mill).toNat = k by rw [HEk.out]; omega)
  have HGDk := Lib.hid (show b.mills.getD (placeV (mnames b.mills) mill).toNat mil0 = b.mills[k] by rw [HKTk.out, getD_mil hklk])
  by_cases hn1 : n < 1
  · have HQ := Lib.hid (HN.out.trans (if_pos hn1))
    have HE := Lib.hid (show ResK (earnL b mill n).1 (earnL b mill n).2 w.heap.size w (.returned (.tuple #[.agg #[.int .i64 b.season, .int .i64 b.supply, .int .i64 b.burnt, .int .i64 b.pot, .slice s3.fa b.folk.length s3.fc, .slice s3.ma b.mills.length s3.mc, .slice s3.pa b.parts.length s3.pc, .slice s3.wa b.waits.length s3.wc], .int .i64 7])) (putB V (w.heap.size + 1) b s3) from by
      have e : earnL b mill n = (b, 7) := HQ.out
      rw [e]
      exact ⟨s3, rfl, (MO.out.o.grown (putB_grown _ _ _ _) (by omega)).mono (by omega), putB_below D.out (by omega) _ _⟩)
    unfold putB at HE
    have y0 := MO.out.c.c0
    have y1 := MO.out.c.c1
    have y2 := MO.out.c.c2
    have y3 := MO.out.c.c3
    have y4 := MO.out.c.c4
    have y5 := MO.out.c.c5
    have y6 := MO.out.c.c6
    have y7 := MO.out.c.c7
    have r0 := R.out.has 0 _ rfl
    have r1 := R.out.has 1 _ rfl
    have r2 := R.out.has 2 _ rfl
    have r3 := R.out.has 3 _ rfl
    have r4 := R.out.has 4 _ rfl
    have r5 := R.out.has 5 _ rfl
    have r6 := R.out.has 6 _ rfl
    have r7 := R.out.has 7 _ rfl
    have rf := R.out.free
    go_wp2
    exact bodyPost_ret (v := .tuple #[.agg #[.int .i64 b.season, .int .i64 b.supply, .int .i64 b.burnt, .int .i64 b.pot, .slice s3.fa b.folk.length s3.fc, .slice s3.ma b.mills.length s3.mc, .slice s3.pa b.parts.length s3.pc, .slice s3.wa b.waits.length s3.wc], .int .i64 7]) (by simp [results, Tryz.results126, go_sem, r0, r1, r2, r3, r4, r5, r6, r7]) rfl HE.out
  replace HN := Lib.hid (HN.out.trans (if_neg hn1))
  obtain ⟨p, off, ep, hlb, m0, m1, m2, m3, m4⟩ := Mil.at (HH.out.mills.below D.out) k hklk
  have x5 := XC.out.c5
  rw [ep] at x5
  have EP := Lib.hid ep
  clear ep hlb m0 m1 m2 m3
  obtain ⟨bt, Hbt⟩ : ∃ v, Hid (b.mills[k].shut = v) := ⟨_, Lib.hid rfl⟩
  rw [Hbt.out] at m4
  cases bt
  case true =>
    have HQ := Lib.hid (HN.out.trans (if_pos (by rw [HGDk.out, Hbt.out])))
    have HE := Lib.hid (show ResK (earnL b mill n).1 (earnL b mill n).2 w.heap.size w (.returned (.tuple #[.agg #[.int .i64 b.season, .int .i64 b.supply, .int .i64 b.burnt, .int .i64 b.pot, .slice s3.fa b.folk.length s3.fc, .slice s3.ma b.mills.length s3.mc, .slice s3.pa b.parts.length s3.pc, .slice s3.wa b.waits.length s3.wc], .int .i64 3])) (putB V (w.heap.size + 1) b s3) from by
      have e : earnL b mill n = (b, 3) := HQ.out
      rw [e]
      exact ⟨s3, rfl, (MO.out.o.grown (putB_grown _ _ _ _) (by omega)).mono (by omega), putB_below D.out (by omega) _ _⟩)
    unfold putB at HE
    have y0 := MO.out.c.c0
    have y1 := MO.out.c.c1
    have y2 := MO.out.c.c2
    have y3 := MO.out.c.c3
    have y4 := MO.out.c.c4
    have y5 := MO.out.c.c5
    have y6 := MO.out.c.c6
    have y7 := MO.out.c.c7
    have r0 := R.out.has 0 _ rfl
    have r1 := R.out.has 1 _ rfl
    have r2 := R.out.has 2 _ rfl
    have r3 := R.out.has 3 _ rfl
    have r4 := R.out.has 4 _ rfl
    have r5 := R.out.has 5 _ rfl
    have r6 := R.out.has 6 _ rfl
    have r7 := R.out.has 7 _ rfl
    have rf := R.out.free
    go_wp2
    exact bodyPost_ret (v := .tuple #[.agg #[.int .i64 b.season, .int .i64 b.supply, .int .i64 b.burnt, .int .i64 b.pot, .slice s3.fa b.folk.length s3.fc, .slice s3.ma b.mills.length s3.mc, .slice s3.pa b.parts.length s3.pc, .slice s3.wa b.waits.length s3.wc], .int .i64 3]) (by simp [results, Tryz.results126, go_sem, r0, r1, r2, r3, r4, r5, r6, r7]) rfl HE.out
  replace HN := Lib.hid (HN.out.trans (if_neg (by rw [HGDk.out, Hbt.out]; decide)))
  rw [HGDk.out, HKTk.out] at HN
  have HRT := Lib.hid (book_right HK.out)
  have hmp := millB_parts (HRT.out.1 k hklk)
  have hpo := HRT.out.2
  obtain ⟨m, Hm⟩ : ∃ m, Hid (b.mills[k] = m) := ⟨_, Lib.hid rfl⟩
  rw [Hm.out] at HN hmp
  obtain ⟨p2, off2, ep2, -, m0, m1, m2, m3, m4⟩ := Mil.at (HH.out.mills.below D.out) k hklk
  rw [EP.out] at ep2; injection ep2 with ep2; injection ep2 with e1 e2; subst e1; subst e2
  rw [Hm.out] at m0 m1 m2 m3 m4
  have x5 := XC.out.c5
  rw [EP.out] at x5
  have x1 := XC.out.c1
  go_wp2_with fail
  refine (sAdded_any b.supply n _).mono ?_
  rintro e w' ⟨rfl, rfl⟩
  cases hadd : okA b.supply n
  · have HQ := Lib.hid (HN.out.trans (if_neg (by rw [hadd]; decide)))
    have HE := Lib.hid (show ResK (earnL b mill n).1 (earnL b mill n).2 w.heap.size w (.returned (.tuple #[.agg #[.int .i64 b.season, .int .i64 b.supply, .int .i64 b.burnt, .int .i64 b.pot, .slice s3.fa b.folk.length s3.fc, .slice s3.ma b.mills.length s3.mc, .slice s3.pa b.parts.length s3.pc, .slice s3.wa b.waits.length s3.wc], .int .i64 6])) (putB V (w.heap.size + 1) b s3) from by
      have e : earnL b mill n = (b, 6) := HQ.out
      rw [e]
      exact ⟨s3, rfl, (MO.out.o.grown (putB_grown _ _ _ _) (by omega)).mono (by omega), putB_below D.out (by omega) _ _⟩)
    unfold putB at HE
    have y0 := MO.out.c.c0
    have y1 := MO.out.c.c1
    have y2 := MO.out.c.c2
    have y3 := MO.out.c.c3
    have y4 := MO.out.c.c4
    have y5 := MO.out.c.c5
    have y6 := MO.out.c.c6
    have y7 := MO.out.c.c7
    have r0 := R.out.has 0 _ rfl
    have r1 := R.out.has 1 _ rfl
    have r2 := R.out.has 2 _ rfl
    have r3 := R.out.has 3 _ rfl
    have r4 := R.out.has 4 _ rfl
    have r5 := R.out.has 5 _ rfl
    have r6 := R.out.has 6 _ rfl
    have r7 := R.out.has 7 _ rfl
    have rf := R.out.free
    go_wp2
    exact bodyPost_ret (v := .tuple #[.agg #[.int .i64 b.season, .int .i64 b.supply, .int .i64 b.burnt, .int .i64 b.pot, .slice s3.fa b.folk.length s3.fc, .slice s3.ma b.mills.length s3.mc, .slice s3.pa b.parts.length s3.pc, .slice s3.wa b.waits.length s3.wc], .int .i64 6]) (by simp [results, Tryz.results126, go_sem, r0, r1, r2, r3, r4, r5, r6, r7]) rfl HE.out
  replace HN := Lib.hid (HN.out.trans (if_pos hadd))
  obtain ⟨-, ha2, -⟩ := okA_true hadd
  have hnb := inB_true ha2
  clear hadd ha2
  obtain ⟨sp, Hsp⟩ : ∃ q, Hid (addN b.supply n = q) := ⟨_, Lib.hid rfl⟩
  rw [Hsp.out] at HN
  rw [Hsp.out]
  have hcb := partV_bd (n := n) (p := m.cut) (by omega) (by omega) (show inB 0 100 m.cut = true by simp [inB]; omega)
  go_wp2_with fail
  refine (sPartOf_any _ _ _).mono ?_
  rintro e w' ⟨rfl, rfl⟩
  obtain ⟨ct, Hct⟩ : ∃ q, Hid (partV n m.cut = q) := ⟨_, Lib.hid rfl⟩
  rw [Hct.out] at HN hcb
  rw [Hct.out]
  have x4 := XC.out.c4
  go_wp2_with fail
  refine (sPaid_at mill ct HR.out.f (HH.out.folk.below D.out) l1 HZ.out.fs).mono ?_
  rintro e w4 ⟨af, cf, rfl, hpf, hof, hb, hcc⟩
  have sz4 := hb.size
  have Pf := Lib.hid (show OwnP w4 V.heap.size af (payL b.folk mill ct ct) from ⟨hpf, hof⟩)
  have CCf := Lib.hid hcc
  clear hpf hof hcc x1 x4 x5 m0 m1 m2 m3 m4
  replace XC := Lib.hid (XC.out.below hb)
  replace R := Lib.hid (R.out.below hb)
  replace D := Lib.hid (below_trans D.out hb)
  replace MO := Lib.hid (MO.out.below hb)
  clear hb
  cases hpay : payB b.folk mill ct ct
  · have HQ := Lib.hid (HN.out.trans (if_neg (by rw [hpay]; decide)))
    have HE := Lib.hid (show ResK (earnL b mill n).1 (earnL b mill n).2 w.heap.size w (.returned (.tuple #[.agg #[.int .i64 b.season, .int .i64 b.supply, .int .i64 b.burnt, .int .i64 b.pot, .slice s3.fa b.folk.length s3.fc, .slice s3.ma b.mills.length s3.mc, .slice s3.pa b.parts.length s3.pc, .slice s3.wa b.waits.length s3.wc], .int .i64 6])) (putB w4 (w.heap.size + 1) b s3) from by
      have e : earnL b mill n = (b, 6) := HQ.out
      rw [e]
      exact ⟨s3, rfl, (MO.out.o.grown (putB_grown _ _ _ _) (by omega)).mono (by omega), putB_below D.out (by omega) _ _⟩)
    unfold putB at HE
    have y0 := MO.out.c.c0
    have y1 := MO.out.c.c1
    have y2 := MO.out.c.c2
    have y3 := MO.out.c.c3
    have y4 := MO.out.c.c4
    have y5 := MO.out.c.c5
    have y6 := MO.out.c.c6
    have y7 := MO.out.c.c7
    have r0 := R.out.has 0 _ rfl
    have r1 := R.out.has 1 _ rfl
    have r2 := R.out.has 2 _ rfl
    have r3 := R.out.has 3 _ rfl
    have r4 := R.out.has 4 _ rfl
    have r5 := R.out.has 5 _ rfl
    have r6 := R.out.has 6 _ rfl
    have r7 := R.out.has 7 _ rfl
    have rf := R.out.free
    go_wp2
    exact bodyPost_ret (v := .tuple #[.agg #[.int .i64 b.season, .int .i64 b.supply, .int .i64 b.burnt, .int .i64 b.pot, .slice s3.fa b.folk.length s3.fc, .slice s3.ma b.mills.length s3.mc, .slice s3.pa b.parts.length s3.pc, .slice s3.wa b.waits.length s3.wc], .int .i64 6]) (by simp [results, Tryz.results126, go_sem, r0, r1, r2, r3, r4, r5, r6, r7]) rfl HE.out
  replace HN := Lib.hid (HN.out.trans (if_pos hpay))
  obtain ⟨hlf, hl0, hnmf⟩ := pay_len hpay
  have HNMf := Lib.hid hnmf
  clear hpay hnmf
  obtain ⟨f, HVf⟩ : ∃ l, Hid (payL b.folk mill ct ct = l) := ⟨_, Lib.hid rfl⟩
  rw [HVf.out] at Pf CCf hlf HN HNMf
  rw [HVf.out]
  obtain ⟨xf, rfl⟩ := rooted_ownP Pf.out (by omega)
  have hbf : f.length ≤ 1048576 := by omega
  have HLNf := Lib.hid hlf
  have hxf1 := Pf.out.hi xf rfl (by omega)
  clear hlf hl0
  have x0 := XC.out.c0
  have x1 := XC.out.c1
  have x2 := XC.out.c2
  have x3 := XC.out.c3
  have x4 := XC.out.c4
  have x5 := XC.out.c5
  have x6 := XC.out.c6
  have x7 := XC.out.c7

  have hltR5 := R.out.lt
  go_wp2_with fail
  refine (l7Copy_sol (s := s) (HH.out.below D.out) HR.out HL.out).mono ?_
  rintro e w5 ⟨s5, rfl, ho, hb, hso⟩
  clear x0 x1 x2 x3 x4 x5 x6 x7
  have sz5 := hb.size
  have MX := Lib.hid (MineB.copy ho hso hb.size 29)
  have OLDs5 := Lib.hid (ho.at.bold)
  clear ho hso
  replace XC := Lib.hid (XC.out.below hb)
  replace R := Lib.hid (R.out.below hb)
  replace D := Lib.hid (below_trans D.out hb)
  replace MO := Lib.hid (MO.out.below hb)
  replace Pf := Lib.hid (Pf.out.below hb)
  clear hb

  have bV := below_new w5 (.cells #[.int .i64 b.season, .int .i64 b.supply, .int .i64 b.burnt, .int .i64 b.pot, .slice s5.fa b.folk.length s5.fc, .slice s5.ma b.mills.length s5.mc, .slice s5.pa b.parts.length s5.pc, .slice s5.wa b.waits.length s5.wc] 29)
  obtain ⟨V5, hVV5⟩ : ∃ V, w5.alloc (.cells #[.int .i64 b.season, .int .i64 b.supply, .int .i64 b.burnt, .int .i64 b.pot, .slice s5.fa b.folk.length s5.fc, .slice s5.ma b.mills.length s5.mc, .slice s5.pa b.parts.length s5.pc, .slice s5.wa b.waits.length s5.wc] 29) = V := ⟨_, rfl⟩
  have szV5 : w5.heap.size < V5.heap.size := by rw [← hVV5]; simp
  rw [hVV5] at bV MX
  replace XC := Lib.hid (XC.out.below bV)
  replace R := Lib.hid (R.out.below bV)
  replace D := Lib.hid (below_trans D.out bV)
  replace MO := Lib.hid (MO.out.below bV)
  replace Pf := Lib.hid (Pf.out.below bV)
  clear bV
  have MX5 := MX
  have y1w := MX.out.c.c1
  have yfw := MX.out.f.1
  obtain ⟨V6, hVV6⟩ : ∃ W, V5.setCell ⟨w5.heap.size, 1, none⟩ (.int .i64 sp) = W := ⟨_, rfl⟩
  have hbs : Below w4.heap.size V5 V6 := by rw [← hVV6]; exact (Below.refl _ _).setCell (by show w4.heap.size ≤ w5.heap.size; omega) _
  have szV6 := hbs.size
  replace MX := Lib.hid (show MineB V6 w5.heap.size w4.heap.size (b.wSupply sp) s5 from by rw [← hVV6]; exact MX5.out.setSupply _)
  replace XC := Lib.hid (XC.out.under hbs (by omega))
  replace R := Lib.hid (R.out.under hbs (by omega))
  replace D := Lib.hid (D.out.trans (hbs.mono (by omega)))
  replace MO := Lib.hid (MO.out.kept hbs (by omega) (OLDs3.out.mono (by omega)))
  replace Pf := Lib.hid (show OwnP V6 V.heap.size (some ⟨xf, 0, none⟩) f from Pf.out.apart (by rw [← hVV6]; exact gset (gid V5 (some w5.heap.size)) _) (fun b e _ => by injection e with e; injection e with e; omega))
  clear hbs
  have MX6 := MX
  have y4w := MX.out.c.c4
  have yfw := MX.out.f.1
  obtain ⟨V7, hVV7⟩ : ∃ W, V6.setCell ⟨w5.heap.size, 4, none⟩ (.slice (some ⟨xf, 0, none⟩) f.length cf) = W := ⟨_, rfl⟩
  have hbs : Below V.heap.size V6 V7 := by rw [← hVV7]; exact (Below.refl _ _).setCell (by show V.heap.size ≤ w5.heap.size; omega) _
  have szV7 := hbs.size
  replace MX := Lib.hid (show MineB V7 w5.heap.size V.heap.size ((b.wSupply sp).wFolk f) (s5.wF (some ⟨xf, 0, none⟩) cf) from by rw [← hVV7]; exact MX6.out.putFolk' Pf.out CCf.out (by omega) (by omega))
  replace XC := Lib.hid (XC.out.under hbs (by omega))
  replace R := Lib.hid (R.out.under hbs (by omega))
  replace D := Lib.hid (D.out.trans (hbs.mono (by omega)))
  replace MO := Lib.hid (MO.out.kept hbs (by omega) (OLDs3.out.mono (by omega)))
  clear hbs
  obtain ⟨p2, off2, ep2, -, m0, m1, m2, m3, m4⟩ := Mil.at (HH.out.mills.below D.out) k hklk
  rw [EP.out] at ep2; injection ep2 with ep2; injection ep2 with e1 e2; subst e1; subst e2
  rw [Hm.out] at m0 m1 m2 m3 m4
  have x5 := XC.out.c5
  rw [EP.out] at x5
  have HLX := Lib.hid (show BLen ((b.wSupply sp).wFolk f) from ⟨hbf, HL.out.ml, HL.out.pl, HL.out.wl⟩)
  have HZX := Lib.hid (show BSized ((b.wSupply sp).wFolk f) from ⟨by show Sized (pnames f); rw [HNMf.out]; exact HZ.out.fs, HZ.out.ms, HZ.out.ps, HZ.out.ws⟩)
  have x3 := XC.out.c3
  by_cases hsh : 0 < m.shares
  case neg =>
    have HEO := Lib.hid (show earnO b k m sp n ct f = ((b.wSupply sp).wFolk f).wPot (b.pot + n - ct) by rw [earnO, if_neg hsh])
    rw [HEO.out] at HN
    have MX7 := MX
    have y3w := MX.out.c.c3
    have yfw := MX.out.f.1
    obtain ⟨V8, hVV8⟩ : ∃ W, V7.setCell ⟨w5.heap.size, 3, none⟩ (.int .i64 (b.pot + n - ct)) = W := ⟨_, rfl⟩
    have hbs : Below V.heap.size V7 V8 := by rw [← hVV8]; exact (Below.refl _ _).setCell (by show V.heap.size ≤ w5.heap.size; omega) _
    have szV8 := hbs.size
    replace MX := Lib.hid (show MineB V8 w5.heap.size V.heap.size (((b.wSupply sp).wFolk f).wPot (b.pot + n - ct)) (s5.wF (some ⟨xf, 0, none⟩) cf) from by rw [← hVV8]; exact MX7.out.setPot _)
    replace XC := Lib.hid (XC.out.under hbs (by omega))
    replace R := Lib.hid (R.out.under hbs (by omega))
    replace D := Lib.hid (D.out.trans (hbs.mono (by omega)))
    replace MO := Lib.hid (MO.out.kept hbs (by omega) (OLDs3.out.mono (by omega)))
    clear hbs
    have HLO := Lib.hid (show BLen (((b.wSupply sp).wFolk f).wPot (b.pot + n - ct)) from ⟨HLX.out.fl, HLX.out.ml, HLX.out.pl, HLX.out.wl⟩)
    have HZO := Lib.hid (show BSized (((b.wSupply sp).wFolk f).wPot (b.pot + n - ct)) from ⟨HZX.out.fs, HZX.out.ms, HZX.out.ps, HZX.out.ws⟩)
    have HRZ := Lib.hid (HN.out)
    obtain ⟨o, HO⟩ : ∃ o, Hid (((b.wSupply sp).wFolk f).wPot (b.pot + n - ct) = o) := ⟨_, Lib.hid rfl⟩
    obtain ⟨t, HT⟩ : ∃ t, Hid (s5.wF (some ⟨xf, 0, none⟩) cf = t) := ⟨_, Lib.hid rfl⟩
    rw [HO.out] at MX HLO HZO HRZ
    rw [HT.out] at MX
    have hMb := MX.out.base
    have x0 := XC.out.c0
    have x1 := XC.out.c1
    have x2 := XC.out.c2
    have x3 := XC.out.c3
    have x4 := XC.out.c4
    have x5 := XC.out.c5
    have x6 := XC.out.c6
    have x7 := XC.out.c7
    have y0 := MX.out.c.c0
    have y1 := MX.out.c.c1
    have y2 := MX.out.c.c2
    have y3 := MX.out.c.c3
    have y4 := MX.out.c.c4
    have y5 := MX.out.c.c5
    have y6 := MX.out.c.c6
    have y7 := MX.out.c.c7

    go_wp2_with fail
    refine (l8Done_any (b := b) (o := o) (s := s) (t := t) (HH.out.below D.out) HR.out HL.out MX.out.o HLO.out HZO.out hMb).mono ?_
    obtain ⟨r, Hr⟩ : ∃ r, Hid (doneB b o = r) := ⟨_, Lib.hid rfl⟩
    obtain ⟨c, Hc⟩ : ∃ c, Hid (doneC o = c) := ⟨_, Lib.hid rfl⟩
    rw [Hr.out, Hc.out]
    rw [Hr.out, Hc.out] at HRZ
    rintro e w9 ⟨s9, rfl, ho, hb⟩
    replace R := Lib.hid (R.out.below hb)
    replace D := Lib.hid (below_trans D.out hb)
    have HE := Lib.hid (show ResK (earnL b mill n).1 (earnL b mill n).2 w.heap.size w (.returned (.tuple #[.agg #[.int .i64 r.season, .int .i64 r.supply, .int .i64 r.burnt, .int .i64 r.pot, .slice s9.fa r.folk.length s9.fc, .slice s9.ma r.mills.length s9.mc, .slice s9.pa r.parts.length s9.pc, .slice s9.wa r.waits.length s9.wc], .int .i64 c])) (putB w9 (w.heap.size + 1) r s9) from by
      rw [HRZ.out]
      exact ⟨s9, rfl, (ho.grown (putB_grown _ _ _ _) (by omega)).mono (by omega), putB_below D.out (by omega) _ _⟩)
    unfold putB at HE
    clear ho hb
    have r0 := R.out.has 0 _ rfl
    have r1 := R.out.has 1 _ rfl
    have r2 := R.out.has 2 _ rfl
    have r3 := R.out.has 3 _ rfl
    have r4 := R.out.has 4 _ rfl
    have r5 := R.out.has 5 _ rfl
    have r6 := R.out.has 6 _ rfl
    have r7 := R.out.has 7 _ rfl
    have rf := R.out.free
    go_wp2
    exact bodyPost_ret (v := .tuple #[.agg #[.int .i64 r.season, .int .i64 r.supply, .int .i64 r.burnt, .int .i64 r.pot, .slice s9.fa r.folk.length s9.fc, .slice s9.ma r.mills.length s9.mc, .slice s9.pa r.parts.length s9.pc, .slice s9.wa r.waits.length s9.wc], .int .i64 c]) (by simp [results, Tryz.results126, go_sem, r0, r1, r2, r3, r4, r5, r6, r7]) rfl HE.out
  have HEO := Lib.hid (show earnO b k m sp n ct f = ((b.wSupply sp).wFolk f).wMills (b.mills.set k (earnM m (m.stake + n - ct))) by rw [earnO, if_pos hsh])
  rw [HEO.out] at HN
  have hkx : k < ((b.wSupply sp).wFolk f).mills.length := hklk
  have HmX := Lib.hid (show ((b.wSupply sp).wFolk f).mills[k] = m from Hm.out)
  obtain ⟨y, ey, -, -, -⟩ := MX.out.o.mill hkx
  have EY := Lib.hid ey
  clear ey
  have hCy := MX.out.loM EY.out hkx
  have z5 := MX.out.c5 EY.out
  have hbu : Below V7.heap.size V7 V7.drew := below_draws (Below.refl _ _) 1
  obtain ⟨U7, hU7⟩ : ∃ W, V7.drew = W := ⟨_, rfl⟩
  rw [hU7] at hbu
  have szU7 := hbu.size
  replace XC := Lib.hid (XC.out.below hbu)
  replace R := Lib.hid (R.out.below hbu)
  replace D := Lib.hid (below_trans D.out hbu)
  replace MO := Lib.hid (MO.out.below hbu)
  replace MX := Lib.hid (MX.out.below hbu)
  clear hbu
  obtain ⟨p2, off2, ep2, -, m0, m1, m2, m3, m4⟩ := Mil.at (HH.out.mills.below D.out) k hklk
  rw [EP.out] at ep2; injection ep2 with ep2; injection ep2 with e1 e2; subst e1; subst e2
  rw [Hm.out] at m0 m1 m2 m3 m4
  have x5 := XC.out.c5
  rw [EP.out] at x5
  have T7 := Lib.hid (MX.out.millC EY.out hkx HmX.out)
  have z1 := T7.out.c1
  have zf := T7.out.f
  have z5u := MX.out.c5 EY.out
  go_wp2
  go_still_tail 13, (by kernel_rfl)
  change wpList _ _ _ _ _ V7.drew
  rw [hU7]
  have MX7 := MX
  obtain ⟨V8, hVV8⟩ : ∃ W, U7.setCell ⟨y, k * 5 + 1, none⟩ (.int .i64 (m.stake + n - ct)) = W := ⟨_, rfl⟩
  have hbs : Below V.heap.size U7 V8 := by rw [← hVV8]; exact (Below.refl _ _).setCell (by show V.heap.size ≤ y; omega) _
  have szV8 := hbs.size
  replace MX := Lib.hid (show MineB V8 w5.heap.size V.heap.size (((b.wSupply sp).wFolk f).wMills (b.mills.set k (earnM m (m.stake + n - ct)))) (s5.wF (some ⟨xf, 0, none⟩) cf) from by rw [← hVV8]; exact MX7.out.setMill EY.out hkx (by omega) (by rw [HmX.out]; rfl))
  replace XC := Lib.hid (XC.out.under hbs (by omega))
  replace R := Lib.hid (R.out.under hbs (by omega))
  replace D := Lib.hid (D.out.trans (hbs.mono (by omega)))
  replace MO := Lib.hid (MO.out.kept hbs (by omega) (OLDs3.out.mono (by omega)))
  clear hbs
  have HLO := Lib.hid (show BLen (((b.wSupply sp).wFolk f).wMills (b.mills.set k (earnM m (m.stake + n - ct)))) from HLX.out.setMill k _)
  have HZO := Lib.hid (show BSized (((b.wSupply sp).wFolk f).wMills (b.mills.set k (earnM m (m.stake + n - ct)))) from HZX.out.setMill hkx (by rw [HmX.out]; rfl))
  have HRZ := Lib.hid (HN.out)
  obtain ⟨o, HO⟩ : ∃ o, Hid (((b.wSupply sp).wFolk f).wMills (b.mills.set k (earnM m (m.stake + n - ct))) = o) := ⟨_, Lib.hid rfl⟩
  obtain ⟨t, HT⟩ : ∃ t, Hid (s5.wF (some ⟨xf, 0, none⟩) cf = t) := ⟨_, Lib.hid rfl⟩
  rw [HO.out] at MX HLO HZO HRZ
  rw [HT.out] at MX
  have hMb := MX.out.base
  have x0 := XC.out.c0
  have x1 := XC.out.c1
  have x2 := XC.out.c2
  have x3 := XC.out.c3
  have x4 := XC.out.c4
  have x5 := XC.out.c5
  have x6 := XC.out.c6
  have x7 := XC.out.c7
  have y0 := MX.out.c.c0
  have y1 := MX.out.c.c1
  have y2 := MX.out.c.c2
  have y3 := MX.out.c.c3
  have y4 := MX.out.c.c4
  have y5 := MX.out.c.c5
  have y6 := MX.out.c.c6
  have y7 := MX.out.c.c7

  go_wp2_with fail
  refine (l8Done_any (b := b) (o := o) (s := s) (t := t) (HH.out.below D.out) HR.out HL.out MX.out.o HLO.out HZO.out hMb).mono ?_
  obtain ⟨r, Hr⟩ : ∃ r, Hid (doneB b o = r) := ⟨_, Lib.hid rfl⟩
  obtain ⟨c, Hc⟩ : ∃ c, Hid (doneC o = c) := ⟨_, Lib.hid rfl⟩
  rw [Hr.out, Hc.out]
  rw [Hr.out, Hc.out] at HRZ
  rintro e w9 ⟨s9, rfl, ho, hb⟩
  replace R := Lib.hid (R.out.below hb)
  replace D := Lib.hid (below_trans D.out hb)
  have HE := Lib.hid (show ResK (earnL b mill n).1 (earnL b mill n).2 w.heap.size w (.returned (.tuple #[.agg #[.int .i64 r.season, .int .i64 r.supply, .int .i64 r.burnt, .int .i64 r.pot, .slice s9.fa r.folk.length s9.fc, .slice s9.ma r.mills.length s9.mc, .slice s9.pa r.parts.length s9.pc, .slice s9.wa r.waits.length s9.wc], .int .i64 c])) (putB w9 (w.heap.size + 1) r s9) from by
    rw [HRZ.out]
    exact ⟨s9, rfl, (ho.grown (putB_grown _ _ _ _) (by omega)).mono (by omega), putB_below D.out (by omega) _ _⟩)
  unfold putB at HE
  clear ho hb
  have r0 := R.out.has 0 _ rfl
  have r1 := R.out.has 1 _ rfl
  have r2 := R.out.has 2 _ rfl
  have r3 := R.out.has 3 _ rfl
  have r4 := R.out.has 4 _ rfl
  have r5 := R.out.has 5 _ rfl
  have r6 := R.out.has 6 _ rfl
  have r7 := R.out.has 7 _ rfl
  have rf := R.out.free
  go_wp2
  exact bodyPost_ret (v := .tuple #[.agg #[.int .i64 r.season, .int .i64 r.supply, .int .i64 r.burnt, .int .i64 r.pot, .slice s9.fa r.folk.length s9.fc, .slice s9.ma r.mills.length s9.mc, .slice s9.pa r.parts.length s9.pc, .slice s9.wa r.waits.length s9.wc], .int .i64 c]) (by simp [results, Tryz.results126, go_sem, r0, r1, r2, r3, r4, r5, r6, r7]) rfl HE.out
end Go.Proofs.YtlnnchgaloejlaaGreat
