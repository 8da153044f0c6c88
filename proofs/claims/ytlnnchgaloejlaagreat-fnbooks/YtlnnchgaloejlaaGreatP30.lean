/-
  Texts joined: TurnB.
-/
import Derived.Test.YtlnnchgaloejlaaGreatP29
namespace Go.Proofs.YtlnnchgaloejlaaGreat
open Go.ChangeShapes Go.WideShapes Go.ChangeAt Go.RowKit

theorem wsub_ws {ps qs : List Wai} (h : WSized ps) (hs : ∀ p ∈ qs, p ∈ ps) : WSized qs := wsized_mem.2 fun p hp => wsized_mem.1 h p (hs p hp)
theorem later_mem {ps : List Wai} {season : Int} : ∀ p ∈ laterV ps season, p ∈ ps := by
  intro p hp; unfold laterV at hp; split at hp
  · exact (List.filter_sublist).subset hp
  · simp at hp
theorem ripe_mem {ps : List Wai} {season : Int} : ∀ p ∈ ripeV ps season, p ∈ ps := by
  intro p hp; unfold ripeV at hp; split at hp
  · exact (List.filter_sublist).subset hp
  · simp at hp
theorem wait_bd2 {ps : List Wai} (h : WSized ps) {k : Nat} (hk : k < ps.length) : ps[k].who.size ≤ maxLen := (h k hk).1
/-- All of them paid, one by one. -/
def payAll : List Pur → List Wai → Option (List Pur)
  | f, [] => some f
  | f, q :: r => if payB f q.who q.amount q.amount = true then payAll (payL f q.who q.amount q.amount) r else none
theorem payAll_app : ∀ (qs rs : List Wai) (f : List Pur), payAll f (qs ++ rs) = (payAll f qs).bind fun g => payAll g rs
  | [], rs, f => rfl
  | q :: qs, rs, f => by
    simp only [List.cons_append, payAll]
    split
    · exact payAll_app qs rs _
    · rfl
theorem payAll_step {f g : List Pur} {qs : List Wai} {k : Nat} (hk : k < qs.length) (h : payAll f (qs.take k) = some g) : payAll f (qs.take (k + 1)) = if payB g qs[k].who qs[k].amount qs[k].amount = true then some (payL g qs[k].who qs[k].amount qs[k].amount) else none := by
  rw [List.take_succ_eq_append_getElem hk, payAll_app, h]
  simp only [Option.bind_some, payAll]
theorem payAll_stop {f : List Pur} {qs : List Wai} {k : Nat} (h : payAll f (qs.take k) = none) : payAll f qs = none := by
  rw [← List.take_append_drop k qs, payAll_app, h]; rfl
/-- A season later. -/
noncomputable def turnO (b : Bok) (f : List Pur) : Bok := ((b.wSeason (b.season + 1)).wWaits (laterV b.waits (b.season + 1))).wFolk f
/-- What comes of it. -/
noncomputable def turnL (b : Bok) : Bok × Int :=
  if bookB b = true then
    if (b.season == 1000) = true then (b, 6) else
    if (payAll b.folk (ripeV b.waits (b.season + 1))).isSome = true then
      (doneB b (turnO b ((payAll b.folk (ripeV b.waits (b.season + 1))).getD [])), doneC (turnO b ((payAll b.folk (ripeV b.waits (b.season + 1))).getD [])))
    else (b, 6)
  else (bok0, 7)

set_option maxRecDepth 100000 in
set_option maxHeartbeats 16000000 in
set_option maxRecDepth 100000 in
theorem sTurned_any {w : World} {b : Bok} {s : Spots}  (h : BookAt w b s) (hr : Roots b s) (hl : BLen b) (hz : BSized b) :
    Calls Tryz.prog 128 #[.agg #[.int .i64 b.season, .int .i64 b.supply, .int .i64 b.burnt, .int .i64 b.pot, .slice s.fa b.folk.length s.fc, .slice s.ma b.mills.length s.mc, .slice s.pa b.parts.length s.pc, .slice s.wa b.waits.length s.wc]] w (ResK (turnL b).1 (turnL b).2 w.heap.size w) := by
  have HH := Lib.hid h
  have HR := Lib.hid hr
  have HL := Lib.hid hl
  have HZ := Lib.hid hz
  have l1 := hl.fl
  have l2 := hl.ml
  have l3 := hl.pl
  have l4 := hl.wl
  have XC := Lib.hid (CellB.new w b s 29)
  have D := Lib.hid (below_new w (.cells #[.int .i64 b.season, .int .i64 b.supply, .int .i64 b.burnt, .int .i64 b.pot, .slice s.fa b.folk.length s.fc, .slice s.ma b.mills.length s.mc, .slice s.pa b.parts.length s.pc, .slice s.wa b.waits.length s.wc] 29))
  obtain ⟨W0, hW0⟩ : ∃ W, w.alloc (.cells #[.int .i64 b.season, .int .i64 b.supply, .int .i64 b.burnt, .int .i64 b.pot, .slice s.fa b.folk.length s.fc, .slice s.ma b.mills.length s.mc, .slice s.pa b.parts.length s.pc, .slice s.wa b.waits.length s.wc] 29) = W := ⟨_, rfl⟩
  have hs0 : W0.heap.size = w.heap.size + 1 := by rw [← hW0]; simp
  rw [hW0] at XC D
  have bz := below_new W0 (.cells #[.int .i64 0, .int .i64 0, .int .i64 0, .int .i64 0, .slice none 0 0, .slice none 0 0, .slice none 0 0, .slice none 0 0] 29)
  have R := Lib.hid (OutV.new W0 [.int .i64 0, .int .i64 0, .int .i64 0, .int .i64 0, .slice none 0 0, .slice none 0 0, .slice none 0 0, .slice none 0 0] 29)
  obtain ⟨W1, hW1⟩ : ∃ W, W0.alloc (.cells #[.int .i64 0, .int .i64 0, .int .i64 0, .int .i64 0, .slice none 0 0, .slice none 0 0, .slice none 0 0, .slice none 0 0] 29) = W := ⟨_, rfl⟩
  rw [show W0.alloc (.cells ([.int .i64 0, .int .i64 0, .int .i64 0, .int .i64 0, .slice none 0 0, .slice none 0 0, .slice none 0 0, .slice none 0 0] : List Value).toArray 29) = W1 from hW1, hs0] at R
  rw [hW1] at bz
  replace XC := Lib.hid (XC.out.below bz)
  replace D := Lib.hid (below_trans D.out bz)
  clear bz h hr hl hz
  have x0 := XC.out.c0
  have x1 := XC.out.c1
  have x2 := XC.out.c2
  have x3 := XC.out.c3
  have x4 := XC.out.c4
  have x5 := XC.out.c5
  have x6 := XC.out.c6
  have x7 := XC.out.c7

  go_enter Tryz.func128, Tryz.ntmps128
  go_wp2_with fail
  refine (sBookOk_any (s := s) (HH.out.below D.out) HL.out HZ.out).mono ?_
  rintro e w2 ⟨rfl, hb⟩
  clear x0 x1 x2 x3 x4 x5 x6 x7
  replace XC := Lib.hid (XC.out.below hb)
  replace R := Lib.hid (R.out.below hb)
  replace D := Lib.hid (below_trans D.out hb)
  clear hb

  cases hk : bookB b
  · have HE := Lib.hid (show ResK (turnL b).1 (turnL b).2 w.heap.size w (.returned (.tuple #[.agg #[.int .i64 0, .int .i64 0, .int .i64 0, .int .i64 0, .slice none 0 0, .slice none 0 0, .slice none 0 0, .slice none 0 0], .int .i64 7])) (putB w2 (w.heap.size + 1) bok0 ⟨none, 0, none, 0, none, 0, none, 0⟩) from by
      have e : turnL b = (bok0, 7) := by rw [turnL, hk]; rfl
      rw [e]
      exact ⟨⟨none, 0, none, 0, none, 0, none, 0⟩, rfl, ownB_nil _ _ _ ⟨.inl ⟨rfl, rfl⟩, .inl ⟨rfl, rfl⟩, .inl ⟨rfl, rfl⟩, .inl ⟨rfl, rfl⟩, Nat.le_refl _, Nat.le_refl _, Nat.le_refl _, Nat.le_refl _⟩, putB_below D.out (by omega) _ _⟩)
    unfold putB at HE
    have r0 := R.out.has 0 _ rfl
    have r1 := R.out.has 1 _ rfl
    have r2 := R.out.has 2 _ rfl
    have r3 := R.out.has 3 _ rfl
    have r4 := R.out.has 4 _ rfl
    have r5 := R.out.has 5 _ rfl
    have r6 := R.out.has 6 _ rfl
    have r7 := R.out.has 7 _ rfl
    have rf := R.out.free
    go_wp2
    exact bodyPost_ret (v := .tuple #[.agg #[.int .i64 0, .int .i64 0, .int .i64 0, .int .i64 0, .slice none 0 0, .slice none 0 0, .slice none 0 0, .slice none 0 0], .int .i64 7]) (by simp [results, Tryz.results128, go_sem, r0, r1, r2, r3, r4, r5, r6, r7]) rfl HE.out
  have HN := Lib.hid (show turnL b = _ from (show turnL b = if bookB b = true then _ else _ from rfl).trans (if_pos hk))
  have HK := Lib.hid hk
  clear hk
  have x0 := XC.out.c0
  have x1 := XC.out.c1
  have x2 := XC.out.c2
  have x3 := XC.out.c3
  have x4 := XC.out.c4
  have x5 := XC.out.c5
  have x6 := XC.out.c6
  have x7 := XC.out.c7

  have hltR3 := R.out.lt
  go_wp2_with fail
  refine (l7Copy_sol (s := s) (HH.out.below D.out) HR.out HL.out).mono ?_
  rintro e w3 ⟨s3, rfl, ho, hb, hso⟩
  clear x0 x1 x2 x3 x4 x5 x6 x7
  have sz3 := hb.size
  have MO := Lib.hid (MineB.copy ho hso hb.size 29)
  have OLDs3 := Lib.hid (ho.at.bold)
  clear ho hso
  replace XC := Lib.hid (XC.out.below hb)
  replace R := Lib.hid (R.out.below hb)
  replace D := Lib.hid (below_trans D.out hb)
  clear hb

  have bV := below_new w3 (.cells #[.int .i64 b.season, .int .i64 b.supply, .int .i64 b.burnt, .int .i64 b.pot, .slice s3.fa b.folk.length s3.fc, .slice s3.ma b.mills.length s3.mc, .slice s3.pa b.parts.length s3.pc, .slice s3.wa b.waits.length s3.wc] 29)
  obtain ⟨V, hVV⟩ : ∃ V, w3.alloc (.cells #[.int .i64 b.season, .int .i64 b.supply, .int .i64 b.burnt, .int .i64 b.pot, .slice s3.fa b.folk.length s3.fc, .slice s3.ma b.mills.length s3.mc, .slice s3.pa b.parts.length s3.pc, .slice s3.wa b.waits.length s3.wc] 29) = V := ⟨_, rfl⟩
  have szV : w3.heap.size < V.heap.size := by rw [← hVV]; simp
  rw [hVV] at bV MO
  replace XC := Lib.hid (XC.out.below bV)
  replace R := Lib.hid (R.out.below bV)
  replace D := Lib.hid (below_trans D.out bV)
  clear bV
  have hse := book_season HK.out
  have x0 := XC.out.c0
  cases hsn : (b.season == 1000)
  case true =>
    have HQ := Lib.hid (HN.out.trans (if_pos hsn))
    have HE := Lib.hid (show ResK (turnL b).1 (turnL b).2 w.heap.size w (.returned (.tuple #[.agg #[.int .i64 b.season, .int .i64 b.supply, .int .i64 b.burnt, .int .i64 b.pot, .slice s3.fa b.folk.length s3.fc, .slice s3.ma b.mills.length s3.mc, .slice s3.pa b.parts.length s3.pc, .slice s3.wa b.waits.length s3.wc], .int .i64 6])) (putB V (w.heap.size + 1) b s3) from by
      have e : turnL b = (b, 6) := HQ.out
      rw [e]
      exact ⟨s3, rfl, (MO.out.o.grown (putB_grown _ _ _ _) (by omega)).mono (by omega), putB_below D.out (by omega) _ _⟩)
    unfold putB at HE
    have y0 := MO.out.c.c0
    have y1 := MO.out.c.c1
    have y2 := MO.out.c.c2
    have y3 := MO.out.c.c3
    have y4 := MO.out.c.c4
    have y5 := MO.out.c.c5
    have y6 := MO.out.c.c6
    have y7 := MO.out.c.c7
    have r0 := R.out.has 0 _ rfl
    have r1 := R.out.has 1 _ rfl
    have r2 := R.out.has 2 _ rfl
    have r3 := R.out.has 3 _ rfl
    have r4 := R.out.has 4 _ rfl
    have r5 := R.out.has 5 _ rfl
    have r6 := R.out.has 6 _ rfl
    have r7 := R.out.has 7 _ rfl
    have rf := R.out.free
    go_wp2
    exact bodyPost_ret (v := .tuple #[.agg #[.int .i64 b.season, .int .i64 b.supply, .int .i64 b.burnt, .int .i64 b.pot, .slice s3.fa b.folk.length s3.fc, .slice s3.ma b.mills.length s3.mc, .slice s3.pa b.parts.length s3.pc, .slice s3.wa b.waits.length s3.wc], .int .i64 6]) (by simp [results, Tryz.results128, go_sem, r0, r1, r2, r3, r4, r5, r6, r7]) rfl HE.out
  replace HN := Lib.hid (HN.out.trans (if_neg (by rw [hsn]; decide)))
  have MX := MO
  clear MO
  have MX0 := MX
  have y0w := MX.out.c.c0
  have yfw := MX.out.f.1
  obtain ⟨V4, hVV4⟩ : ∃ W, V.setCell ⟨w3.heap.size, 0, none⟩ (.int .i64 (b.season + 1)) = W := ⟨_, rfl⟩
  have hbs : Below w2.heap.size V V4 := by rw [← hVV4]; exact (Below.refl _ _).setCell (by show w2.heap.size ≤ w3.heap.size; omega) _
  have szV4 := hbs.size
  replace MX := Lib.hid (show MineB V4 w3.heap.size w2.heap.size (b.wSeason (b.season + 1)) s3 from by rw [← hVV4]; exact MX0.out.setSeason _)
  replace XC := Lib.hid (XC.out.under hbs (by omega))
  replace R := Lib.hid (R.out.under hbs (by omega))
  replace D := Lib.hid (D.out.trans (hbs.mono (by omega)))
  clear hbs
  have x7 := XC.out.c7
  have z0 : V4.cell? ⟨w3.heap.size, 0, none⟩ = some (.int .i64 (b.season + 1)) := MX.out.c.c0
  go_wp2_with fail
  refine (sRipeAt_sol _ (b.season + 1) (HH.out.waits.below D.out) l4 HZ.out.ws).mono ?_
  rintro e w5 ⟨g1, c1, g2, c2, rfl, ho1, ho2, -, hc1, hc2, hg1, hg2, hb⟩
  have O1 := Lib.hid ho1
  have O2 := Lib.hid ho2
  have HB5 := Lib.hid hb
  have HC1 := Lib.hid hc1
  have sz5 := hb.size
  have HWS := Lib.hid (wsub_ws (qs := laterV b.waits (b.season + 1)) HZ.out.ws later_mem)
  have HRS := Lib.hid (wsub_ws (qs := ripeV b.waits (b.season + 1)) HZ.out.ws ripe_mem)
  have HWL := Lib.hid (laterV_le b.waits (b.season + 1))
  have hrl := ripeV_le b.waits (b.season + 1)
  have MX4 := MX
  clear ho1 ho2 hc1 hc2 x0 x7 z0
  replace XC := Lib.hid (XC.out.below hb)
  replace R := Lib.hid (R.out.below hb)
  replace D := Lib.hid (below_trans D.out hb)
  replace MX := Lib.hid (MX.out.below hb)
  clear hb

  have HTO : Hid (∀ f, turnO b f = ((b.wSeason (b.season + 1)).wWaits (laterV b.waits (b.season + 1))).wFolk f) := Lib.hid fun _ => rfl
  obtain ⟨lt, HLT⟩ : ∃ l, Hid (laterV b.waits (b.season + 1) = l) := ⟨_, Lib.hid rfl⟩
  obtain ⟨rp, HRP⟩ : ∃ l, Hid (ripeV b.waits (b.season + 1) = l) := ⟨_, Lib.hid rfl⟩
  rw [HLT.out] at O1 HC1 HWS HWL HTO
  rw [HRP.out] at O2 HN HRS hrl
  rw [HLT.out, HRP.out]
  have y7w := MX.out.c.c7
  have yfw := MX.out.f.1
  obtain ⟨V6, hVV6⟩ : ∃ W, w5.setCell ⟨w3.heap.size, 7, none⟩ (.slice (some ⟨g1, 0, none⟩) lt.length c1) = W := ⟨_, rfl⟩
  have hbs : Below w2.heap.size w5 V6 := by rw [← hVV6]; exact (Below.refl _ _).setCell (by show w2.heap.size ≤ w3.heap.size; omega) _
  have szV6 := hbs.size
  replace MX := Lib.hid (show MineB V6 w3.heap.size w2.heap.size ((b.wSeason (b.season + 1)).wWaits lt) (s3.wW (some ⟨g1, 0, none⟩) c1) from by rw [← hVV6]; exact MX4.out.putWaits HB5.out O1.out HC1.out hg1)
  replace XC := Lib.hid (XC.out.under hbs (by omega))
  replace R := Lib.hid (R.out.under hbs (by omega))
  replace D := Lib.hid (D.out.trans (hbs.mono (by omega)))
  clear hbs
  replace O2 := Lib.hid (show OwnR Wai.cs 4 V6 V4.heap.size (some ⟨g2, 0, none⟩) rp by rw [← hVV6]; exact O2.out.grown (gset (gid w5 (some w3.heap.size)) _) (by omega))
  obtain ⟨oB, HOB⟩ : ∃ q, Hid ((b.wSeason (b.season + 1)).wWaits lt = q) := ⟨_, Lib.hid rfl⟩
  have hoF := Lib.hid (show oB.wFolk b.folk = oB by rw [← HOB.out]; rfl)
  rw [HOB.out] at MX HTO
  have HLB := Lib.hid (show ∀ f : List Pur, f.length = b.folk.length → BLen (oB.wFolk f) by rw [← HOB.out]; exact fun f e => ⟨by show f.length ≤ _; omega, HL.out.ml, HL.out.pl, Nat.le_trans HWL.out (by omega)⟩)
  have HZB := Lib.hid (show ∀ f : List Pur, pnames f = pnames b.folk → BSized (oB.wFolk f) by rw [← HOB.out]; exact fun f e => ⟨by show Sized (pnames f); rw [e]; exact HZ.out.fs, HZ.out.ms, HZ.out.ps, HWS.out⟩)
  have hV4w2 : w2.heap.size ≤ V4.heap.size := by omega
  go_wp2_with fail
  go_loopw [7] (fun i wr => ∃ (k : Nat) (f : List Pur) (t' : Spots), k ≤ rp.length ∧ i = .int .i64 k ∧ payAll b.folk (rp.take k) = some f ∧ f.length = b.folk.length ∧ pnames f = pnames b.folk ∧ MineB wr w3.heap.size w2.heap.size (oB.wFolk f) t' ∧ CellB wr w.heap.size b s ∧ OutV wr (w.heap.size + 1) [.int .i64 0, .int .i64 0, .int .i64 0, .int .i64 0, .slice none 0 0, .slice none 0 0, .slice none 0 0, .slice none 0 0] ∧ Below w.heap.size w wr ∧ OwnR Wai.cs 4 wr V4.heap.size (some ⟨g2, 0, none⟩) rp ∧ V4.heap.size ≤ wr.heap.size) (fun i _ => rp.length - (intOf i).toNat)
  case atStart => exact ⟨0, b.folk, _, Nat.zero_le _, rfl, rfl, rfl, rfl, by rw [hoF.out]; exact MX.out, XC.out, R.out, D.out, O2.out, by omega⟩
  case round =>
    clear MX XC R D O2
    obtain ⟨k, f, t', hk, rfl, hpa, hfl, hfn, hM, hX, hRr, hDd, hO, hsz⟩ := hrel
    have MX := Lib.hid hM
    have XC := Lib.hid hX
    have R := Lib.hid hRr
    have D := Lib.hid hDd
    have O2 := Lib.hid hO
    have HPA := Lib.hid hpa
    have HFL := Lib.hid hfl
    have HFN := Lib.hid hfn
    have hfb : f.length ≤ 1048576 := by omega
    clear hM hX hRr hDd hO hpa hfl hfn
    by_cases hlt : k < rp.length
    · obtain ⟨p, off, ep, hlb, d0, d1, d2, d3⟩ := Wai.at O2.out.1 k hlt
      injection ep with ep; injection ep with e1 e2; subst e1; subst e2
      simp only [Nat.zero_add] at d0 d1 d2 d3
      have MX0 := MX
      have y4 := MX.out.c.c4
      have hrb := wait_bd2 (HRS.out) hlt
      have HPK := Lib.hid (sPaid_at (w := wr.drew) rp[k].who rp[k].amount MX.out.o.rt.f MX.out.o.folk.1 hfb (by show Sized (pnames f); rw [HFN.out]; exact HZ.out.fs))
      have HPO : Hid (∀ w7 e, PayCap (payL f rp[k].who rp[k].amount rp[k].amount) (payB f rp[k].who rp[k].amount rp[k].amount) wr.drew e w7 → ∃ af cf, e = .returned (.tuple #[.slice af (payL f rp[k].who rp[k].amount rp[k].amount).length cf, .bool (payB f rp[k].who rp[k].amount rp[k].amount)]) ∧ OwnP w7 wr.heap.size af (payL f rp[k].who rp[k].amount rp[k].amount) ∧ Below wr.heap.size wr w7 ∧ (payL f rp[k].who rp[k].amount rp[k].amount).length ≤ cf) := by
        refine Lib.hid ?_
        intro w7 e hres
        obtain ⟨af, cf, rfl, hpf, hof, hb, hcc⟩ := hres
        exact ⟨af, cf, rfl, ⟨hpf, hof⟩, below_trans (show Below wr.heap.size wr wr.drew from below_draws (Below.refl _ _) 1) hb, hcc⟩
      go_wp2_with fail
      go_region_with (go_at_call 157; refine HPK.out.mono ?_; rintro e w7 hres; obtain ⟨af, cf, rfl, hof, hb, hcc⟩ := HPO.out w7 e hres; have Pf := Lib.hid hof; have HB7 := Lib.hid hb; have CCf := Lib.hid hcc; have sz7 := hb.size; clear hres hof hb hcc)
      all_goals
        replace XC := Lib.hid (XC.out.below HB7.out)
        replace R := Lib.hid (R.out.below HB7.out)
        replace MX := Lib.hid (MX.out.below HB7.out)
        replace O2 := Lib.hid (O2.out.below HB7.out)
        replace D := Lib.hid (below_trans D.out HB7.out)
        have HNX := Lib.hid (payAll_step hlt HPA.out)
        cases hpay : payB f rp[k].who rp[k].amount rp[k].amount
        · have HST := Lib.hid (payAll_stop (k := k + 1) (HNX.out.trans (if_neg (by rw [hpay]; decide))))
          have HQ := Lib.hid (show turnL b = (b, 6) from HN.out.trans (if_neg (by rw [HST.out]; decide)))
          have x0 := XC.out.c0
          have x1 := XC.out.c1
          have x2 := XC.out.c2
          have x3 := XC.out.c3
          have x4 := XC.out.c4
          have x5 := XC.out.c5
          have x6 := XC.out.c6
          have x7 := XC.out.c7
          go_wp2_with fail
          refine (l7Copy_any (s := s) (HH.out.below D.out) HR.out HL.out).mono ?_
          rintro e w8 ⟨s8, rfl, ho8, hb8⟩
          have hlr := R.out.lt
          have sz8 := hb8.size
          replace R := Lib.hid (R.out.below hb8)
          replace D := Lib.hid (below_trans D.out hb8)
          have HE := Lib.hid (show ResK (turnL b).1 (turnL b).2 w.heap.size w (.returned (.tuple #[.agg #[.int .i64 b.season, .int .i64 b.supply, .int .i64 b.burnt, .int .i64 b.pot, .slice s8.fa b.folk.length s8.fc, .slice s8.ma b.mills.length s8.mc, .slice s8.pa b.parts.length s8.pc, .slice s8.wa b.waits.length s8.wc], .int .i64 6])) (putB w8 (w.heap.size + 1) b s8) from by
            rw [HQ.out]
            exact ⟨s8, rfl, (ho8.grown (putB_grown _ _ _ _) (by omega)).mono (by omega), putB_below D.out (by omega) _ _⟩)
          unfold putB at HE
          clear ho8 hb8
          have r0 := R.out.has 0 _ rfl
          have r1 := R.out.has 1 _ rfl
          have r2 := R.out.has 2 _ rfl
          have r3 := R.out.has 3 _ rfl
          have r4 := R.out.has 4 _ rfl
          have r5 := R.out.has 5 _ rfl
          have r6 := R.out.has 6 _ rfl
          have r7 := R.out.has 7 _ rfl
          have rf := R.out.free
          go_wp2
          exact bodyPost_ret (v := .tuple #[.agg #[.int .i64 b.season, .int .i64 b.supply, .int .i64 b.burnt, .int .i64 b.pot, .slice s8.fa b.folk.length s8.fc, .slice s8.ma b.mills.length s8.mc, .slice s8.pa b.parts.length s8.pc, .slice s8.wa b.waits.length s8.wc], .int .i64 6]) (by simp [results, Tryz.results128, go_sem, r0, r1, r2, r3, r4, r5, r6, r7]) rfl HE.out
        obtain ⟨hl7, hl0, hnm7⟩ := pay_len hpay
        have HN7 := Lib.hid (HNX.out.trans (if_pos hpay))
        have HNM7 := Lib.hid hnm7
        clear hpay hnm7
        obtain ⟨f2, HF2⟩ : ∃ l, Hid (payL f rp[k].who rp[k].amount rp[k].amount = l) := ⟨_, Lib.hid rfl⟩
        rw [HF2.out] at Pf CCf hl7 HN7 HNM7
        rw [HF2.out]
        obtain ⟨x2, rfl⟩ := rooted_ownP Pf.out (by omega)
        have hx20 := Pf.out.lo x2 rfl (by omega)
        have HL7 := Lib.hid hl7
        clear hl7 hl0
        have HMF : Hid (MineB (w7.setCell ⟨w3.heap.size, 4, none⟩ (.slice (some ⟨x2, 0, none⟩) f2.length cf)) w3.heap.size w2.heap.size (oB.wFolk f2) (t'.wF (some ⟨x2, 0, none⟩) cf)) := Lib.hid (MX0.out.putFolk HB7.out Pf.out CCf.out hx20)
        have y4w := MX.out.c.c4
        have yfw := MX.out.f.1
        obtain ⟨V8, hVV8⟩ : ∃ W, w7.setCell ⟨w3.heap.size, 4, none⟩ (.slice (some ⟨x2, 0, none⟩) f2.length cf) = W := ⟨_, rfl⟩
        have hbs : Below w2.heap.size w7 V8 := by rw [← hVV8]; exact (Below.refl _ _).setCell (by show w2.heap.size ≤ w3.heap.size; omega) _
        have szV8 := hbs.size
        rw [hVV8] at HMF
        replace O2 := Lib.hid (show OwnR Wai.cs 4 V8 V4.heap.size (some ⟨g2, 0, none⟩) rp by rw [← hVV8]; exact O2.out.grown (gset (gid w7 (some w3.heap.size)) _) (by omega))
        replace XC := Lib.hid (XC.out.under hbs (by omega))
        replace R := Lib.hid (R.out.under hbs (by omega))
        replace D := Lib.hid (D.out.trans (hbs.mono (by omega)))
        clear hbs

        go_wp2
        go_roundw
        case rel => exact ⟨k + 1, f2, _, by omega, by go_num, HN7.out, by have := HL7.out; have := HFL.out; omega, HNM7.out.trans HFN.out, HMF.out, XC.out, R.out, D.out, O2.out, by omega⟩
        case measure => simp [intOf]; omega
    · have hkl : k = rp.length := by omega
      have HPF := Lib.hid (show payAll b.folk rp = some f by have := HPA.out; rw [hkl, List.take_length] at this; exact this)
      clear hkl
      have HNF := Lib.hid (show turnL b = (doneB b (oB.wFolk f), doneC (oB.wFolk f)) by
        have h1 := HN.out
        rw [HPF.out] at h1
        rw [← HTO.out f]
        exact h1.trans (if_pos rfl))
      have HLO := Lib.hid (HLB.out f HFL.out)
      have HZO := Lib.hid (HZB.out f HFN.out)
      have hd : decide ((k : Int) < (rp.length : Int)) = false := by simp; omega
      have HRZ := Lib.hid (HNF.out)
      obtain ⟨o, HO⟩ : ∃ o, Hid (oB.wFolk f = o) := ⟨_, Lib.hid rfl⟩
      obtain ⟨t, HT⟩ : ∃ t, Hid (t' = t) := ⟨_, Lib.hid rfl⟩
      rw [HO.out] at MX HLO HZO HRZ
      rw [HT.out] at MX
      have hMb := MX.out.base
      have x0 := XC.out.c0
      have x1 := XC.out.c1
      have x2 := XC.out.c2
      have x3 := XC.out.c3
      have x4 := XC.out.c4
      have x5 := XC.out.c5
      have x6 := XC.out.c6
      have x7 := XC.out.c7
      have y0 := MX.out.c.c0
      have y1 := MX.out.c.c1
      have y2 := MX.out.c.c2
      have y3 := MX.out.c.c3
      have y4 := MX.out.c.c4
      have y5 := MX.out.c.c5
      have y6 := MX.out.c.c6
      have y7 := MX.out.c.c7

      go_wp2_with fail
      refine (l8Done_any (b := b) (o := o) (s := s) (t := t) (HH.out.below D.out) HR.out HL.out MX.out.o HLO.out HZO.out hMb).mono ?_
      obtain ⟨r, Hr⟩ : ∃ r, Hid (doneB b o = r) := ⟨_, Lib.hid rfl⟩
      obtain ⟨c, Hc⟩ : ∃ c, Hid (doneC o = c) := ⟨_, Lib.hid rfl⟩
      rw [Hr.out, Hc.out]
      rw [Hr.out, Hc.out] at HRZ
      rintro e w9 ⟨s9, rfl, ho, hb⟩
      replace R := Lib.hid (R.out.below hb)
      replace D := Lib.hid (below_trans D.out hb)
      have HE := Lib.hid (show ResK (turnL b).1 (turnL b).2 w.heap.size w (.returned (.tuple #[.agg #[.int .i64 r.season, .int .i64 r.supply, .int .i64 r.burnt, .int .i64 r.pot, .slice s9.fa r.folk.length s9.fc, .slice s9.ma r.mills.length s9.mc, .slice s9.pa r.parts.length s9.pc, .slice s9.wa r.waits.length s9.wc], .int .i64 c])) (putB w9 (w.heap.size + 1) r s9) from by
        rw [HRZ.out]
        exact ⟨s9, rfl, (ho.grown (putB_grown _ _ _ _) (by omega)).mono (by omega), putB_below D.out (by omega) _ _⟩)
      unfold putB at HE
      clear ho hb
      have r0 := R.out.has 0 _ rfl
      have r1 := R.out.has 1 _ rfl
      have r2 := R.out.has 2 _ rfl
      have r3 := R.out.has 3 _ rfl
      have r4 := R.out.has 4 _ rfl
      have r5 := R.out.has 5 _ rfl
      have r6 := R.out.has 6 _ rfl
      have r7 := R.out.has 7 _ rfl
      have rf := R.out.free
      go_wp2
      exact bodyPost_ret (v := .tuple #[.agg #[.int .i64 r.season, .int .i64 r.supply, .int .i64 r.burnt, .int .i64 r.pot, .slice s9.fa r.folk.length s9.fc, .slice s9.ma r.mills.length s9.mc, .slice s9.pa r.parts.length s9.pc, .slice s9.wa r.waits.length s9.wc], .int .i64 c]) (by simp [results, Tryz.results128, go_sem, r0, r1, r2, r3, r4, r5, r6, r7]) rfl HE.out
end Go.Proofs.YtlnnchgaloejlaaGreat
