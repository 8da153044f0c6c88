/-
  Texts joined: Facts6, PunB.
-/
import Derived.Test.YtlnnchgaloejlaaGreatP17
import Derived.Test.YtlnnchgaloejlaaGreatP24
namespace Go.Proofs.YtlnnchgaloejlaaGreat
open Go.ChangeShapes Go.WideShapes Go.ChangeAt Go.RowKit

theorem wup_le {ps : List Wai} (h : WUp ps ps.length) {j : Nat} : ∀ m (hm : j + 1 + m < ps.length), (ps[j]'(by omega)).ripe ≤ ps[j + 1 + m].ripe
  | 0, hm => h.2 j hm hm
  | m + 1, hm => Int.le_trans (wup_le h m (by omega)) (h.2 (j + 1 + m) hm hm)
theorem wup_pair {ps : List Wai} : WUp ps ps.length ↔ (∀ p ∈ ps, waitB p = true) ∧ ps.Pairwise (fun p q => p.ripe ≤ q.ripe) := by
  constructor
  · intro h
    refine ⟨fun p hp => ?_, ?_⟩
    · obtain ⟨k, hk, rfl⟩ := List.getElem_of_mem hp; exact h.1 k hk hk
    · rw [List.pairwise_iff_getElem]
      intro i j hi hj hij
      have := wup_le h (j := i) (j - (i + 1)) (by omega)
      simpa [show i + 1 + (j - (i + 1)) = j by omega] using this
  · rintro ⟨h1, h2⟩
    rw [List.pairwise_iff_getElem] at h2
    exact ⟨fun j hj _ => h1 _ (List.getElem_mem hj), fun j hj _ => h2 j (j + 1) (by omega) hj (by omega)⟩
theorem waits_pair {ps : List Wai} : waitsB ps = true ↔ ps.length ≤ 20 ∧ (∀ p ∈ ps, waitB p = true) ∧ ps.Pairwise (fun p q => p.ripe ≤ q.ripe) := by
  rw [← wup_pair]
  exact ⟨waits_true, fun h => waits_yes h.1 h.2⟩
theorem sub_waits {ps qs : List Wai} (h : waitsB ps = true) (hs : qs.Sublist ps) : waitsB qs = true := by
  obtain ⟨h1, h2, h3⟩ := waits_pair.1 h
  exact waits_pair.2 ⟨Nat.le_trans hs.length_le h1, fun p hp => h2 p (hs.subset hp), h3.sublist hs⟩
end Go.Proofs.YtlnnchgaloejlaaGreat
namespace Go.Proofs.YtlnnchgaloejlaaGreat
open Go.ChangeShapes Go.WideShapes Go.ChangeAt Go.RowKit

theorem book_waits {b : Bok} (h : bookB b = true) : waitsB b.waits = true := (lists_all (book_true h).1).1.2.2.2
theorem fin_sum_bd {ps : List Wai} {mill : ByteArray} {pc : Int} (h : waitsB ps = true) (hp : inB 0 100 pc = true) : 0 ≤ finedN ps mill pc ∧ finedN ps mill pc ≤ 20000000 := by
  obtain ⟨h20, hu⟩ := waits_true h
  have := fin_bd (mill := mill) hu hp ps.length (Nat.le_refl _)
  rw [List.take_length] at this
  rw [finedN, if_pos (by simp [finedB, h, hp])]
  omega
theorem finedL_ws {ps : List Wai} (h : WSized ps) (mill : ByteArray) (pc : Int) : WSized (finedL ps mill pc) := wsized_mem.2 fun p hp => by
  unfold finedL at hp; split at hp
  · unfold finOf at hp
    rw [List.mem_filter, List.mem_map] at hp
    obtain ⟨⟨q, hq, rfl⟩, -⟩ := hp
    exact wsized_mem.1 h q hq
  · simp at hp
/-- Other waits, of a block behind all of its own. -/
theorem MineB.putWaits2 {w : World} {X C C' g cg : Nat} {x : Bok} {t : Spots} {out : List Wai} (h : MineB w X C x t) (hX : X < C') (ho : OwnR Wai.cs 4 w C' (some ⟨g, 0, none⟩) out) (old : BOld x t C') (hc : out.length ≤ cg) (hg : C' ≤ g) (hC : C ≤ C') :
    MineB (w.setCell ⟨X, 7, none⟩ (.slice (some ⟨g, 0, none⟩) out.length cg)) X C (x.wWaits out) (t.wW (some ⟨g, 0, none⟩) cg) := by
  have gs := gset (o := 7) (gid w (some X)) (.slice (some ⟨g, 0, none⟩) out.length cg)
  have og := ho.grown gs hX
  exact ⟨h.c.wWaits out (some ⟨g, 0, none⟩) cg, h.f.set _ _, (h.o.apart gs h.n).wWaits (og.mono hC) (.inr ⟨_, rfl⟩) hc (apart_lt (fun x' e l => old.folk x' 0 e l) og.lo (Nat.le_refl _)) (apart_lt (fun x' e l => old.mills x' 0 e l) og.lo (Nat.le_refl _)) (apart_lt (fun x' e l => old.parts x' 0 e l) og.lo (Nat.le_refl _)), h.n.wWaits (fun x' e _ => by injection e with e; injection e with e; omega), h.lo, h.p, ⟨g, rfl⟩⟩
theorem BOld.setMill {b : Bok} {s : Spots} {B : Nat} (h : BOld b s B) (k : Nat) (m : Mil) : BOld (b.wMills (b.mills.set k m)) s B := ⟨h.folk, fun x o e l => h.mills x o e (by simpa [Bok.wMills] using l), h.parts, h.waits⟩
/-- A mill that was fined; the book then. -/
def punM (m : Mil) (n : Int) : Mil := ⟨m.name, m.stake - n, m.shares, m.cut, true⟩
noncomputable def punO (b : Bok) (k : Nat) (mill : ByteArray) (pc : Int) : Bok :=
  ((b.wMills (b.mills.set k (punM (b.mills.getD k mil0) (partV (b.mills.getD k mil0).stake pc)))).wWaits (finedL b.waits mill pc)).wBurnt (b.burnt + partV (b.mills.getD k mil0).stake pc + finedN b.waits mill pc)
/-- What comes of it. -/
noncomputable def punL (b : Bok) (mill : ByteArray) (pc : Int) : Bok × Int :=
  if bookB b = true then
    if 0 ≤ placeV (mnames b.mills) mill then
      if inB 1 100 pc = true then (doneB b (punO b (placeV (mnames b.mills) mill).toNat mill pc), doneC (punO b (placeV (mnames b.mills) mill).toNat mill pc))
      else (b, 7)
    else (b, 1)
  else (bok0, 7)

set_option maxRecDepth 100000 in
set_option maxHeartbeats 16000000 in
set_option maxRecDepth 100000 in
theorem sPunished_any {w : World} {b : Bok} {s : Spots} (mill : ByteArray) (pc : Int) (h : BookAt w b s) (hr : Roots b s) (hl : BLen b) (hz : BSized b) :
    Calls Tryz.prog 124 #[.agg #[.int .i64 b.season, .int .i64 b.supply, .int .i64 b.burnt, .int .i64 b.pot, .slice s.fa b.folk.length s.fc, .slice s.ma b.mills.length s.mc, .slice s.pa b.parts.length s.pc, .slice s.wa b.waits.length s.wc], .string mill, .int .i64 pc] w (ResK (punL b mill pc).1 (punL b mill pc).2 w.heap.size w) := by
  have HH := Lib.hid h
  have HR := Lib.hid hr
  have HL := Lib.hid hl
  have HZ := Lib.hid hz
  have l1 := hl.fl
  have l2 := hl.ml
  have l3 := hl.pl
  have l4 := hl.wl
  have XC := Lib.hid (CellB.new w b s 29)
  have D := Lib.hid (below_new w (.cells #[.int .i64 b.season, .int .i64 b.supply, .int .i64 b.burnt, .int .i64 b.pot, .slice s.fa b.folk.length s.fc, .slice s.ma b.mills.length s.mc, .slice s.pa b.parts.length s.pc, .slice s.wa b.waits.length s.wc] 29))
  obtain ⟨W0, hW0⟩ : ∃ W, w.alloc (.cells #[.int .i64 b.season, .int .i64 b.supply, .int .i64 b.burnt, .int .i64 b.pot, .slice s.fa b.folk.length s.fc, .slice s.ma b.mills.length s.mc, .slice s.pa b.parts.length s.pc, .slice s.wa b.waits.length s.wc] 29) = W := ⟨_, rfl⟩
  have hs0 : W0.heap.size = w.heap.size + 1 := by rw [← hW0]; simp
  rw [hW0] at XC D
  have bz := below_new W0 (.cells #[.int .i64 0, .int .i64 0, .int .i64 0, .int .i64 0, .slice none 0 0, .slice none 0 0, .slice none 0 0, .slice none 0 0] 29)
  have R := Lib.hid (OutV.new W0 [.int .i64 0, .int .i64 0, .int .i64 0, .int .i64 0, .slice none 0 0, .slice none 0 0, .slice none 0 0, .slice none 0 0] 29)
  obtain ⟨W1, hW1⟩ : ∃ W, W0.alloc (.cells #[.int .i64 0, .int .i64 0, .int .i64 0, .int .i64 0, .slice none 0 0, .slice none 0 0, .slice none 0 0, .slice none 0 0] 29) = W := ⟨_, rfl⟩
  rw [show W0.alloc (.cells ([.int .i64 0, .int .i64 0, .int .i64 0, .int .i64 0, .slice none 0 0, .slice none 0 0, .slice none 0 0, .slice none 0 0] : List Value).toArray 29) = W1 from hW1, hs0] at R
  rw [hW1] at bz
  replace XC := Lib.hid (XC.out.below bz)
  replace D := Lib.hid (below_trans D.out bz)
  clear bz h hr hl hz
  have x0 := XC.out.c0
  have x1 := XC.out.c1
  have x2 := XC.out.c2
  have x3 := XC.out.c3
  have x4 := XC.out.c4
  have x5 := XC.out.c5
  have x6 := XC.out.c6
  have x7 := XC.out.c7

  go_enter Tryz.func124, Tryz.ntmps124
  go_wp2_with fail
  refine (sBookOk_any (s := s) (HH.out.below D.out) HL.out HZ.out).mono ?_
  rintro e w2 ⟨rfl, hb⟩
  clear x0 x1 x2 x3 x4 x5 x6 x7
  replace XC := Lib.hid (XC.out.below hb)
  replace R := Lib.hid (R.out.below hb)
  replace D := Lib.hid (below_trans D.out hb)
  clear hb

  cases hk : bookB b
  · have HE := Lib.hid (show ResK (punL b mill pc).1 (punL b mill pc).2 w.heap.size w (.returned (.tuple #[.agg #[.int .i64 0, .int .i64 0, .int .i64 0, .int .i64 0, .slice none 0 0, .slice none 0 0, .slice none 0 0, .slice none 0 0], .int .i64 7])) (putB w2 (w.heap.size + 1) bok0 ⟨none, 0, none, 0, none, 0, none, 0⟩) from by
      have e : punL b mill pc = (bok0, 7) := by rw [punL, hk]; rfl
      rw [e]
      exact ⟨⟨none, 0, none, 0, none, 0, none, 0⟩, rfl, ownB_nil _ _ _ ⟨.inl ⟨rfl, rfl⟩, .inl ⟨rfl, rfl⟩, .inl ⟨rfl, rfl⟩, .inl ⟨rfl, rfl⟩, Nat.le_refl _, Nat.le_refl _, Nat.le_refl _, Nat.le_refl _⟩, putB_below D.out (by omega) _ _⟩)
    unfold putB at HE
    have r0 := R.out.has 0 _ rfl
    have r1 := R.out.has 1 _ rfl
    have r2 := R.out.has 2 _ rfl
    have r3 := R.out.has 3 _ rfl
    have r4 := R.out.has 4 _ rfl
    have r5 := R.out.has 5 _ rfl
    have r6 := R.out.has 6 _ rfl
    have r7 := R.out.has 7 _ rfl
    have rf := R.out.free
    go_wp2
    exact bodyPost_ret (v := .tuple #[.agg #[.int .i64 0, .int .i64 0, .int .i64 0, .int .i64 0, .slice none 0 0, .slice none 0 0, .slice none 0 0, .slice none 0 0], .int .i64 7]) (by simp [results, Tryz.results124, go_sem, r0, r1, r2, r3, r4, r5, r6, r7]) rfl HE.out
  have HN := Lib.hid (show punL b mill pc = _ from (show punL b mill pc = if bookB b = true then _ else _ from rfl).trans (if_pos hk))
  have HK := Lib.hid hk
  clear hk
  have x0 := XC.out.c0
  have x1 := XC.out.c1
  have x2 := XC.out.c2
  have x3 := XC.out.c3
  have x4 := XC.out.c4
  have x5 := XC.out.c5
  have x6 := XC.out.c6
  have x7 := XC.out.c7

  have hltR3 := R.out.lt
  go_wp2_with fail
  refine (l7Copy_sol (s := s) (HH.out.below D.out) HR.out HL.out).mono ?_
  rintro e w3 ⟨s3, rfl, ho, hb, hso⟩
  clear x0 x1 x2 x3 x4 x5 x6 x7
  have sz3 := hb.size
  have MO := Lib.hid (MineB.copy ho hso hb.size 29)
  have OLDs3 := Lib.hid (ho.at.bold)
  clear ho hso
  replace XC := Lib.hid (XC.out.below hb)
  replace R := Lib.hid (R.out.below hb)
  replace D := Lib.hid (below_trans D.out hb)
  clear hb

  have bV := below_new w3 (.cells #[.int .i64 b.season, .int .i64 b.supply, .int .i64 b.burnt, .int .i64 b.pot, .slice s3.fa b.folk.length s3.fc, .slice s3.ma b.mills.length s3.mc, .slice s3.pa b.parts.length s3.pc, .slice s3.wa b.waits.length s3.wc] 29)
  obtain ⟨V, hVV⟩ : ∃ V, w3.alloc (.cells #[.int .i64 b.season, .int .i64 b.supply, .int .i64 b.burnt, .int .i64 b.pot, .slice s3.fa b.folk.length s3.fc, .slice s3.ma b.mills.length s3.mc, .slice s3.pa b.parts.length s3.pc, .slice s3.wa b.waits.length s3.wc] 29) = V := ⟨_, rfl⟩
  have szV : w3.heap.size < V.heap.size := by rw [← hVV]; simp
  rw [hVV] at bV MO
  replace XC := Lib.hid (XC.out.below bV)
  replace R := Lib.hid (R.out.below bV)
  replace D := Lib.hid (below_trans D.out bV)
  clear bV
  have x5 := XC.out.c5
  go_wp2_with fail
  refine (l4Find_any _ _ (HH.out.mills.below D.out) (by omega)).mono ?_
  rintro e w' ⟨rfl, rfl⟩
  clear x5
  by_cases hp : 0 ≤ placeV (mnames b.mills) mill
  case neg =>
    have HQ := Lib.hid (HN.out.trans (if_neg hp))
    have hlo := place_lo (mnames b.mills) mill
    have hpe : placeV (mnames b.mills) mill = -1 := by omega
    rw [hpe]
    clear hp hpe hlo
    have HE := Lib.hid (show ResK (punL b mill pc).1 (punL b mill pc).2 w.heap.size w (.returned (.tuple #[.agg #[.int .i64 b.season, .int .i64 b.supply, .int .i64 b.burnt, .int .i64 b.pot, .slice s3.fa b.folk.length s3.fc, .slice s3.ma b.mills.length s3.mc, .slice s3.pa b.parts.length s3.pc, .slice s3.wa b.waits.length s3.wc], .int .i64 1])) (putB V (w.heap.size + 1) b s3) from by
      have e : punL b mill pc = (b, 1) := HQ.out
      rw [e]
      exact ⟨s3, rfl, (MO.out.o.grown (putB_grown _ _ _ _) (by omega)).mono (by omega), putB_below D.out (by omega) _ _⟩)
    unfold putB at HE
    have y0 := MO.out.c.c0
    have y1 := MO.out.c.c1
    have y2 := MO.out.c.c2
    have y3 := MO.out.c.c3
    have y4 := MO.out.c.c4
    have y5 := MO.out.c.c5
    have y6 := MO.out.c.c6
    have y7 := MO.out.c.c7
    have r0 := R.out.has 0 _ rfl
    have r1 := R.out.has 1 _ rfl
    have r2 := R.out.has 2 _ rfl
    have r3 := R.out.has 3 _ rfl
    have r4 := R.out.has 4 _ rfl
    have r5 := R.out.has 5 _ rfl
    have r6 := R.out.has 6 _ rfl
    have r7 := R.out.has 7 _ rfl
    have rf := R.out.free
    go_wp2
    exact bodyPost_ret (v := .tuple #[.agg #[.int .i64 b.season, .int .i64 b.supply, .int .i64 b.burnt, .int .i64 b.pot, .slice s3.fa b.folk.length s3.fc, .slice s3.ma b.mills.length s3.mc, .slice s3.pa b.parts.length s3.pc, .slice s3.wa b.waits.length s3.wc], .int .i64 1]) (by simp [results, Tryz.results124, go_sem, r0, r1, r2, r3, r4, r5, r6, r7]) rfl HE.out
  replace HN := Lib.hid (HN.out.trans (if_pos hp))
  obtain ⟨k, ek, hklk, -⟩ := place_hit hp
  rw [len_mn] at hklk
  rw [ek]
  have HEk := Lib.hid ek
  clear hp ek
  have HKTk := Lib.hid (show (placeV (mnames b.mills) mill).toNat = k by rw [HEk.out]; omega)
  have HGDk := Lib.hid (show b.mills.getD (placeV (mnames b.mills) mill).toNat mil0 = b.mills[k] by rw [HKTk.out, getD_mil hklk])
  go_wp2_with fail
  refine (l1In_any _ _ _ _).mono ?_
  rintro e w' ⟨rfl, rfl⟩
  cases hi : inB 1 100 pc
  · have HQ := Lib.hid (HN.out.trans (if_neg (by rw [hi]; decide)))
    have HE := Lib.hid (show ResK (punL b mill pc).1 (punL b mill pc).2 w.heap.size w (.returned (.tuple #[.agg #[.int .i64 b.season, .int .i64 b.supply, .int .i64 b.burnt, .int .i64 b.pot, .slice s3.fa b.folk.length s3.fc, .slice s3.ma b.mills.length s3.mc, .slice s3.pa b.parts.length s3.pc, .slice s3.wa b.waits.length s3.wc], .int .i64 7])) (putB V (w.heap.size + 1) b s3) from by
      have e : punL b mill pc = (b, 7) := HQ.out
      rw [e]
      exact ⟨s3, rfl, (MO.out.o.grown (putB_grown _ _ _ _) (by omega)).mono (by omega), putB_below D.out (by omega) _ _⟩)
    unfold putB at HE
    have y0 := MO.out.c.c0
    have y1 := MO.out.c.c1
    have y2 := MO.out.c.c2
    have y3 := MO.out.c.c3
    have y4 := MO.out.c.c4
    have y5 := MO.out.c.c5
    have y6 := MO.out.c.c6
    have y7 := MO.out.c.c7
    have r0 := R.out.has 0 _ rfl
    have r1 := R.out.has 1 _ rfl
    have r2 := R.out.has 2 _ rfl
    have r3 := R.out.has 3 _ rfl
    have r4 := R.out.has 4 _ rfl
    have r5 := R.out.has 5 _ rfl
    have r6 := R.out.has 6 _ rfl
    have r7 := R.out.has 7 _ rfl
    have rf := R.out.free
    go_wp2
    exact bodyPost_ret (v := .tuple #[.agg #[.int .i64 b.season, .int .i64 b.supply, .int .i64 b.burnt, .int .i64 b.pot, .slice s3.fa b.folk.length s3.fc, .slice s3.ma b.mills.length s3.mc, .slice s3.pa b.parts.length s3.pc, .slice s3.wa b.waits.length s3.wc], .int .i64 7]) (by simp [results, Tryz.results124, go_sem, r0, r1, r2, r3, r4, r5, r6, r7]) rfl HE.out
  replace HN := Lib.hid (HN.out.trans (if_pos hi))
  have hib := inB_true hi
  clear hi
  rw [HKTk.out] at HN
  have HRT := Lib.hid (book_right HK.out)
  have hmp := millB_parts (HRT.out.1 k hklk)
  have hbu := book_burnt HK.out
  have HFB := Lib.hid (fin_sum_bd (mill := mill) (book_waits HK.out) (show inB 0 100 pc = true by simp [inB]; omega))
  have HNO := Lib.hid (show punO b k mill pc = ((b.wMills (b.mills.set k (punM b.mills[k] (partV b.mills[k].stake pc)))).wWaits (finedL b.waits mill pc)).wBurnt (b.burnt + partV b.mills[k].stake pc + finedN b.waits mill pc) by rw [punO, getD_mil hklk])
  rw [HNO.out] at HN
  have hpb := partV_bd (n := b.mills[k].stake) (p := pc) (by omega) (by omega) (show inB 0 100 pc = true by simp [inB]; omega)
  obtain ⟨m, Hm⟩ : ∃ m, Hid (b.mills[k] = m) := ⟨_, Lib.hid rfl⟩
  rw [Hm.out] at HN hmp hpb
  obtain ⟨y, ey, -, hyV, -⟩ := MO.out.o.mill hklk
  have EY := Lib.hid ey
  clear ey
  have hCy := MO.out.loM EY.out hklk
  have T0 := Lib.hid (MO.out.millC EY.out hklk Hm.out)
  have z1 := T0.out.c1
  have z5 := MO.out.c5 EY.out
  have x7 := XC.out.c7
  go_wp2_with fail
  refine (sPartOf_any _ _ _).mono ?_
  rintro e w' ⟨rfl, rfl⟩
  obtain ⟨n, Hn⟩ : ∃ n, Hid (partV m.stake pc = n) := ⟨_, Lib.hid rfl⟩
  rw [Hn.out] at HN hpb
  rw [Hn.out]
  go_wp2_with fail
  refine (sFined_any _ mill pc (HH.out.waits.below D.out) l4 HZ.out.ws).mono ?_
  rintro e w5 ⟨g, cg, rfl, hog, hb, hcg, hg0⟩
  have OG := Lib.hid hog
  have HCG := Lib.hid hcg
  have sz5 := hb.size
  have HWS := Lib.hid (finedL_ws HZ.out.ws mill pc)
  have HWL := Lib.hid (finedL_le b.waits mill pc)
  clear hog hcg z1 z5 x7
  replace XC := Lib.hid (XC.out.below hb)
  replace R := Lib.hid (R.out.below hb)
  replace D := Lib.hid (below_trans D.out hb)
  replace MO := Lib.hid (MO.out.below hb)
  clear hb

  obtain ⟨out, HOUT⟩ : ∃ l, Hid (finedL b.waits mill pc = l) := ⟨_, Lib.hid rfl⟩
  obtain ⟨al, HAL⟩ : ∃ l, Hid (finedN b.waits mill pc = l) := ⟨_, Lib.hid rfl⟩
  rw [HOUT.out] at OG HCG HN HWS HWL
  rw [HAL.out] at HN HFB
  rw [HOUT.out, HAL.out]
  have hfb := HFB.out
  have MX := MO
  clear MO
  have hkx := hklk
  obtain ⟨mB, HmB⟩ : ∃ q, Hid ((⟨m.name, m.stake - n, m.shares, m.cut, m.shut⟩ : Mil) = q) := ⟨_, Lib.hid rfl⟩
  have T5 := Lib.hid (MX.out.millC EY.out hklk Hm.out)
  have z1 := T5.out.c1
  have zf := T5.out.f
  have MP := MX
  obtain ⟨V6, hVV6⟩ : ∃ W, w5.setCell ⟨y, k * 5 + 1, none⟩ (.int .i64 (m.stake - n)) = W := ⟨_, rfl⟩
  have hbs : Below w2.heap.size w5 V6 := by rw [← hVV6]; exact (Below.refl _ _).setCell (by show w2.heap.size ≤ y; omega) _
  have szV6 := hbs.size
  replace MX := Lib.hid (show MineB V6 w3.heap.size w2.heap.size (b.wMills (b.mills.set k mB)) s3 from by rw [← hVV6]; exact MP.out.setMill EY.out hklk (by omega) (by rw [Hm.out, ← HmB.out]; rfl))
  replace XC := Lib.hid (XC.out.under hbs (by omega))
  replace R := Lib.hid (R.out.under hbs (by omega))
  replace D := Lib.hid (D.out.trans (hbs.mono (by omega)))
  clear hbs
  have T6 := Lib.hid (MX.out.millC EY.out (set_mill b hklk mB) (set_at b hklk mB))
  have u4 : V6.cell? ⟨y, k * 5 + 4, none⟩ = some (.bool m.shut) := by have := T6.out.c4; rw [← HmB.out] at this; exact this
  have uf := T6.out.f
  have MP2 := MX
  obtain ⟨V7, hVV7⟩ : ∃ W, V6.setCell ⟨y, k * 5 + 4, none⟩ (.bool true) = W := ⟨_, rfl⟩
  have hbs : Below w2.heap.size V6 V7 := by rw [← hVV7]; exact (Below.refl _ _).setCell (by show w2.heap.size ≤ y; omega) _
  have szV7 := hbs.size
  replace MX := Lib.hid (show MineB V7 w3.heap.size w2.heap.size (b.wMills (b.mills.set k (punM m n))) s3 from by rw [← hVV7]; exact (by have h8 := MP2.out.setMill (m := punM m n) (v := .bool true) EY.out (set_mill b hklk mB) (show 4 < 5 by omega) (by rw [set_at b hklk mB, ← HmB.out]; rfl); rw [set_twice] at h8; exact h8))
  replace XC := Lib.hid (XC.out.under hbs (by omega))
  replace R := Lib.hid (R.out.under hbs (by omega))
  replace D := Lib.hid (D.out.trans (hbs.mono (by omega)))
  clear hbs
  have HOGV := Lib.hid (show OwnR Wai.cs 4 V7 V.heap.size (some ⟨g, 0, none⟩) out by rw [← hVV7]; exact (show OwnR Wai.cs 4 V6 V.heap.size (some ⟨g, 0, none⟩) out by rw [← hVV6]; exact OG.out.grown (gset (gid w5 (some y)) _) (by omega)).grown (gset (gid V6 (some y)) _) (by omega))
  have MP3 := MX
  have HOLDB := Lib.hid ((OLDs3.out.mono (show w3.heap.size ≤ V.heap.size by omega)).setMill k (punM m n))
  have y7w := MX.out.c.c7
  have yfw := MX.out.f.1
  obtain ⟨V8, hVV8⟩ : ∃ W, V7.setCell ⟨w3.heap.size, 7, none⟩ (.slice (some ⟨g, 0, none⟩) out.length cg) = W := ⟨_, rfl⟩
  have hbs : Below w2.heap.size V7 V8 := by rw [← hVV8]; exact (Below.refl _ _).setCell (by show w2.heap.size ≤ w3.heap.size; omega) _
  have szV8 := hbs.size
  replace MX := Lib.hid (show MineB V8 w3.heap.size w2.heap.size ((b.wMills (b.mills.set k (punM m n))).wWaits out) (s3.wW (some ⟨g, 0, none⟩) cg) from by rw [← hVV8]; exact MP3.out.putWaits2 (by omega) HOGV.out HOLDB.out HCG.out hg0 (by omega))
  replace XC := Lib.hid (XC.out.under hbs (by omega))
  replace R := Lib.hid (R.out.under hbs (by omega))
  replace D := Lib.hid (D.out.trans (hbs.mono (by omega)))
  clear hbs
  have MP4 := MX
  have x2 := XC.out.c2
  have y2w := MX.out.c.c2
  have yfw := MX.out.f.1
  obtain ⟨V9, hVV9⟩ : ∃ W, V8.setCell ⟨w3.heap.size, 2, none⟩ (.int .i64 (b.burnt + n + al)) = W := ⟨_, rfl⟩
  have hbs : Below w2.heap.size V8 V9 := by rw [← hVV9]; exact (Below.refl _ _).setCell (by show w2.heap.size ≤ w3.heap.size; omega) _
  have szV9 := hbs.size
  replace MX := Lib.hid (show MineB V9 w3.heap.size w2.heap.size (((b.wMills (b.mills.set k (punM m n))).wWaits out).wBurnt (b.burnt + n + al)) (s3.wW (some ⟨g, 0, none⟩) cg) from by rw [← hVV9]; exact MP4.out.setBurnt _)
  replace XC := Lib.hid (XC.out.under hbs (by omega))
  replace R := Lib.hid (R.out.under hbs (by omega))
  replace D := Lib.hid (D.out.trans (hbs.mono (by omega)))
  clear hbs
  have HLO := Lib.hid (show BLen (((b.wMills (b.mills.set k (punM m n))).wWaits out).wBurnt (b.burnt + n + al)) from ⟨HL.out.fl, by show (b.mills.set k (punM m n)).length ≤ _; rw [List.length_set]; exact HL.out.ml, HL.out.pl, Nat.le_trans HWL.out (by omega)⟩)
  have HZO := Lib.hid (show BSized (((b.wMills (b.mills.set k (punM m n))).wWaits out).wBurnt (b.burnt + n + al)) from ⟨HZ.out.fs, by show Sized (mnames (b.mills.set k (punM m n))); rw [setMill_names hklk (by rw [Hm.out]; rfl)]; exact HZ.out.ms, HZ.out.ps, HWS.out⟩)
  have HRZ := Lib.hid (HN.out)
  obtain ⟨o, HO⟩ : ∃ o, Hid (((b.wMills (b.mills.set k (punM m n))).wWaits out).wBurnt (b.burnt + n + al) = o) := ⟨_, Lib.hid rfl⟩
  obtain ⟨t, HT⟩ : ∃ t, Hid (s3.wW (some ⟨g, 0, none⟩) cg = t) := ⟨_, Lib.hid rfl⟩
  rw [HO.out] at MX HLO HZO HRZ
  rw [HT.out] at MX
  have hMb := MX.out.base
  have x0 := XC.out.c0
  have x1 := XC.out.c1
  have x2 := XC.out.c2
  have x3 := XC.out.c3
  have x4 := XC.out.c4
  have x5 := XC.out.c5
  have x6 := XC.out.c6
  have x7 := XC.out.c7
  have y0 := MX.out.c.c0
  have y1 := MX.out.c.c1
  have y2 := MX.out.c.c2
  have y3 := MX.out.c.c3
  have y4 := MX.out.c.c4
  have y5 := MX.out.c.c5
  have y6 := MX.out.c.c6
  have y7 := MX.out.c.c7

  go_wp2_with fail
  refine (l8Done_any (b := b) (o := o) (s := s) (t := t) (HH.out.below D.out) HR.out HL.out MX.out.o HLO.out HZO.out hMb).mono ?_
  obtain ⟨r, Hr⟩ : ∃ r, Hid (doneB b o = r) := ⟨_, Lib.hid rfl⟩
  obtain ⟨c, Hc⟩ : ∃ c, Hid (doneC o = c) := ⟨_, Lib.hid rfl⟩
  rw [Hr.out, Hc.out]
  rw [Hr.out, Hc.out] at HRZ
  rintro e w9 ⟨s9, rfl, ho, hb⟩
  replace R := Lib.hid (R.out.below hb)
  replace D := Lib.hid (below_trans D.out hb)
  have HE := Lib.hid (show ResK (punL b mill pc).1 (punL b mill pc).2 w.heap.size w (.returned (.tuple #[.agg #[.int .i64 r.season, .int .i64 r.supply, .int .i64 r.burnt, .int .i64 r.pot, .slice s9.fa r.folk.length s9.fc, .slice s9.ma r.mills.length s9.mc, .slice s9.pa r.parts.length s9.pc, .slice s9.wa r.waits.length s9.wc], .int .i64 c])) (putB w9 (w.heap.size + 1) r s9) from by
    rw [HRZ.out]
    exact ⟨s9, rfl, (ho.grown (putB_grown _ _ _ _) (by omega)).mono (by omega), putB_below D.out (by omega) _ _⟩)
  unfold putB at HE
  clear ho hb
  have r0 := R.out.has 0 _ rfl
  have r1 := R.out.has 1 _ rfl
  have r2 := R.out.has 2 _ rfl
  have r3 := R.out.has 3 _ rfl
  have r4 := R.out.has 4 _ rfl
  have r5 := R.out.has 5 _ rfl
  have r6 := R.out.has 6 _ rfl
  have r7 := R.out.has 7 _ rfl
  have rf := R.out.free
  go_wp2
  exact bodyPost_ret (v := .tuple #[.agg #[.int .i64 r.season, .int .i64 r.supply, .int .i64 r.burnt, .int .i64 r.pot, .slice s9.fa r.folk.length s9.fc, .slice s9.ma r.mills.length s9.mc, .slice s9.pa r.parts.length s9.pc, .slice s9.wa r.waits.length s9.wc], .int .i64 c]) (by simp [results, Tryz.results124, go_sem, r0, r1, r2, r3, r4, r5, r6, r7]) rfl HE.out
end Go.Proofs.YtlnnchgaloejlaaGreat
