/-
  Texts joined: RecutB, MendB, Facts3.
-/
import Derived.Test.YtlnnchgaloejlaaGreatP4
import Derived.Test.YtlnnchgaloejlaaGreatP13
namespace Go.Proofs.YtlnnchgaloejlaaGreat
open Go.ChangeShapes Go.WideShapes Go.ChangeAt Go.RowKit

/-- One cell of one record turns. -/
theorem OwnR.setRec {α : Type} {f : α → List Value} {c : Nat} {w : World} {B x : Nat} {xs : List α} (hc : ∀ x, (f x).length = c) (h : OwnR f c w B (some ⟨x, 0, none⟩) xs) {k j : Nat} (hk : k < xs.length) (hj : j < c) {v : Value} {y : α} (hy : f y = (f xs[k]).set j v) :
    OwnR f c (w.setCell ⟨x, k * c + j, none⟩ v) B (some ⟨x, 0, none⟩) (xs.set k y) := by
  have hdiv : ∀ a b : Nat, b < c → (a * c + b) / c = a := fun a b hb => by rw [Nat.mul_comm, Nat.mul_add_div (by omega), Nat.div_eq_of_lt hb, Nat.add_zero]
  have hcell : ∀ k' (hk' : k' < xs.length) j' u, (f xs[k'])[j']? = some u → w.cell? ⟨x, k' * c + j', none⟩ = some u := by
    intro k' hk' j' u hu
    obtain ⟨b, off, e, _, hh⟩ := h.1.cell hc (by omega) k' hk'
    injection e with e; injection e with e1 e2; subst e1; subst e2
    have := hh j' u hu
    rwa [Nat.zero_add] at this
  have hold : w.cell? ⟨x, k * c + j, none⟩ = some ((f xs[k])[j]'(by rw [hc]; exact hj)) := hcell k hk j _ (List.getElem?_eq_getElem _)
  have hrec : Recs f (w.setCell ⟨x, k * c + j, none⟩ v) (some ⟨x, 0, none⟩) (xs.set k y) := by
    refine Recs.mk hc fun k' hk' j' u hu => ?_
    rw [Nat.zero_add]
    have hk2 : k' < xs.length := by simpa using hk'
    have hjc : j' < c := by have := (List.getElem?_eq_some_iff.1 hu).1; rwa [hc] at this
    by_cases ek : k' = k
    · subst ek
      rw [List.getElem_set_self, hy] at hu
      by_cases ej : j' = j
      · subst ej
        rw [List.getElem?_set_self (by rw [hc]; exact hj)] at hu
        injection hu with hu; subst hu
        rw [World.cell?_setCell_same _ _ _ hold]
      · rw [List.getElem?_set_ne (by omega)] at hu
        rw [World.cell?_setCell_other _ _ _ _ (by intro q; injection q with _ q; omega)]
        exact hcell _ hk2 _ _ hu
    · rw [List.getElem_set_ne (by omega)] at hu
      rw [World.cell?_setCell_other _ _ _ _ (by intro q; injection q with _ q; have h1 := hdiv k' j' hjc; have h2 := hdiv k j hj; rw [← q] at h1; omega)]
      exact hcell _ hk2 _ _ hu
  refine ⟨hrec, ?_⟩
  rcases h.2 with rfl | ⟨b, e, h1, h2, hm⟩
  · simp at hk
  · injection e with e; injection e with e1; subst e1
    exact .inr ⟨x, rfl, h1, by simpa [World.setCell] using h2, by rw [List.length_set]; exact hm.set _ _⟩

/-- That mill's cut turns. -/
def cutAt (ms : List Mil) (k : Nat) (c : Int) : List Mil := ms.set k ⟨(ms.getD k mil0).name, (ms.getD k mil0).stake, (ms.getD k mil0).shares, c, (ms.getD k mil0).shut⟩
def recutO (b : Bok) (k : Nat) (c : Int) : Bok := ⟨b.season, b.supply, b.burnt, b.pot, b.folk, cutAt b.mills k c, b.parts, b.waits⟩
theorem cutAt_len (ms : List Mil) (k : Nat) (c : Int) : (cutAt ms k c).length = ms.length := by simp [cutAt]
theorem recut_cells {w : World} {B : Nat} {b : Bok} {s : Spots} (k : Nat) (c : Int) (h : CellB w B b s) : CellB w B (recutO b k c) s :=
  ⟨h.c0, h.c1, h.c2, h.c3, h.c4, by rw [h.c5]; simp only [recutO, cutAt_len], h.c6, h.c7⟩
theorem recut_len {b : Bok} (k : Nat) (c : Int) (h : BLen b) : BLen (recutO b k c) := ⟨h.fl, by simp only [recutO, cutAt_len]; exact h.ml, h.pl, h.wl⟩
theorem cut_name {ms : List Mil} {k : Nat} (hk : k < ms.length) (c : Int) : mnames (cutAt ms k c) = mnames ms := by
  apply List.ext_getElem
  · simp [mnames, cutAt]
  · intro i h1 h2
    simp only [mnames, List.length_map, cutAt_len] at h1
    simp only [mnames, cutAt, List.getElem_map, List.getElem_set]
    split
    · rename_i e; subst e; simp [hk]
    · rfl
theorem recut_sized {b : Bok} {k : Nat} (hk : k < b.mills.length) (c : Int) (h : BSized b) : BSized (recutO b k c) :=
  ⟨h.fs, by have := h.ms; rw [← cut_name hk c] at this; exact this, h.ps, h.ws⟩
/-- What comes of it. -/
noncomputable def recutL (b : Bok) (name : ByteArray) (cut : Int) : Bok × Int :=
  if bookB b = true then
    if 0 ≤ placeV (mnames b.mills) name then
      if inB 0 (b.mills.getD (placeV (mnames b.mills) name).toNat mil0).cut cut = true then (doneB b (recutO b (placeV (mnames b.mills) name).toNat cut), doneC (recutO b (placeV (mnames b.mills) name).toNat cut)) else (b, 7)
    else (b, 1)
  else (bok0, 7)

set_option maxHeartbeats 8000000 in
set_option maxRecDepth 100000 in
theorem sRecut_any {w : World} {b : Bok} {s : Spots} (name : ByteArray) (cut : Int) (h : BookAt w b s) (hr : Roots b s) (hl : BLen b) (hz : BSized b) :
    Calls Tryz.prog 120 #[.agg #[.int .i64 b.season, .int .i64 b.supply, .int .i64 b.burnt, .int .i64 b.pot, .slice s.fa b.folk.length s.fc, .slice s.ma b.mills.length s.mc, .slice s.pa b.parts.length s.pc, .slice s.wa b.waits.length s.wc], .string name, .int .i64 cut] w (ResK (recutL b name cut).1 (recutL b name cut).2 w.heap.size w) := by
  have HH := Lib.hid h
  have HR := Lib.hid hr
  have HL := Lib.hid hl
  have HZ := Lib.hid hz
  have l2 := hl.ml
  have X0 := Lib.hid (BoxB.new h 29)
  have D0 := Lib.hid (below_new w (.cells #[.int .i64 b.season, .int .i64 b.supply, .int .i64 b.burnt, .int .i64 b.pot, .slice s.fa b.folk.length s.fc, .slice s.ma b.mills.length s.mc, .slice s.pa b.parts.length s.pc, .slice s.wa b.waits.length s.wc] 29))
  obtain ⟨W0, hW0⟩ : ∃ W, w.alloc (.cells #[.int .i64 b.season, .int .i64 b.supply, .int .i64 b.burnt, .int .i64 b.pot, .slice s.fa b.folk.length s.fc, .slice s.ma b.mills.length s.mc, .slice s.pa b.parts.length s.pc, .slice s.wa b.waits.length s.wc] 29) = W := ⟨_, rfl⟩
  have hs0 : W0.heap.size = w.heap.size + 1 := by rw [← hW0]; simp
  rw [hW0] at X0 D0
  have bz := below_new W0 (.cells #[.int .i64 0, .int .i64 0, .int .i64 0, .int .i64 0, .slice none 0 0, .slice none 0 0, .slice none 0 0, .slice none 0 0] 29)
  have R1 := Lib.hid (OutV.new W0 [.int .i64 0, .int .i64 0, .int .i64 0, .int .i64 0, .slice none 0 0, .slice none 0 0, .slice none 0 0, .slice none 0 0] 29)
  obtain ⟨W1, hW1⟩ : ∃ W, W0.alloc (.cells #[.int .i64 0, .int .i64 0, .int .i64 0, .int .i64 0, .slice none 0 0, .slice none 0 0, .slice none 0 0, .slice none 0 0] 29) = W := ⟨_, rfl⟩
  rw [show W0.alloc (.cells ([.int .i64 0, .int .i64 0, .int .i64 0, .int .i64 0, .slice none 0 0, .slice none 0 0, .slice none 0 0, .slice none 0 0] : List Value).toArray 29) = W1 from hW1, hs0] at R1
  rw [hW1] at bz
  have X1 := Lib.hid (X0.out.below bz)
  have D1 := Lib.hid (below_trans D0.out bz)
  clear bz X0 D0 h hr hl hz
  have x0 := X1.out.c0
  have x1 := X1.out.c1
  have x2 := X1.out.c2
  have x3 := X1.out.c3
  have x4 := X1.out.c4
  have x5 := X1.out.c5
  have x6 := X1.out.c6
  have x7 := X1.out.c7
  go_enter Tryz.func120, Tryz.ntmps120
  go_wp2_with fail
  refine (sBookOk_any (s := s) X1.out.book HL.out HZ.out).mono ?_
  rintro e w2 ⟨rfl, hb2⟩
  have X2 := Lib.hid (X1.out.below hb2)
  have R2 := Lib.hid (R1.out.below hb2)
  have D2 := Lib.hid (below_trans D1.out hb2)
  clear hb2 X1 R1 D1 x0 x1 x2 x3 x4 x5 x6 x7
  cases hk : bookB b
  · have HE := Lib.hid (show ResK (recutL b name cut).1 (recutL b name cut).2 w.heap.size w (.returned (.tuple #[.agg #[.int .i64 0, .int .i64 0, .int .i64 0, .int .i64 0, .slice none 0 0, .slice none 0 0, .slice none 0 0, .slice none 0 0], .int .i64 7])) (putB w2 (w.heap.size + 1) bok0 ⟨none, 0, none, 0, none, 0, none, 0⟩) from by
      have e : recutL b name cut = (bok0, 7) := by simp [recutL, hk]
      rw [e]
      exact ⟨⟨none, 0, none, 0, none, 0, none, 0⟩, rfl, ownB_nil _ _ _ ⟨.inl ⟨rfl, rfl⟩, .inl ⟨rfl, rfl⟩, .inl ⟨rfl, rfl⟩, .inl ⟨rfl, rfl⟩, Nat.le_refl _, Nat.le_refl _, Nat.le_refl _, Nat.le_refl _⟩, putB_below D2.out (by omega) _ _⟩)
    unfold putB at HE
    have r0 := R2.out.has 0 _ rfl
    have r1 := R2.out.has 1 _ rfl
    have r2 := R2.out.has 2 _ rfl
    have r3 := R2.out.has 3 _ rfl
    have r4 := R2.out.has 4 _ rfl
    have r5 := R2.out.has 5 _ rfl
    have r6 := R2.out.has 6 _ rfl
    have r7 := R2.out.has 7 _ rfl
    have rf := R2.out.free
    go_wp2
    exact bodyPost_ret (v := .tuple #[.agg #[.int .i64 0, .int .i64 0, .int .i64 0, .int .i64 0, .slice none 0 0, .slice none 0 0, .slice none 0 0, .slice none 0 0], .int .i64 7]) (by simp [results, Tryz.results120, go_sem, r0, r1, r2, r3, r4, r5, r6, r7]) rfl HE.out
  have x0 := X2.out.c0
  have x1 := X2.out.c1
  have x2 := X2.out.c2
  have x3 := X2.out.c3
  have x4 := X2.out.c4
  have x5 := X2.out.c5
  have x6 := X2.out.c6
  have x7 := X2.out.c7
  go_wp2_with fail
  refine (l7Copy_any (s := s) X2.out.book HR.out HL.out).mono ?_
  rintro e w3 ⟨s3, rfl, ho3, hb3⟩
  have hlt2 := R2.out.lt
  have O3 := Lib.hid (show OwnB w3 (w.heap.size + 1 + 1) b s3 from ho3.mono (by omega))
  have X3 := Lib.hid (X2.out.below hb3)
  have R3 := Lib.hid (R2.out.below hb3)
  have D3 := Lib.hid (below_trans D2.out hb3)
  clear ho3 hb3 X2 R2 D2 x0 x1 x2 x3 x4 x5 x6 x7
  have bV := below_new w3 (.cells #[.int .i64 b.season, .int .i64 b.supply, .int .i64 b.burnt, .int .i64 b.pot, .slice s3.fa b.folk.length s3.fc, .slice s3.ma b.mills.length s3.mc, .slice s3.pa b.parts.length s3.pc, .slice s3.wa b.waits.length s3.wc] 29)
  have C4 := Lib.hid (CellB.new w3 b s3 29)
  have OLD := Lib.hid (O3.out.at.bold.notIn (Nat.le_refl _))
  obtain ⟨V, hV⟩ : ∃ V, w3.alloc (.cells #[.int .i64 b.season, .int .i64 b.supply, .int .i64 b.burnt, .int .i64 b.pot, .slice s3.fa b.folk.length s3.fc, .slice s3.ma b.mills.length s3.mc, .slice s3.pa b.parts.length s3.pc, .slice s3.wa b.waits.length s3.wc] 29) = V := ⟨_, rfl⟩
  rw [hV] at bV C4
  have O4 := Lib.hid (O3.out.below bV)
  have X4 := Lib.hid (X3.out.below bV)
  have R4 := Lib.hid (R3.out.below bV)
  have D4 := Lib.hid (below_trans D3.out bV)
  have hlt3 := R3.out.lt
  clear bV O3 X3 R3 D3
  have x5 := X4.out.c5
  go_wp2_with fail
  refine (l4Find_any _ _ X4.out.book.mills (by omega)).mono ?_
  rintro e w4 ⟨rfl, rfl⟩
  by_cases hp : 0 ≤ placeV (mnames b.mills) name
  case neg =>
    have HE := Lib.hid (show ResK (recutL b name cut).1 (recutL b name cut).2 w.heap.size w (.returned (.tuple #[.agg #[.int .i64 b.season, .int .i64 b.supply, .int .i64 b.burnt, .int .i64 b.pot, .slice s3.fa b.folk.length s3.fc, .slice s3.ma b.mills.length s3.mc, .slice s3.pa b.parts.length s3.pc, .slice s3.wa b.waits.length s3.wc], .int .i64 1])) (putB V (w.heap.size + 1) b s3) from by
      have e : recutL b name cut = (b, 1) := by simp [recutL, hk, hp]
      rw [e]
      exact ⟨s3, rfl, (O4.out.grown (putB_grown _ _ _ _) (by omega)).mono (by omega), putB_below D4.out (by omega) _ _⟩)
    unfold putB at HE
    have hlo := mplace_lo b.mills name
    have hpe : placeV (mnames b.mills) name = -1 := by omega
    rw [hpe]
    clear hp hpe hlo
    have y0 := C4.out.c0
    have y1 := C4.out.c1
    have y2 := C4.out.c2
    have y3 := C4.out.c3
    have y4 := C4.out.c4
    have y5 := C4.out.c5
    have y6 := C4.out.c6
    have y7 := C4.out.c7
    have r0 := R4.out.has 0 _ rfl
    have r1 := R4.out.has 1 _ rfl
    have r2 := R4.out.has 2 _ rfl
    have r3 := R4.out.has 3 _ rfl
    have r4 := R4.out.has 4 _ rfl
    have r5 := R4.out.has 5 _ rfl
    have r6 := R4.out.has 6 _ rfl
    have r7 := R4.out.has 7 _ rfl
    have rf := R4.out.free
    go_wp2
    exact bodyPost_ret (v := .tuple #[.agg #[.int .i64 b.season, .int .i64 b.supply, .int .i64 b.burnt, .int .i64 b.pot, .slice s3.fa b.folk.length s3.fc, .slice s3.ma b.mills.length s3.mc, .slice s3.pa b.parts.length s3.pc, .slice s3.wa b.waits.length s3.wc], .int .i64 1]) (by simp [results, Tryz.results120, go_sem, r0, r1, r2, r3, r4, r5, r6, r7]) rfl HE.out
  obtain ⟨k, ek, hkl, -⟩ := place_hit hp
  rw [len_mn] at hkl
  have HRL := Lib.hid (show recutL b name cut = if inB 0 b.mills[k].cut cut = true then (doneB b (recutO b k cut), doneC (recutO b k cut)) else (b, 7) by
    rw [recutL, if_pos hk, if_pos hp, ek, show ((k : Int)).toNat = k by omega, getD_mil hkl])
  rw [ek]
  clear hp ek hk
  obtain ⟨p, off, ep, hlb, m0, m1, m2, m3, m4⟩ := Mil.at X4.out.book.mills k hkl
  rw [ep] at x5
  clear ep hlb
  go_wp2_with fail
  refine (l1In_any _ _ _ _).mono ?_
  rintro e w4 ⟨rfl, rfl⟩
  cases hi : inB 0 b.mills[k].cut cut
  · have HE := Lib.hid (show ResK (recutL b name cut).1 (recutL b name cut).2 w.heap.size w (.returned (.tuple #[.agg #[.int .i64 b.season, .int .i64 b.supply, .int .i64 b.burnt, .int .i64 b.pot, .slice s3.fa b.folk.length s3.fc, .slice s3.ma b.mills.length s3.mc, .slice s3.pa b.parts.length s3.pc, .slice s3.wa b.waits.length s3.wc], .int .i64 7])) (putB V (w.heap.size + 1) b s3) from by
      have e : recutL b name cut = (b, 7) := by rw [HRL.out, hi]; rfl
      rw [e]
      exact ⟨s3, rfl, (O4.out.grown (putB_grown _ _ _ _) (by omega)).mono (by omega), putB_below D4.out (by omega) _ _⟩)
    unfold putB at HE
    have y0 := C4.out.c0
    have y1 := C4.out.c1
    have y2 := C4.out.c2
    have y3 := C4.out.c3
    have y4 := C4.out.c4
    have y5 := C4.out.c5
    have y6 := C4.out.c6
    have y7 := C4.out.c7
    have r0 := R4.out.has 0 _ rfl
    have r1 := R4.out.has 1 _ rfl
    have r2 := R4.out.has 2 _ rfl
    have r3 := R4.out.has 3 _ rfl
    have r4 := R4.out.has 4 _ rfl
    have r5 := R4.out.has 5 _ rfl
    have r6 := R4.out.has 6 _ rfl
    have r7 := R4.out.has 7 _ rfl
    have rf := R4.out.free
    go_wp2
    exact bodyPost_ret (v := .tuple #[.agg #[.int .i64 b.season, .int .i64 b.supply, .int .i64 b.burnt, .int .i64 b.pot, .slice s3.fa b.folk.length s3.fc, .slice s3.ma b.mills.length s3.mc, .slice s3.pa b.parts.length s3.pc, .slice s3.wa b.waits.length s3.wc], .int .i64 7]) (by simp [results, Tryz.results120, go_sem, r0, r1, r2, r3, r4, r5, r6, r7]) rfl HE.out
  have HRY := Lib.hid (show recutL b name cut = (doneB b (recutO b k cut), doneC (recutO b k cut)) by rw [HRL.out, hi]; rfl)
  clear hi HRL m0 m1 m2 m3 m4 x5
  obtain ⟨x, HX⟩ : ∃ x, Hid (s3.ma = some ⟨x, 0, none⟩ ∧ w.heap.size + 1 + 1 ≤ x) := by
    rcases O4.out.mills.2 with e | ⟨x, e, h1, -⟩
    · rw [e] at hkl; simp at hkl
    · exact ⟨x, Lib.hid ⟨e, h1⟩⟩
  have OM := Lib.hid (show OwnR Mil.cs 5 V (w.heap.size + 1 + 1) (some ⟨x, 0, none⟩) b.mills by have := O4.out.mills; rw [HX.out.1] at this; exact this)
  have hx2 := HX.out.2
  have hxC : x ≠ w3.heap.size := OLD.out.mills x HX.out.1 (by omega)
  obtain ⟨c3, hc3⟩ : ∃ v, V.cell? ⟨x, k * 5 + 3, none⟩ = some v := by
    obtain ⟨b', off', e, _, _, _, _, q3, _⟩ := Mil.at OM.out.1 k hkl
    injection e with e; injection e with e1 e2; subst e1; subst e2
    rw [Nat.zero_add] at q3
    exact ⟨_, q3⟩
  have hfz : ∀ o, V.frozen? ⟨x, o, none⟩ = false := by
    rcases OM.out.2 with e | ⟨x', e, _, _, hm⟩
    · rw [e] at hkl; simp at hkl
    · injection e with e; injection e with e1; subst e1; exact hm.free
  have g := gset (o := k * 5 + 3) (gid V (some x)) (.int .i64 cut)
  have XC := Lib.hid (show CellB V w.heap.size b s from ⟨X4.out.c0, X4.out.c1, X4.out.c2, X4.out.c3, X4.out.c4, X4.out.c5, X4.out.c6, X4.out.c7⟩)
  have X5 := Lib.hid (XC.out.grown g (by omega))
  have C5 := Lib.hid ((recut_cells k cut C4.out).grown g hxC)
  have R5 := Lib.hid (R4.out.keep g (by omega))
  have D5 := Lib.hid (D4.out.setCell (p := ⟨x, k * 5 + 3, none⟩) (show w.heap.size ≤ x by omega) (.int .i64 cut))
  have hyc : Mil.cs ⟨(b.mills.getD k mil0).name, (b.mills.getD k mil0).stake, (b.mills.getD k mil0).shares, cut, (b.mills.getD k mil0).shut⟩ = (Mil.cs b.mills[k]).set 3 (.int .i64 cut) := by rw [getD_mil hkl]; rfl
  have O5 := Lib.hid (show OwnB (V.setCell ⟨x, k * 5 + 3, none⟩ (.int .i64 cut)) (w.heap.size + 1 + 1) (recutO b k cut) s3 from
    ⟨O4.out.folk.apart g (fun y e hy e2 => O4.out.fm y x e HX.out.1 hy (by omega) e2),
     by show OwnR Mil.cs 5 _ _ s3.ma (cutAt b.mills k cut); rw [HX.out.1]; exact OM.out.setRec Mil.len hkl (by omega) hyc,
     O4.out.parts.apart g (fun y e hy e2 => O4.out.mp x y HX.out.1 e (by omega) (length_ne hy) e2.symm),
     O4.out.waits.apart g (fun y e hy e2 => O4.out.mw x y HX.out.1 e (by omega) (length_ne hy) e2.symm),
     by simpa only [recutO, cutAt_len] using O4.out.fm, O4.out.fp, O4.out.fw, by simpa only [recutO, cutAt_len] using O4.out.mp, by simpa only [recutO, cutAt_len] using O4.out.mw, O4.out.pw, ⟨O4.out.rt.f, O4.out.rt.m, O4.out.rt.p, O4.out.rt.w, O4.out.rt.cf, by simpa only [recutO, cutAt_len] using O4.out.rt.cm, O4.out.rt.cp, O4.out.rt.cw⟩⟩)
  have hsz5 : w.heap.size + 1 + 1 ≤ (V.setCell ⟨x, k * 5 + 3, none⟩ (.int .i64 cut)).heap.size := Nat.le_trans (Nat.le_of_lt (Nat.lt_of_le_of_lt hx2 (at_lt hc3))) g.size
  have HLO := Lib.hid (recut_len k cut HL.out)
  have HZO := Lib.hid (recut_sized hkl cut HZ.out)
  obtain ⟨o, HO⟩ : ∃ o, Hid (recutO b k cut = o) := ⟨_, Lib.hid rfl⟩
  rw [HO.out] at C5 O5 HLO HZO HRY
  obtain ⟨V', hV'⟩ : ∃ W, V.setCell ⟨x, k * 5 + 3, none⟩ (.int .i64 cut) = W := ⟨_, rfl⟩
  rw [hV'] at X5 C5 R5 D5 O5 hsz5
  have z5 : V.cell? ⟨w3.heap.size, 5, none⟩ = some (.slice (some ⟨x, 0, none⟩) b.mills.length s3.mc) := by have := C4.out.c5; rw [HX.out.1] at this; exact this
  clear g XC hyc OM O4 X4 R4 D4
  have x0 := X5.out.c0
  have x1 := X5.out.c1
  have x2 := X5.out.c2
  have x3 := X5.out.c3
  have x4 := X5.out.c4
  have x5 := X5.out.c5
  have x6 := X5.out.c6
  have x7 := X5.out.c7
  have y0 := C5.out.c0
  have y1 := C5.out.c1
  have y2 := C5.out.c2
  have y3 := C5.out.c3
  have y4 := C5.out.c4
  have y5 := C5.out.c5
  have y6 := C5.out.c6
  have y7 := C5.out.c7
  go_wp2_with fail
  refine (l8Done_any (b := b) (o := o) (s := s) (t := s3) (HH.out.below D5.out) HR.out HL.out O5.out HLO.out HZO.out hsz5).mono ?_
  obtain ⟨r, Hr⟩ : ∃ r, Hid (doneB b o = r) := ⟨_, Lib.hid rfl⟩
  obtain ⟨c, Hc⟩ : ∃ c, Hid (doneC o = c) := ⟨_, Lib.hid rfl⟩
  rw [Hr.out, Hc.out]
  rw [Hr.out, Hc.out] at HRY
  rintro e w6 ⟨s6, rfl, ho6, hb6⟩
  have R6 := Lib.hid (R5.out.below hb6)
  have D6 := Lib.hid (below_trans D5.out hb6)
  have HE := Lib.hid (show ResK (recutL b name cut).1 (recutL b name cut).2 w.heap.size w (.returned (.tuple #[.agg #[.int .i64 r.season, .int .i64 r.supply, .int .i64 r.burnt, .int .i64 r.pot, .slice s6.fa r.folk.length s6.fc, .slice s6.ma r.mills.length s6.mc, .slice s6.pa r.parts.length s6.pc, .slice s6.wa r.waits.length s6.wc], .int .i64 c])) (putB w6 (w.heap.size + 1) r s6) from by
    rw [HRY.out]
    exact ⟨s6, rfl, (ho6.grown (putB_grown _ _ _ _) (by omega)).mono (by omega), putB_below D6.out (by omega) _ _⟩)
  unfold putB at HE
  clear ho6 hb6
  have r0 := R6.out.has 0 _ rfl
  have r1 := R6.out.has 1 _ rfl
  have r2 := R6.out.has 2 _ rfl
  have r3 := R6.out.has 3 _ rfl
  have r4 := R6.out.has 4 _ rfl
  have r5 := R6.out.has 5 _ rfl
  have r6 := R6.out.has 6 _ rfl
  have r7 := R6.out.has 7 _ rfl
  have rf := R6.out.free
  go_wp2
  exact bodyPost_ret (v := .tuple #[.agg #[.int .i64 r.season, .int .i64 r.supply, .int .i64 r.burnt, .int .i64 r.pot, .slice s6.fa r.folk.length s6.fc, .slice s6.ma r.mills.length s6.mc, .slice s6.pa r.parts.length s6.pc, .slice s6.wa r.waits.length s6.wc], .int .i64 c]) (by simp [results, Tryz.results120, go_sem, r0, r1, r2, r3, r4, r5, r6, r7]) rfl HE.out
end Go.Proofs.YtlnnchgaloejlaaGreat
namespace Go.Proofs.YtlnnchgaloejlaaGreat
open Go.ChangeShapes Go.WideShapes Go.ChangeAt Go.RowKit

/-- That mill is shut no more. -/
def mendAt (ms : List Mil) (k : Nat) : List Mil := ms.set k ⟨(ms.getD k mil0).name, (ms.getD k mil0).stake, (ms.getD k mil0).shares, (ms.getD k mil0).cut, false⟩
def mendO (b : Bok) (k : Nat) : Bok := ⟨b.season, b.supply, b.burnt, b.pot, b.folk, mendAt b.mills k, b.parts, b.waits⟩
theorem mendAt_len (ms : List Mil) (k : Nat) : (mendAt ms k).length = ms.length := by simp [mendAt]
theorem mend_cells {w : World} {B : Nat} {b : Bok} {s : Spots} (k : Nat) (h : CellB w B b s) : CellB w B (mendO b k) s :=
  ⟨h.c0, h.c1, h.c2, h.c3, h.c4, by rw [h.c5]; simp only [mendO, mendAt_len], h.c6, h.c7⟩
theorem mend_len {b : Bok} (k : Nat) (h : BLen b) : BLen (mendO b k) := ⟨h.fl, by simp only [mendO, mendAt_len]; exact h.ml, h.pl, h.wl⟩
theorem mend_name {ms : List Mil} {k : Nat} (hk : k < ms.length) : mnames (mendAt ms k) = mnames ms := by
  apply List.ext_getElem
  · simp [mnames, mendAt]
  · intro i h1 h2
    simp only [mnames, List.length_map, mendAt_len] at h1
    simp only [mnames, mendAt, List.getElem_map, List.getElem_set]
    split
    · rename_i e; subst e; simp [hk]
    · rfl
theorem mend_sized {b : Bok} {k : Nat} (hk : k < b.mills.length) (h : BSized b) : BSized (mendO b k) :=
  ⟨h.fs, by have := h.ms; rw [← mend_name hk] at this; exact this, h.ps, h.ws⟩
/-- What comes of it. -/
noncomputable def mendL (b : Bok) (name : ByteArray) : Bok × Int :=
  if bookB b = true then
    if 0 ≤ placeV (mnames b.mills) name then
      if (b.mills.getD (placeV (mnames b.mills) name).toNat mil0).shut = true then (doneB b (mendO b (placeV (mnames b.mills) name).toNat), doneC (mendO b (placeV (mnames b.mills) name).toNat)) else (b, 2)
    else (b, 1)
  else (bok0, 7)

set_option maxHeartbeats 8000000 in
set_option maxRecDepth 100000 in
theorem sMended_any {w : World} {b : Bok} {s : Spots} (name : ByteArray) (h : BookAt w b s) (hr : Roots b s) (hl : BLen b) (hz : BSized b) :
    Calls Tryz.prog 125 #[.agg #[.int .i64 b.season, .int .i64 b.supply, .int .i64 b.burnt, .int .i64 b.pot, .slice s.fa b.folk.length s.fc, .slice s.ma b.mills.length s.mc, .slice s.pa b.parts.length s.pc, .slice s.wa b.waits.length s.wc], .string name] w (ResK (mendL b name).1 (mendL b name).2 w.heap.size w) := by
  have HH := Lib.hid h
  have HR := Lib.hid hr
  have HL := Lib.hid hl
  have HZ := Lib.hid hz
  have l2 := hl.ml
  have X0 := Lib.hid (BoxB.new h 29)
  have D0 := Lib.hid (below_new w (.cells #[.int .i64 b.season, .int .i64 b.supply, .int .i64 b.burnt, .int .i64 b.pot, .slice s.fa b.folk.length s.fc, .slice s.ma b.mills.length s.mc, .slice s.pa b.parts.length s.pc, .slice s.wa b.waits.length s.wc] 29))
  obtain ⟨W0, hW0⟩ : ∃ W, w.alloc (.cells #[.int .i64 b.season, .int .i64 b.supply, .int .i64 b.burnt, .int .i64 b.pot, .slice s.fa b.folk.length s.fc, .slice s.ma b.mills.length s.mc, .slice s.pa b.parts.length s.pc, .slice s.wa b.waits.length s.wc] 29) = W := ⟨_, rfl⟩
  have hs0 : W0.heap.size = w.heap.size + 1 := by rw [← hW0]; simp
  rw [hW0] at X0 D0
  have bz := below_new W0 (.cells #[.int .i64 0, .int .i64 0, .int .i64 0, .int .i64 0, .slice none 0 0, .slice none 0 0, .slice none 0 0, .slice none 0 0] 29)
  have R1 := Lib.hid (OutV.new W0 [.int .i64 0, .int .i64 0, .int .i64 0, .int .i64 0, .slice none 0 0, .slice none 0 0, .slice none 0 0, .slice none 0 0] 29)
  obtain ⟨W1, hW1⟩ : ∃ W, W0.alloc (.cells #[.int .i64 0, .int .i64 0, .int .i64 0, .int .i64 0, .slice none 0 0, .slice none 0 0, .slice none 0 0, .slice none 0 0] 29) = W := ⟨_, rfl⟩
  rw [show W0.alloc (.cells ([.int .i64 0, .int .i64 0, .int .i64 0, .int .i64 0, .slice none 0 0, .slice none 0 0, .slice none 0 0, .slice none 0 0] : List Value).toArray 29) = W1 from hW1, hs0] at R1
  rw [hW1] at bz
  have X1 := Lib.hid (X0.out.below bz)
  have D1 := Lib.hid (below_trans D0.out bz)
  clear bz X0 D0 h hr hl hz
  have x0 := X1.out.c0
  have x1 := X1.out.c1
  have x2 := X1.out.c2
  have x3 := X1.out.c3
  have x4 := X1.out.c4
  have x5 := X1.out.c5
  have x6 := X1.out.c6
  have x7 := X1.out.c7
  go_enter Tryz.func125, Tryz.ntmps125
  go_wp2_with fail
  refine (sBookOk_any (s := s) X1.out.book HL.out HZ.out).mono ?_
  rintro e w2 ⟨rfl, hb2⟩
  have X2 := Lib.hid (X1.out.below hb2)
  have R2 := Lib.hid (R1.out.below hb2)
  have D2 := Lib.hid (below_trans D1.out hb2)
  clear hb2 X1 R1 D1 x0 x1 x2 x3 x4 x5 x6 x7
  cases hk : bookB b
  · have HE := Lib.hid (show ResK (mendL b name).1 (mendL b name).2 w.heap.size w (.returned (.tuple #[.agg #[.int .i64 0, .int .i64 0, .int .i64 0, .int .i64 0, .slice none 0 0, .slice none 0 0, .slice none 0 0, .slice none 0 0], .int .i64 7])) (putB w2 (w.heap.size + 1) bok0 ⟨none, 0, none, 0, none, 0, none, 0⟩) from by
      have e : mendL b name = (bok0, 7) := by simp [mendL, hk]
      rw [e]
      exact ⟨⟨none, 0, none, 0, none, 0, none, 0⟩, rfl, ownB_nil _ _ _ ⟨.inl ⟨rfl, rfl⟩, .inl ⟨rfl, rfl⟩, .inl ⟨rfl, rfl⟩, .inl ⟨rfl, rfl⟩, Nat.le_refl _, Nat.le_refl _, Nat.le_refl _, Nat.le_refl _⟩, putB_below D2.out (by omega) _ _⟩)
    unfold putB at HE
    have r0 := R2.out.has 0 _ rfl
    have r1 := R2.out.has 1 _ rfl
    have r2 := R2.out.has 2 _ rfl
    have r3 := R2.out.has 3 _ rfl
    have r4 := R2.out.has 4 _ rfl
    have r5 := R2.out.has 5 _ rfl
    have r6 := R2.out.has 6 _ rfl
    have r7 := R2.out.has 7 _ rfl
    have rf := R2.out.free
    go_wp2
    exact bodyPost_ret (v := .tuple #[.agg #[.int .i64 0, .int .i64 0, .int .i64 0, .int .i64 0, .slice none 0 0, .slice none 0 0, .slice none 0 0, .slice none 0 0], .int .i64 7]) (by simp [results, Tryz.results125, go_sem, r0, r1, r2, r3, r4, r5, r6, r7]) rfl HE.out
  have x0 := X2.out.c0
  have x1 := X2.out.c1
  have x2 := X2.out.c2
  have x3 := X2.out.c3
  have x4 := X2.out.c4
  have x5 := X2.out.c5
  have x6 := X2.out.c6
  have x7 := X2.out.c7
  go_wp2_with fail
  refine (l7Copy_any (s := s) X2.out.book HR.out HL.out).mono ?_
  rintro e w3 ⟨s3, rfl, ho3, hb3⟩
  have hlt2 := R2.out.lt
  have O3 := Lib.hid (show OwnB w3 (w.heap.size + 1 + 1) b s3 from ho3.mono (by omega))
  have X3 := Lib.hid (X2.out.below hb3)
  have R3 := Lib.hid (R2.out.below hb3)
  have D3 := Lib.hid (below_trans D2.out hb3)
  clear ho3 hb3 X2 R2 D2 x0 x1 x2 x3 x4 x5 x6 x7
  have bV := below_new w3 (.cells #[.int .i64 b.season, .int .i64 b.supply, .int .i64 b.burnt, .int .i64 b.pot, .slice s3.fa b.folk.length s3.fc, .slice s3.ma b.mills.length s3.mc, .slice s3.pa b.parts.length s3.pc, .slice s3.wa b.waits.length s3.wc] 29)
  have C4 := Lib.hid (CellB.new w3 b s3 29)
  have OLD := Lib.hid (O3.out.at.bold.notIn (Nat.le_refl _))
  obtain ⟨V, hV⟩ : ∃ V, w3.alloc (.cells #[.int .i64 b.season, .int .i64 b.supply, .int .i64 b.burnt, .int .i64 b.pot, .slice s3.fa b.folk.length s3.fc, .slice s3.ma b.mills.length s3.mc, .slice s3.pa b.parts.length s3.pc, .slice s3.wa b.waits.length s3.wc] 29) = V := ⟨_, rfl⟩
  rw [hV] at bV C4
  have O4 := Lib.hid (O3.out.below bV)
  have X4 := Lib.hid (X3.out.below bV)
  have R4 := Lib.hid (R3.out.below bV)
  have D4 := Lib.hid (below_trans D3.out bV)
  have hlt3 := R3.out.lt
  clear bV O3 X3 R3 D3
  have x5 := X4.out.c5
  go_wp2_with fail
  refine (l4Find_any _ _ X4.out.book.mills (by omega)).mono ?_
  rintro e w4 ⟨rfl, rfl⟩
  by_cases hp : 0 ≤ placeV (mnames b.mills) name
  case neg =>
    have HE := Lib.hid (show ResK (mendL b name).1 (mendL b name).2 w.heap.size w (.returned (.tuple #[.agg #[.int .i64 b.season, .int .i64 b.supply, .int .i64 b.burnt, .int .i64 b.pot, .slice s3.fa b.folk.length s3.fc, .slice s3.ma b.mills.length s3.mc, .slice s3.pa b.parts.length s3.pc, .slice s3.wa b.waits.length s3.wc], .int .i64 1])) (putB V (w.heap.size + 1) b s3) from by
      have e : mendL b name = (b, 1) := by simp [mendL, hk, hp]
      rw [e]
      exact ⟨s3, rfl, (O4.out.grown (putB_grown _ _ _ _) (by omega)).mono (by omega), putB_below D4.out (by omega) _ _⟩)
    unfold putB at HE
    have hlo := mplace_lo b.mills name
    have hpe : placeV (mnames b.mills) name = -1 := by omega
    rw [hpe]
    clear hp hpe hlo
    have y0 := C4.out.c0
    have y1 := C4.out.c1
    have y2 := C4.out.c2
    have y3 := C4.out.c3
    have y4 := C4.out.c4
    have y5 := C4.out.c5
    have y6 := C4.out.c6
    have y7 := C4.out.c7
    have r0 := R4.out.has 0 _ rfl
    have r1 := R4.out.has 1 _ rfl
    have r2 := R4.out.has 2 _ rfl
    have r3 := R4.out.has 3 _ rfl
    have r4 := R4.out.has 4 _ rfl
    have r5 := R4.out.has 5 _ rfl
    have r6 := R4.out.has 6 _ rfl
    have r7 := R4.out.has 7 _ rfl
    have rf := R4.out.free
    go_wp2
    exact bodyPost_ret (v := .tuple #[.agg #[.int .i64 b.season, .int .i64 b.supply, .int .i64 b.burnt, .int .i64 b.pot, .slice s3.fa b.folk.length s3.fc, .slice s3.ma b.mills.length s3.mc, .slice s3.pa b.parts.length s3.pc, .slice s3.wa b.waits.length s3.wc], .int .i64 1]) (by simp [results, Tryz.results125, go_sem, r0, r1, r2, r3, r4, r5, r6, r7]) rfl HE.out
  obtain ⟨k, ek, hkl, -⟩ := place_hit hp
  rw [len_mn] at hkl
  have HRL := Lib.hid (show mendL b name = if b.mills[k].shut = true then (doneB b (mendO b k), doneC (mendO b k)) else (b, 2) by
    rw [mendL, if_pos hk, if_pos hp, ek, show ((k : Int)).toNat = k by omega, getD_mil hkl])
  rw [ek]
  clear hp ek hk
  obtain ⟨p, off, ep, hlb, m0, m1, m2, m3, m4⟩ := Mil.at X4.out.book.mills k hkl
  rw [ep] at x5
  clear ep hlb
  obtain ⟨bt, Hbt⟩ : ∃ v, Hid (b.mills[k].shut = v) := ⟨_, Lib.hid rfl⟩
  rw [Hbt.out] at m4
  rw [Hbt.out] at HRL
  cases bt
  · have HE := Lib.hid (show ResK (mendL b name).1 (mendL b name).2 w.heap.size w (.returned (.tuple #[.agg #[.int .i64 b.season, .int .i64 b.supply, .int .i64 b.burnt, .int .i64 b.pot, .slice s3.fa b.folk.length s3.fc, .slice s3.ma b.mills.length s3.mc, .slice s3.pa b.parts.length s3.pc, .slice s3.wa b.waits.length s3.wc], .int .i64 2])) (putB V (w.heap.size + 1) b s3) from by
      have e : mendL b name = (b, 2) := by rw [HRL.out]; rfl
      rw [e]
      exact ⟨s3, rfl, (O4.out.grown (putB_grown _ _ _ _) (by omega)).mono (by omega), putB_below D4.out (by omega) _ _⟩)
    unfold putB at HE
    have y0 := C4.out.c0
    have y1 := C4.out.c1
    have y2 := C4.out.c2
    have y3 := C4.out.c3
    have y4 := C4.out.c4
    have y5 := C4.out.c5
    have y6 := C4.out.c6
    have y7 := C4.out.c7
    have r0 := R4.out.has 0 _ rfl
    have r1 := R4.out.has 1 _ rfl
    have r2 := R4.out.has 2 _ rfl
    have r3 := R4.out.has 3 _ rfl
    have r4 := R4.out.has 4 _ rfl
    have r5 := R4.out.has 5 _ rfl
    have r6 := R4.out.has 6 _ rfl
    have r7 := R4.out.has 7 _ rfl
    have rf := R4.out.free
    go_wp2
    exact bodyPost_ret (v := .tuple #[.agg #[.int .i64 b.season, .int .i64 b.supply, .int .i64 b.burnt, .int .i64 b.pot, .slice s3.fa b.folk.length s3.fc, .slice s3.ma b.mills.length s3.mc, .slice s3.pa b.parts.length s3.pc, .slice s3.wa b.waits.length s3.wc], .int .i64 2]) (by simp [results, Tryz.results125, go_sem, r0, r1, r2, r3, r4, r5, r6, r7]) rfl HE.out
  have HRY := Lib.hid (show mendL b name = (doneB b (mendO b k), doneC (mendO b k)) by rw [HRL.out]; rfl)
  clear HRL m0 m1 m2 m3
  obtain ⟨x, HX⟩ : ∃ x, Hid (s3.ma = some ⟨x, 0, none⟩ ∧ w.heap.size + 1 + 1 ≤ x) := by
    rcases O4.out.mills.2 with e | ⟨x, e, h1, -⟩
    · rw [e] at hkl; simp at hkl
    · exact ⟨x, Lib.hid ⟨e, h1⟩⟩
  have OM := Lib.hid (show OwnR Mil.cs 5 V (w.heap.size + 1 + 1) (some ⟨x, 0, none⟩) b.mills by have := O4.out.mills; rw [HX.out.1] at this; exact this)
  have hx2 := HX.out.2
  have hxC : x ≠ w3.heap.size := OLD.out.mills x HX.out.1 (by omega)
  obtain ⟨c3, hc3⟩ : ∃ v, V.cell? ⟨x, k * 5 + 4, none⟩ = some v := by
    obtain ⟨b', off', e, _, _, _, _, _, q3⟩ := Mil.at OM.out.1 k hkl
    injection e with e; injection e with e1 e2; subst e1; subst e2
    rw [Nat.zero_add] at q3
    exact ⟨_, q3⟩
  have hfz : ∀ o, V.frozen? ⟨x, o, none⟩ = false := by
    rcases OM.out.2 with e | ⟨x', e, _, _, hm⟩
    · rw [e] at hkl; simp at hkl
    · injection e with e; injection e with e1; subst e1; exact hm.free
  have g := gset (o := k * 5 + 4) (gid V (some x)) (.bool false)
  have XC := Lib.hid (show CellB V w.heap.size b s from ⟨X4.out.c0, X4.out.c1, X4.out.c2, X4.out.c3, X4.out.c4, X4.out.c5, X4.out.c6, X4.out.c7⟩)
  have X5 := Lib.hid (XC.out.grown g (by omega))
  have C5 := Lib.hid ((mend_cells k C4.out).grown g hxC)
  have R5 := Lib.hid (R4.out.keep g (by omega))
  have D5 := Lib.hid (D4.out.setCell (p := ⟨x, k * 5 + 4, none⟩) (show w.heap.size ≤ x by omega) (.bool false))
  have hyc : Mil.cs ⟨(b.mills.getD k mil0).name, (b.mills.getD k mil0).stake, (b.mills.getD k mil0).shares, (b.mills.getD k mil0).cut, false⟩ = (Mil.cs b.mills[k]).set 4 (.bool false) := by rw [getD_mil hkl]; rfl
  have O5 := Lib.hid (show OwnB (V.setCell ⟨x, k * 5 + 4, none⟩ (.bool false)) (w.heap.size + 1 + 1) (mendO b k) s3 from
    ⟨O4.out.folk.apart g (fun y e hy e2 => O4.out.fm y x e HX.out.1 hy (by omega) e2),
     by show OwnR Mil.cs 5 _ _ s3.ma (mendAt b.mills k); rw [HX.out.1]; exact OM.out.setRec Mil.len hkl (by omega) hyc,
     O4.out.parts.apart g (fun y e hy e2 => O4.out.mp x y HX.out.1 e (by omega) (length_ne hy) e2.symm),
     O4.out.waits.apart g (fun y e hy e2 => O4.out.mw x y HX.out.1 e (by omega) (length_ne hy) e2.symm),
     by simpa only [mendO, mendAt_len] using O4.out.fm, O4.out.fp, O4.out.fw, by simpa only [mendO, mendAt_len] using O4.out.mp, by simpa only [mendO, mendAt_len] using O4.out.mw, O4.out.pw, ⟨O4.out.rt.f, O4.out.rt.m, O4.out.rt.p, O4.out.rt.w, O4.out.rt.cf, by simpa only [mendO, mendAt_len] using O4.out.rt.cm, O4.out.rt.cp, O4.out.rt.cw⟩⟩)
  have hsz5 : w.heap.size + 1 + 1 ≤ (V.setCell ⟨x, k * 5 + 4, none⟩ (.bool false)).heap.size := Nat.le_trans (Nat.le_of_lt (Nat.lt_of_le_of_lt hx2 (at_lt hc3))) g.size
  have HLO := Lib.hid (mend_len k HL.out)
  have HZO := Lib.hid (mend_sized hkl HZ.out)
  obtain ⟨o, HO⟩ : ∃ o, Hid (mendO b k = o) := ⟨_, Lib.hid rfl⟩
  rw [HO.out] at C5 O5 HLO HZO HRY
  obtain ⟨V', hV'⟩ : ∃ W, V.setCell ⟨x, k * 5 + 4, none⟩ (.bool false) = W := ⟨_, rfl⟩
  rw [hV'] at X5 C5 R5 D5 O5 hsz5
  have z5 : V.cell? ⟨w3.heap.size, 5, none⟩ = some (.slice (some ⟨x, 0, none⟩) b.mills.length s3.mc) := by have := C4.out.c5; rw [HX.out.1] at this; exact this
  clear g XC hyc OM O4 X4 R4 D4
  have x0 := X5.out.c0
  have x1 := X5.out.c1
  have x2 := X5.out.c2
  have x3 := X5.out.c3
  have x4 := X5.out.c4
  have x5 := X5.out.c5
  have x6 := X5.out.c6
  have x7 := X5.out.c7
  have y0 := C5.out.c0
  have y1 := C5.out.c1
  have y2 := C5.out.c2
  have y3 := C5.out.c3
  have y4 := C5.out.c4
  have y5 := C5.out.c5
  have y6 := C5.out.c6
  have y7 := C5.out.c7
  go_wp2_with fail
  refine (l8Done_any (b := b) (o := o) (s := s) (t := s3) (HH.out.below D5.out) HR.out HL.out O5.out HLO.out HZO.out hsz5).mono ?_
  obtain ⟨r, Hr⟩ : ∃ r, Hid (doneB b o = r) := ⟨_, Lib.hid rfl⟩
  obtain ⟨c, Hc⟩ : ∃ c, Hid (doneC o = c) := ⟨_, Lib.hid rfl⟩
  rw [Hr.out, Hc.out]
  rw [Hr.out, Hc.out] at HRY
  rintro e w6 ⟨s6, rfl, ho6, hb6⟩
  have R6 := Lib.hid (R5.out.below hb6)
  have D6 := Lib.hid (below_trans D5.out hb6)
  have HE := Lib.hid (show ResK (mendL b name).1 (mendL b name).2 w.heap.size w (.returned (.tuple #[.agg #[.int .i64 r.season, .int .i64 r.supply, .int .i64 r.burnt, .int .i64 r.pot, .slice s6.fa r.folk.length s6.fc, .slice s6.ma r.mills.length s6.mc, .slice s6.pa r.parts.length s6.pc, .slice s6.wa r.waits.length s6.wc], .int .i64 c])) (putB w6 (w.heap.size + 1) r s6) from by
    rw [HRY.out]
    exact ⟨s6, rfl, (ho6.grown (putB_grown _ _ _ _) (by omega)).mono (by omega), putB_below D6.out (by omega) _ _⟩)
  unfold putB at HE
  clear ho6 hb6
  have r0 := R6.out.has 0 _ rfl
  have r1 := R6.out.has 1 _ rfl
  have r2 := R6.out.has 2 _ rfl
  have r3 := R6.out.has 3 _ rfl
  have r4 := R6.out.has 4 _ rfl
  have r5 := R6.out.has 5 _ rfl
  have r6 := R6.out.has 6 _ rfl
  have r7 := R6.out.has 7 _ rfl
  have rf := R6.out.free
  go_wp2
  exact bodyPost_ret (v := .tuple #[.agg #[.int .i64 r.season, .int .i64 r.supply, .int .i64 r.burnt, .int .i64 r.pot, .slice s6.fa r.folk.length s6.fc, .slice s6.ma r.mills.length s6.mc, .slice s6.pa r.parts.length s6.pc, .slice s6.wa r.waits.length s6.wc], .int .i64 c]) (by simp [results, Tryz.results125, go_sem, r0, r1, r2, r3, r4, r5, r6, r7]) rfl HE.out
end Go.Proofs.YtlnnchgaloejlaaGreat
namespace Go.Proofs.YtlnnchgaloejlaaGreat
open Go.ChangeShapes Go.WideShapes Go.ChangeAt Go.RowKit

theorem setFree_names : ∀ (ps : List Pur) (k : Nat) (v : Int), pnames (setFree ps k v) = pnames ps
  | [], _, _ => rfl
  | p :: r, 0, v => rfl
  | p :: r, k + 1, v => by simpa [setFree, pnames] using setFree_names r k v
end Go.Proofs.YtlnnchgaloejlaaGreat
