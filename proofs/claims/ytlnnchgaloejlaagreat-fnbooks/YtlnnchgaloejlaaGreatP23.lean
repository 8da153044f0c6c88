/-
  Texts joined: LendP.
-/
import Derived.Test.YtlnnchgaloejlaaGreatP15
import Derived.Test.YtlnnchgaloejlaaGreatP21
import Derived.Test.YtlnnchgaloejlaaGreatP22
namespace Go.Proofs.YtlnnchgaloejlaaGreat
open Go.ChangeShapes Go.WideShapes Go.ChangeAt Go.RowKit

theorem resB_some {out : List Par} {ok : Bool} {w : World} {e : Ending} {w' : World} (h : ResB out ok w e w') : ∃ g cap, e = .returned (.tuple #[.slice (some ⟨g, 0, none⟩) out.length cap, .bool ok]) ∧ OwnR Par.cs 3 w' w.heap.size (some ⟨g, 0, none⟩) out ∧ Below w.heap.size w w' ∧ out.length ≤ cap ∧ w.heap.size ≤ g ∧ g < w'.heap.size := by
  obtain ⟨g, cap, he, ho, hb⟩ := h
  obtain ⟨a, c', e1, hr, -⟩ := ownR_of Par.len ho
  injection e1 with e1 e2 e3
  subst e1; subst e3
  exact ⟨_, _, he, hr, hb, (own_some ho).2.1, (row_lt ho).1, (row_lt ho).2⟩
theorem sharesFor_pos {m : Mil} {n : Int} (h : ¬ sharesForV m n < 1) : millB m = true ∧ inB 1 1000000 n = true ∧ inB 0 1000000000 (m.shares + sharesForV m n) = true := by
  unfold sharesForV at h ⊢
  split at h
  · rename_i hc
    rw [if_pos hc]
    simp only [Bool.and_eq_true, buyB] at hc
    exact ⟨hc.1.1, hc.1.2.1, hc.2⟩
  · omega
/-- A mill that was lent. -/
def lendM (m : Mil) (n s : Int) : Mil := ⟨m.name, m.stake + n, m.shares + s, m.cut, m.shut⟩
noncomputable def lendX (x : Bok) (who : ByteArray) (k : Nat) (n : Int) : Bok :=
  (x.wParts (gaveL x.parts who (x.mills.getD k mil0).name (sharesForV (x.mills.getD k mil0) n))).wMills (x.mills.set k (lendM (x.mills.getD k mil0) n (sharesForV (x.mills.getD k mil0) n)))
noncomputable def lendC (x : Bok) (who : ByteArray) (k : Nat) (n : Int) : Int :=
  if sharesForV (x.mills.getD k mil0) n < 1 then 5 else if gaveB x.parts who (x.mills.getD k mil0).name (sharesForV (x.mills.getD k mil0) n) = true then 0 else 6
/-- What lending leaves. -/
def LendRes (x : Bok) (who : ByteArray) (k : Nat) (n : Int) (X C : Nat) (w : World) (e : Ending) (w' : World) : Prop :=
  e = .returned (.int .i64 (lendC x who k n)) ∧ Below C w w' ∧ (lendC x who k n = 0 → ∃ t, MineB w' X C (lendX x who k n) t)

set_option maxRecDepth 100000 in
set_option maxHeartbeats 8000000 in
set_option maxRecDepth 100000 in
theorem l9Lend_any {w : World} {x : Bok} {t : Spots} {X C : Nat} (who : ByteArray) (k : Nat) (n : Int) (h : MineB w X C x t) (hk : k < x.mills.length) (hl : BLen x) (hz : BSized x) (hw : who.size ≤ maxLen) :
    Calls Tryz.prog 151 #[.pointer (some ⟨X, 0, none⟩), .string who, .int .i64 k, .int .i64 n] w (LendRes x who k n X C w) := by
  have H := Lib.hid h
  have HL := Lib.hid hl
  have HZ := Lib.hid hz
  have HW := Lib.hid hw
  have lp := hl.pl
  have lm := hl.ml
  have hXC := h.lo
  have hXw := h.f.2
  clear h hl hz hw
  obtain ⟨y, ey, -, -, m0, m1, m2, m3, m4, mf⟩ := H.out.o.mill hk
  obtain ⟨z, ez⟩ := H.out.p
  have hzs := Lib.hid (show x.mills[k].name.size ≤ maxLen by rw [← mnames_at hk]; exact HZ.out.ms k)
  have HC : Hid (lendC x who k n = if sharesForV x.mills[k] n < 1 then 5 else if gaveB x.parts who x.mills[k].name (sharesForV x.mills[k] n) = true then 0 else 6) := Lib.hid (by rw [lendC, getD_mil hk])
  have HX : Hid (lendX x who k n = (x.wParts (gaveL x.parts who x.mills[k].name (sharesForV x.mills[k] n))).wMills (x.mills.set k (lendM x.mills[k] n (sharesForV x.mills[k] n)))) := Lib.hid (by rw [lendX, getD_mil hk])
  have HPOS := Lib.hid (sharesFor_pos (m := x.mills[k]) (n := n))
  obtain ⟨m, Hm⟩ : ∃ m, Hid (x.mills[k] = m) := ⟨_, Lib.hid rfl⟩
  rw [Hm.out] at m0 m1 m2 m3 m4 hzs HC HX HPOS
  have EY := Lib.hid ey
  have EZ := Lib.hid ez
  have c5 := H.out.c5 EY.out
  clear ey ez
  go_enter Tryz.func151, Tryz.ntmps151
  go_wp2_with fail
  refine (sSharesFor_any m n _ hzs.out).mono ?_
  rintro e w1 ⟨rfl, hb⟩
  obtain ⟨s, HS⟩ : ∃ s, Hid (sharesForV m n = s) := ⟨_, Lib.hid rfl⟩
  rw [HS.out] at HC HX HPOS
  rw [HS.out]
  have D1 := Lib.hid hb
  have sz1 := hb.size
  clear hb m0 m1 m2 m3 m4 mf c5
  by_cases h1 : s < 1
  · have HN := Lib.hid (show LendRes x who k n X C w (.returned (.int .i64 5)) w1 from by
      have e : lendC x who k n = 5 := HC.out.trans (if_pos h1)
      exact ⟨by rw [e], D1.out.mono (by omega), fun h => by rw [e] at h; omega⟩)
    go_wp2
    go_ret
    exact HN.out
  have HC2 := Lib.hid (HC.out.trans (if_neg h1))
  obtain ⟨hm1, hm2, hm3⟩ := HPOS.out (by omega)
  have hmp := millB_parts hm1
  have hn1 := inB_true hm2
  have hn2 := inB_true hm3
  clear hm1 hm2 hm3 HC HPOS
  have M1 := Lib.hid (H.out.below D1.out)
  have T1 := Lib.hid (M1.out.millC EY.out hk Hm.out)
  have m0 := T1.out.c0
  have c5 := M1.out.c5 EY.out
  have c6 := M1.out.c.c6
  rw [EZ.out] at c6
  have PP := Lib.hid (show Recs Par.cs w1 (some ⟨z, 0, none⟩) x.parts by have := M1.out.o.parts.1; rw [EZ.out] at this; exact this)
  have HK := Lib.hid (sGave_any (w := w1.drew) t.pc who m.name s PP.out M1.out.o.rt.cp lp HZ.out.ps HW.out hzs.out)
  have HKO : Hid (∀ w2 e, ResB (gaveL x.parts who m.name s) (gaveB x.parts who m.name s) w1.drew e w2 → ∃ g cg, e = .returned (.tuple #[.slice (some ⟨g, 0, none⟩) (gaveL x.parts who m.name s).length cg, .bool (gaveB x.parts who m.name s)]) ∧ OwnR Par.cs 3 w2 w1.heap.size (some ⟨g, 0, none⟩) (gaveL x.parts who m.name s) ∧ Below w1.heap.size w1 w2 ∧ (gaveL x.parts who m.name s).length ≤ cg ∧ w1.heap.size ≤ g) := by
    intro w2 e hres
    obtain ⟨g, cg, rfl, hog, hb, hcg, hg0, hg1⟩ := resB_some hres
    exact ⟨g, cg, rfl, hog, below_trans (show Below w1.heap.size w1 w1.drew from below_draws (Below.refl _ _) 1) hb, hcg, hg0⟩
  go_wp2_with fail
  go_region_with (go_at_call 91; refine HK.out.mono ?_; rintro e w2 hres; obtain ⟨g, cg, rfl, hog, hb, hcg, hg0⟩ := HKO.out w2 e hres; have OG := Lib.hid hog; have D2 := Lib.hid hb; have HCG := Lib.hid hcg; have HG0 := Lib.hid hg0; have sz2 := hb.size; clear hres hog hb hcg hg0)
  all_goals
    clear m0 c5 c6
    cases hgb : gaveB x.parts who m.name s
    · have HN := Lib.hid (show LendRes x who k n X C w (.returned (.int .i64 6)) w2 from by
        have e : lendC x who k n = 6 := HC2.out.trans (if_neg (by rw [hgb]; decide))
        exact ⟨by rw [e], (below_trans D1.out D2.out).mono (by omega), fun h => by rw [e] at h; omega⟩)
      go_wp2
      go_ret
      exact HN.out
    have HC3 := Lib.hid (HC2.out.trans (if_pos hgb))
    clear hgb
    obtain ⟨out, HO⟩ : ∃ l, Hid (gaveL x.parts who m.name s = l) := ⟨_, Lib.hid rfl⟩
    rw [HO.out] at OG HCG
    have HX2 := Lib.hid HX.out
    rw [HO.out] at HX2
    rw [HO.out]
    have M2 := Lib.hid (M1.out.below D2.out)
    have k6 := M2.out.c.c6
    have kf := M2.out.f.1
    obtain ⟨V3, hV3⟩ : ∃ W, w2.setCell ⟨X, 6, none⟩ (.slice (some ⟨g, 0, none⟩) out.length cg) = W := ⟨_, rfl⟩
    obtain ⟨xA, HXA⟩ : ∃ q, Hid (x.wParts out = q) := ⟨_, Lib.hid rfl⟩
    obtain ⟨tA, HTA⟩ : ∃ q, Hid (t.wP (some ⟨g, 0, none⟩) cg = q) := ⟨_, Lib.hid rfl⟩
    have M3 := Lib.hid (show MineB V3 X C xA tA by rw [← hV3, ← HXA.out, ← HTA.out]; exact M1.out.putParts D2.out OG.out HCG.out HG0.out)
    have D3 := Lib.hid (show Below C w V3 by rw [← hV3]; exact ((below_trans D1.out D2.out).mono (show C ≤ w.heap.size by omega)).setCell hXC _)
    have eA := Lib.hid (show tA.ma = some ⟨y, 0, none⟩ by rw [← HTA.out]; exact EY.out)
    have hkA : k < xA.mills.length := by rw [← HXA.out]; exact hk
    have HmA := Lib.hid (show xA.mills[k] = m by have e := HXA.out; subst e; exact Hm.out)
    have hCy := M3.out.loM eA.out hkA
    have T3 := Lib.hid (M3.out.millC eA.out hkA HmA.out)
    have q5 := M3.out.c5 eA.out
    have q1 := T3.out.c1
    -- a draw, and its stake
    have M3u := Lib.hid M3.out.draw
    have D3u := Lib.hid (show Below C w V3.drew from D3.out.trans ((show Below V3.heap.size V3 V3.drew from below_draws (Below.refl _ _) 1).mono M3.out.base))
    obtain ⟨U3, hU3⟩ : ∃ W, V3.drew = W := ⟨_, rfl⟩
    rw [hU3] at M3u D3u
    have T3u := Lib.hid (M3u.out.millC eA.out hkA HmA.out)
    have p5 := M3u.out.c5 eA.out
    have p1 := T3u.out.c1
    have pf := T3u.out.f
    obtain ⟨mB, HmB⟩ : ∃ q, Hid ((⟨m.name, m.stake + n, m.shares, m.cut, m.shut⟩ : Mil) = q) := ⟨_, Lib.hid rfl⟩
    obtain ⟨V4, hV4⟩ : ∃ W, U3.setCell ⟨y, k * 5 + 1, none⟩ (.int .i64 (m.stake + n)) = W := ⟨_, rfl⟩
    have M4 := Lib.hid (show MineB V4 X C (xA.wMills (xA.mills.set k mB)) tA by rw [← hV4]; exact M3u.out.setMill eA.out hkA (by omega) (by rw [HmA.out, ← HmB.out]; rfl))
    have D4 := Lib.hid (show Below C w V4 by rw [← hV4]; exact D3u.out.setCell hCy _)
    have T4 := Lib.hid (M4.out.millC eA.out (set_mill xA hkA mB) (set_at xA hkA mB))
    have r5 := M4.out.c5 eA.out
    rw [set_len] at r5
    have r2 : V4.cell? ⟨y, k * 5 + 2, none⟩ = some (.int .i64 m.shares) := by have := T4.out.c2; rw [← HmB.out] at this; exact this
    -- a draw, and its shares
    have M4u := Lib.hid M4.out.draw
    have D4u := Lib.hid (show Below C w V4.drew from D4.out.trans ((show Below V4.heap.size V4 V4.drew from below_draws (Below.refl _ _) 1).mono M4.out.base))
    obtain ⟨U4, hU4⟩ : ∃ W, V4.drew = W := ⟨_, rfl⟩
    rw [hU4] at M4u D4u
    have T4u := Lib.hid (M4u.out.millC eA.out (set_mill xA hkA mB) (set_at xA hkA mB))
    have s5 := M4u.out.c5 eA.out
    rw [set_len] at s5
    have s2 : U4.cell? ⟨y, k * 5 + 2, none⟩ = some (.int .i64 m.shares) := by have := T4u.out.c2; rw [← HmB.out] at this; exact this
    have sf := T4u.out.f
    obtain ⟨V5, hV5⟩ : ∃ W, U4.setCell ⟨y, k * 5 + 2, none⟩ (.int .i64 (m.shares + s)) = W := ⟨_, rfl⟩
    have M5 := Lib.hid (show MineB V5 X C (xA.wMills (xA.mills.set k (lendM m n s))) tA by rw [← hV5, ← set_twice xA k mB (lendM m n s)]; exact M4u.out.setMill eA.out (set_mill xA hkA mB) (by omega) (by rw [set_at xA hkA mB, ← HmB.out]; rfl))
    have D5 := Lib.hid (show Below C w V5 by rw [← hV5]; exact D4u.out.setCell hCy _)
    have HE := Lib.hid (show LendRes x who k n X C w (.returned (.int .i64 0)) V5 from by
      refine ⟨by rw [HC3.out], D5.out, fun _ => ⟨tA, ?_⟩⟩
      rw [HX2.out]
      have := M5.out
      rw [← HXA.out] at this
      exact this)
    go_wp2
    go_still_tail 15, (by kernel_rfl)
    change wpList _ _ _ _ _ V3.drew
    rw [hU3]
    go_wp2
    rw [hV4]
    go_still_tail 15, (by kernel_rfl)
    change wpList _ _ _ _ _ V4.drew
    rw [hU4]
    go_wp2
    rw [hV5]
    go_ret
    exact HE.out

theorem worth_bd {m : Mil} (n : Int) (h : millB m = true) : -1 ≤ worthV m n ∧ worthV m n ≤ m.stake := by
  have hb := millB_parts h
  cases h1 : inB 0 m.shares n
  · rw [worth_not h1]; omega
  · have h2 := inB_true h1
    by_cases h3 : m.shares = 0
    · rw [worth_zero h h1 h3]; omega
    · rw [worth_down h h1 h3]
      unfold downV
      split
      · have hp : 0 < m.shares := by omega
        have : n * m.stake ≤ m.stake * m.shares := by rw [Int.mul_comm]; exact Int.mul_le_mul_of_nonneg_left h2.2 hb.1.1
        have h5 := Int.ediv_le_ediv hp this
        rw [Int.mul_ediv_cancel _ (by omega)] at h5
        have h6 : 0 ≤ n * m.stake / m.shares := Int.ediv_nonneg (Int.mul_nonneg h2.1 hb.1.1) (by omega)
        omega
      · omega
/-- A mill of which shares were loosened. -/
def lessM (m : Mil) (v n : Int) : Mil := ⟨m.name, if m.shares - n = 0 then 0 else m.stake - v, m.shares - n, m.cut, m.shut⟩
def lessPot (p : Int) (m : Mil) (v n : Int) : Int := if m.shares - n = 0 then p + (m.stake - v) else p
noncomputable def lessX (x : Bok) (who : ByteArray) (k : Nat) (n : Int) : Bok :=
  ((x.wParts (tookL x.parts who (x.mills.getD k mil0).name n)).wPot (lessPot x.pot (x.mills.getD k mil0) (worthV (x.mills.getD k mil0) n) n)).wMills (x.mills.set k (lessM (x.mills.getD k mil0) (worthV (x.mills.getD k mil0) n) n))
/-- What loosening leaves. -/
def LessRes (x : Bok) (who : ByteArray) (k : Nat) (n : Int) (X C : Nat) (w : World) (e : Ending) (w' : World) : Prop :=
  e = .returned (.int .i64 (worthV (x.mills.getD k mil0) n)) ∧ Below C w w' ∧ ∃ t, MineB w' X C (lessX x who k n) t

set_option maxRecDepth 100000 in
set_option maxHeartbeats 8000000 in
set_option maxRecDepth 100000 in
theorem l10Less_any {w : World} {x : Bok} {t : Spots} {X C : Nat} (who : ByteArray) (k : Nat) (n : Int) (h : MineB w X C x t) (hk : k < x.mills.length) (hl : BLen x) (hz : BSized x) (hw : who.size ≤ maxLen)
    (hm : millB x.mills[k] = true) (hn0 : 1 ≤ n) (hn1 : n ≤ 1000000000) (hp0 : 0 ≤ x.pot) (hp1 : x.pot ≤ 1000000) :
    Calls Tryz.prog 153 #[.pointer (some ⟨X, 0, none⟩), .string who, .int .i64 k, .int .i64 n] w (LessRes x who k n X C w) := by
  have H := Lib.hid h
  have HL := Lib.hid hl
  have HZ := Lib.hid hz
  have HW := Lib.hid hw
  have lp := hl.pl
  have lm := hl.ml
  have hXC := h.lo
  have hXw := h.f.2
  have hbd := worth_bd n hm
  have hmp := millB_parts hm
  clear h hl hz hw hm
  obtain ⟨y, ey, hy0, hy1, m0, m1, m2, m3, m4, mf⟩ := H.out.o.mill hk
  obtain ⟨z, ez⟩ := H.out.p
  have hzs := Lib.hid (show x.mills[k].name.size ≤ maxLen by rw [← mnames_at hk]; exact HZ.out.ms k)
  have HV : Hid (LessRes x who k n X C w = fun e w' => e = .returned (.int .i64 (worthV x.mills[k] n)) ∧ Below C w w' ∧ ∃ t, MineB w' X C (((x.wParts (tookL x.parts who x.mills[k].name n)).wPot (lessPot x.pot x.mills[k] (worthV x.mills[k] n) n)).wMills (x.mills.set k (lessM x.mills[k] (worthV x.mills[k] n) n))) t) := Lib.hid (by unfold LessRes lessX; rw [getD_mil hk])
  have HSET : Hid (∀ (m' : Mil), (x.mills.set k m').length = x.mills.length) := Lib.hid fun _ => List.length_set
  obtain ⟨m, Hm⟩ : ∃ m, Hid (x.mills[k] = m) := ⟨_, Lib.hid rfl⟩
  rw [Hm.out] at m0 m1 m2 m3 m4 hzs HV hbd hmp
  have c5 := H.out.c.c5
  have EY := Lib.hid ey
  have EZ := Lib.hid ez
  rw [ey] at c5
  clear ey ez
  go_enter Tryz.func153, Tryz.ntmps153
  go_wp2_with fail
  refine (sWorth_any m n _ hzs.out).mono ?_
  rintro e w1 ⟨rfl, hb⟩
  obtain ⟨v, HS⟩ : ∃ v, Hid (worthV m n = v) := ⟨_, Lib.hid rfl⟩
  rw [HS.out] at HV hbd
  rw [HS.out]
  have D1 := Lib.hid hb
  have sz1 := hb.size
  clear hb m0 m1 m2 m3 m4 mf c5
  have M1 := Lib.hid (H.out.below D1.out)
  obtain ⟨y', ey', -, -, m0, -, -, -, -, mf⟩ := M1.out.o.mill hk
  rw [EY.out] at ey'; injection ey' with ey'; injection ey' with ey'; subst ey'
  rw [Hm.out] at m0
  have c6 := M1.out.c.c6
  rw [EZ.out] at c6
  have PP := Lib.hid (show Recs Par.cs w1 (some ⟨z, 0, none⟩) x.parts by have := M1.out.o.parts.1; rw [EZ.out] at this; exact this)
  have HK := Lib.hid (sTook_any (w := w1.drew) t.pc who m.name n PP.out M1.out.o.rt.cp lp HZ.out.ps)
  have HKO : Hid (∀ w2 e, ResB (tookL x.parts who m.name n) (tookB x.parts who m.name n) w1.drew e w2 → ∃ g cg U, e = .returned (.tuple #[.slice (some ⟨g, 0, none⟩) (tookL x.parts who m.name n).length cg, .bool (tookB x.parts who m.name n)]) ∧ w2.setCell ⟨X, 6, none⟩ (.slice (some ⟨g, 0, none⟩) (tookL x.parts who m.name n).length cg) = U ∧ MineB U X C (x.wParts (tookL x.parts who m.name n)) (t.wP (some ⟨g, 0, none⟩) cg) ∧ Below C w U ∧ w2.cell? ⟨X, 6, none⟩ = some (.slice t.pa x.parts.length t.pc) ∧ (∀ o, w2.frozen? ⟨X, o, none⟩ = false)) := by
    intro w2 e hres
    obtain ⟨g, cg, rfl, hog, hb, hcg, hg0, hg1⟩ := resB_some hres
    have hM := M1.out.draw
    refine ⟨g, cg, _, rfl, rfl, hM.putParts hb hog hcg hg0, ?_, (hM.below hb).c.c6, (hM.below hb).f.1⟩
    have hC := M1.out.base
    exact (((D1.out.mono (by omega)).trans ((show Below w1.heap.size w1 w1.drew from below_draws (Below.refl _ _) 1).mono hC)).trans (hb.mono hC)).setCell hXC _
  have hyX : y ≠ X := H.out.n.mills y EY.out (by omega)
  go_wp2_with fail
  go_region_with (go_at_call 172; refine HK.out.mono ?_; rintro e w2 hres; obtain ⟨g, cg, V3, rfl, hV3, hM3, hD3, k6, kf⟩ := HKO.out w2 e hres; have M3 := Lib.hid hM3; have D3 := Lib.hid hD3; clear hres hM3 hD3)
  all_goals
    obtain ⟨xA, HXA⟩ : ∃ q, Hid (x.wParts (tookL x.parts who m.name n) = q) := ⟨_, Lib.hid rfl⟩
    obtain ⟨tA, HTA⟩ : ∃ q, Hid (t.wP (some ⟨g, 0, none⟩) cg = q) := ⟨_, Lib.hid rfl⟩
    have eA := Lib.hid (show tA.ma = some ⟨y, 0, none⟩ by rw [← HTA.out]; exact EY.out)
    have hkA : k < xA.mills.length := by rw [← HXA.out]; exact hk
    have HmA := Lib.hid (show xA.mills[k] = m by have := Hm.out; subst_eqs; have e := HXA.out; subst e; exact Hm.out)
    have HpA := Lib.hid (show xA.pot = x.pot by rw [← HXA.out]; rfl)
    rw [HXA.out, HTA.out] at M3
    have T3 := Lib.hid (M3.out.millC eA.out hkA HmA.out)
    have hCy := M3.out.loM eA.out hkA
    obtain ⟨mB, HmB⟩ : ∃ q, Hid ((⟨m.name, m.stake - v, m.shares, m.cut, m.shut⟩ : Mil) = q) := ⟨_, Lib.hid rfl⟩
    obtain ⟨V4, hV4⟩ : ∃ W, V3.setCell ⟨y, k * 5 + 1, none⟩ (.int .i64 (m.stake - v)) = W := ⟨_, rfl⟩
    have M4 := Lib.hid (show MineB V4 X C (xA.wMills (xA.mills.set k mB)) tA by rw [← hV4]; exact M3.out.setMill eA.out hkA (by omega) (by rw [HmA.out, ← HmB.out]; rfl))
    have D4 := Lib.hid (show Below C w V4 by rw [← hV4]; exact D3.out.setCell hCy _)
    have T4 := Lib.hid (M4.out.millC eA.out (set_mill xA hkA mB) (set_at xA hkA mB))
    obtain ⟨mC, HmC⟩ : ∃ q, Hid ((⟨m.name, m.stake - v, m.shares - n, m.cut, m.shut⟩ : Mil) = q) := ⟨_, Lib.hid rfl⟩
    obtain ⟨V5, hV5⟩ : ∃ W, V4.setCell ⟨y, k * 5 + 2, none⟩ (.int .i64 (m.shares - n)) = W := ⟨_, rfl⟩
    have M5 := Lib.hid (show MineB V5 X C (xA.wMills (xA.mills.set k mC)) tA by rw [← hV5, ← set_twice xA k mB mC]; exact M4.out.setMill eA.out (set_mill xA hkA mB) (by omega) (by rw [set_at xA hkA mB, ← HmB.out, ← HmC.out]; rfl))
    have D5 := Lib.hid (show Below C w V5 by rw [← hV5]; exact D4.out.setCell hCy _)
    have T5 := Lib.hid (M5.out.millC eA.out (set_mill xA hkA mC) (set_at xA hkA mC))
    have q1 := T3.out.c1
    have qf := T3.out.f
    have r2 : V4.cell? ⟨y, k * 5 + 2, none⟩ = some (.int .i64 m.shares) := by have := T4.out.c2; rw [← HmB.out] at this; exact this
    have rf := T4.out.f
    have s1 : V5.cell? ⟨y, k * 5 + 1, none⟩ = some (.int .i64 (m.stake - v)) := by have := T5.out.c1; rw [← HmC.out] at this; exact this
    have s2 : V5.cell? ⟨y, k * 5 + 2, none⟩ = some (.int .i64 (m.shares - n)) := by have := T5.out.c2; rw [← HmC.out] at this; exact this
    have sf := T5.out.f
    have u3 : V5.cell? ⟨X, 3, none⟩ = some (.int .i64 x.pot) := by have := M5.out.c.c3; rw [show (xA.wMills (xA.mills.set k mC)).pot = x.pot from HpA.out] at this; exact this
    have uf := M5.out.f.1
    clear k6 kf
    by_cases hz : m.shares - n = 0
    case neg =>
      have HE := Lib.hid (show LessRes x who k n X C w (.returned (.int .i64 v)) V5 from by
        rw [HV.out]
        refine ⟨rfl, D5.out, tA, ?_⟩
        have e1 : lessPot x.pot m v n = x.pot := by rw [lessPot, if_neg hz]
        have e2 : lessM m v n = mC := by rw [lessM, if_neg hz]; exact HmC.out
        rw [e1, e2]
        have := M5.out
        rw [← HXA.out] at this
        exact this)
      have hzb : (m.shares - n == 0) = false := by simp [hz]
      clear hz
      go_wp2
      go_ret
      exact HE.out
    have M6 := Lib.hid M5.out.draw
    have D6 := Lib.hid (show Below C w V5.drew from D5.out.trans ((show Below V5.heap.size V5 V5.drew from below_draws (Below.refl _ _) 1).mono M5.out.base))
    obtain ⟨U5, hU5⟩ : ∃ W, V5.drew = W := ⟨_, rfl⟩
    rw [hU5] at M6 D6
    have v3 : U5.cell? ⟨X, 3, none⟩ = some (.int .i64 x.pot) := by have := M6.out.c.c3; rw [show (xA.wMills (xA.mills.set k mC)).pot = x.pot from HpA.out] at this; exact this
    have vf := M6.out.f.1
    have T6 := Lib.hid (M6.out.millC eA.out (set_mill xA hkA mC) (set_at xA hkA mC))
    have v1 : U5.cell? ⟨y, k * 5 + 1, none⟩ = some (.int .i64 (m.stake - v)) := by have := T6.out.c1; rw [← HmC.out] at this; exact this
    obtain ⟨V6, hV6⟩ : ∃ W, U5.setCell ⟨X, 3, none⟩ (.int .i64 (x.pot + (m.stake - v))) = W := ⟨_, rfl⟩
    have M7 := Lib.hid (show MineB V6 X C ((xA.wPot (x.pot + (m.stake - v))).wMills (xA.mills.set k mC)) tA by rw [← hV6]; exact M6.out.setPot _)
    have D7 := Lib.hid (show Below C w V6 by rw [← hV6]; exact D6.out.setCell hXC _)
    have T7 := Lib.hid (M7.out.millC eA.out (set_mill xA hkA mC) (set_at xA hkA mC))
    have w1' := T7.out.c1
    have wf := T7.out.f
    obtain ⟨V7, hV7⟩ : ∃ W, V6.setCell ⟨y, k * 5 + 1, none⟩ (.int .i64 0) = W := ⟨_, rfl⟩
    have hls : lessM m v n = ⟨m.name, 0, m.shares - n, m.cut, m.shut⟩ := by rw [lessM, if_pos hz]
    have M8 := Lib.hid (show MineB V7 X C ((xA.wPot (x.pot + (m.stake - v))).wMills (xA.mills.set k (lessM m v n))) tA by
      have h8 : MineB V7 X C (((xA.wPot (x.pot + (m.stake - v))).wMills ((xA.wPot (x.pot + (m.stake - v))).mills.set k mC)).wMills (((xA.wPot (x.pot + (m.stake - v))).wMills ((xA.wPot (x.pot + (m.stake - v))).mills.set k mC)).mills.set k (lessM m v n))) tA := by
        rw [← hV7]
        exact M7.out.setMill eA.out (set_mill xA hkA mC) (by omega) (by rw [show ((xA.wPot (x.pot + (m.stake - v))).wMills (xA.mills.set k mC)).mills[k]'(set_mill xA hkA mC) = mC from set_at xA hkA mC, ← HmC.out, hls]; rfl)
      rw [set_twice] at h8
      exact h8)
    have D8 := Lib.hid (show Below C w V7 by rw [← hV7]; exact D7.out.setCell hCy _)
    have HE := Lib.hid (show LessRes x who k n X C w (.returned (.int .i64 v)) V7 from by
      rw [HV.out]
      refine ⟨rfl, D8.out, tA, ?_⟩
      have e1 : lessPot x.pot m v n = x.pot + (m.stake - v) := by rw [lessPot, if_pos hz]
      rw [e1]
      have := M8.out
      rw [← HXA.out] at this
      exact this)
    have hzb : (m.shares - n == 0) = true := by simp [hz]
    have w1 : V6.cell? ⟨y, k * 5 + 1, none⟩ = some (.int .i64 (m.stake - v)) := by have := w1'; rw [← HmC.out] at this; exact this
    clear hz w1' hls
    go_wp2
    go_still_tail 10, (by kernel_rfl)
    change wpList _ _ _ _ _ V5.drew
    rw [hU5]
    go_wp2
    go_ret
    exact HE.out
end Go.Proofs.YtlnnchgaloejlaaGreat
